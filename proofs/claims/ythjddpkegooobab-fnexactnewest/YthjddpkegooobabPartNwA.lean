import Derived.Test.YthjddpkegooobabRows
import Derived.WalkKit
import Derived.WalkSpells
import Derived.Deep.OwnRows
import Derived.Deep.AppendLies
import Derived.WalkLawsBesides
import Derived.Deep.RegionHeld3
import Derived.Deep.QuietTactic
import Derived.BigQuiet
import Derived.Lib.AppendStr
import Derived.Laws.BitsAllLaws

/-
  PLAIN: graphs as lists and numbers. Own work.
-/
namespace Go.Proofs.Ythjddpkegooobab

structure GV where
  kind : Int
  num : Int
  text : ByteArray
  node : Int
  deriving Inhabited

structure GN where
  tag : Int
  vals : List GV
  deriving Inhabited

structure GG where
  root : GV
  nodes : List GN

/-- what fits an int64 -/
def I64 (n : Int) : Prop := -9223372036854775808 ≤ n ∧ n ≤ 9223372036854775807

structure GV.Ok (v : GV) : Prop where
  kind : I64 v.kind
  num : I64 v.num
  text : v.text.size ≤ maxLen
  node : I64 v.node

structure GN.Ok (n : GN) : Prop where
  tag : I64 n.tag
  len : n.vals.length ≤ maxLen
  vals : ∀ v, v ∈ n.vals → v.Ok

structure GG.Ok (g : GG) : Prop where
  root : g.root.Ok
  len : g.nodes.length ≤ maxLen
  nodes : ∀ n, n ∈ g.nodes → n.Ok

def GV.sz (v : GV) : Int := v.text.size
def szVals : List GV → Int
  | [] => 0
  | v :: r => v.sz + szVals r
def GN.sz (n : GN) : Int := n.vals.length + szVals n.vals
def szNodes : List GN → Int
  | [] => 0
  | n :: r => n.sz + szNodes r
def GG.sz (g : GG) : Int := g.root.sz + g.nodes.length + szNodes g.nodes

theorem GV.sz_nonneg (v : GV) : 0 ≤ v.sz := Int.natCast_nonneg _
theorem szVals_nonneg (l : List GV) : 0 ≤ szVals l := by
  induction l with
  | nil => simp [szVals]
  | cons v r ih => have := v.sz_nonneg; simp only [szVals]; omega
theorem GN.sz_nonneg (n : GN) : 0 ≤ n.sz := by have := szVals_nonneg n.vals; unfold GN.sz; omega
theorem szNodes_nonneg (l : List GN) : 0 ≤ szNodes l := by
  induction l with
  | nil => simp [szNodes]
  | cons v r ih => have := v.sz_nonneg; simp only [szNodes]; omega

theorem szVals_append (a b : List GV) : szVals (a ++ b) = szVals a + szVals b := by
  induction a with
  | nil => simp [szVals]
  | cons v r ih => simp only [List.cons_append, szVals, ih]; omega
theorem szNodes_append (a b : List GN) : szNodes (a ++ b) = szNodes a + szNodes b := by
  induction a with
  | nil => simp [szNodes]
  | cons v r ih => simp only [List.cons_append, szNodes, ih]; omega

theorem take_snoc {α : Type} [Inhabited α] (l : List α) (k : Nat) (h : k < l.length) : l.take (k + 1) = l.take k ++ [l[k]!] := by
  rw [List.take_succ_eq_append_getElem h, getElem!_pos l k h]

theorem szVals_take_succ (l : List GV) (k : Nat) (h : k < l.length) : szVals (l.take (k + 1)) = szVals (l.take k) + l[k]!.sz := by
  rw [take_snoc l k h, szVals_append]; simp [szVals]
theorem szNodes_take_succ (l : List GN) (k : Nat) (h : k < l.length) : szNodes (l.take (k + 1)) = szNodes (l.take k) + l[k]!.sz := by
  rw [take_snoc l k h, szNodes_append]; simp [szNodes]
theorem szVals_take_le (l : List GV) (k : Nat) : szVals (l.take k) ≤ szVals l := by
  have h : szVals l = szVals (l.take k) + szVals (l.drop k) := by rw [← szVals_append, List.take_append_drop]
  have := szVals_nonneg (l.drop k); omega
theorem szNodes_take_le (l : List GN) (k : Nat) : szNodes (l.take k) ≤ szNodes l := by
  have h : szNodes l = szNodes (l.take k) + szNodes (l.drop k) := by rw [← szNodes_append, List.take_append_drop]
  have := szNodes_nonneg (l.drop k); omega

/-- what is left behind so much -/
def leftBy (left s : Int) : Int := if left - s < 0 then -1 else left - s

theorem mem_at {α : Type} [Inhabited α] {l : List α} {k : Nat} (h : k < l.length) : l[k]! ∈ l := by
  rw [getElem!_pos l k h]; exact List.getElem_mem h

end Go.Proofs.Ythjddpkegooobab

/-
  MEM: how graphs lie in memory. Own work.
-/
namespace Go.Proofs.Ythjddpkegooobab
open Go.RowKit

/-- a value of four cells at a place -/
structure ValAt (w : World) (b off : Nat) (v : GV) : Prop where
  kind : w.cell? ⟨b, off, none⟩ = some (.int .i64 v.kind)
  num : w.cell? ⟨b, off + 1, none⟩ = some (.int .i64 v.num)
  text : w.cell? ⟨b, off + 2, none⟩ = some (.string v.text)
  node : w.cell? ⟨b, off + 3, none⟩ = some (.int .i64 v.node)

abbrev GV.val (v : GV) : Value := .agg #[.int .i64 v.kind, .int .i64 v.num, .string v.text, .int .i64 v.node]

/-- a slice of values: at each place its block (below the bound) and its cells -/
def ValsAt (B : Nat) (w : World) (a : Option Addr) (vs : List GV) : Prop :=
  ∀ i, i < vs.length → ∃ b off, a = some ⟨b, off, none⟩ ∧ b < B ∧ ValAt w b (off + i * 4) vs[i]!

theorem ValsAt.get {B : Nat} {w : World} {a : Option Addr} {vs : List GV} (h : ValsAt B w a vs) {k : Nat} (hk : k < vs.length) :
    ∃ v b off, Hid (v = vs[k]!) ∧ v ∈ vs ∧ a = some ⟨b, off, none⟩ ∧ b < B ∧ ValAt w b (off + k * 4) v := by
  obtain ⟨b, off, ha, hb, hv⟩ := h k hk
  exact ⟨vs[k]!, b, off, rfl, mem_at hk, ha, hb, hv⟩

/-- blocks that are as they were -/
def Same (p : Nat → Prop) (w w' : World) : Prop := ∀ k, p k → w'.heap[k]? = w.heap[k]?

theorem ValAt.same {w w' : World} {b off : Nat} {v : GV} (h : ValAt w b off v) (hs : w'.heap[b]? = w.heap[b]?) : ValAt w' b off v :=
  ⟨(World.cell?_of_block (w := w) hs).trans h.kind, (World.cell?_of_block (w := w) hs).trans h.num, (World.cell?_of_block (w := w) hs).trans h.text, (World.cell?_of_block (w := w) hs).trans h.node⟩

theorem ValAt.below {B : Nat} {w w' : World} {b off : Nat} {v : GV} (h : ValAt w b off v) (hs : Below B w w') (hb : b < B) : ValAt w' b off v := h.same (hs.block b hb)

theorem ValsAt.below {B : Nat} {w w' : World} {a : Option Addr} {vs : List GV} (h : ValsAt B w a vs) (hs : Below B w w') : ValsAt B w' a vs := fun i hi => by
  obtain ⟨b, off, ha, hb, hv⟩ := h i hi
  exact ⟨b, off, ha, hb, hv.below hs hb⟩

theorem ValsAt.mono {B B' : Nat} {w : World} {a : Option Addr} {vs : List GV} (h : ValsAt B w a vs) (hB : B ≤ B') : ValsAt B' w a vs := fun i hi => by
  obtain ⟨b, off, ha, hb, hv⟩ := h i hi
  exact ⟨b, off, ha, by omega, hv⟩

/-- a node of two cells at a place -/
structure NodeAt (B : Nat) (w : World) (b off : Nat) (n : GN) (a : Option Addr) (cap : Nat) : Prop where
  tag : w.cell? ⟨b, off, none⟩ = some (.int .i64 n.tag)
  sl : w.cell? ⟨b, off + 1, none⟩ = some (.slice a n.vals.length cap)
  vals : ValsAt B w a n.vals

def NodesAt (B : Nat) (w : World) (a : Option Addr) (ns : List GN) : Prop :=
  ∀ i, i < ns.length → ∃ b off a' cap, a = some ⟨b, off, none⟩ ∧ b < B ∧ NodeAt B w b (off + i * 2) ns[i]! a' cap

theorem NodesAt.get {B : Nat} {w : World} {a : Option Addr} {ns : List GN} (h : NodesAt B w a ns) {k : Nat} (hk : k < ns.length) :
    ∃ n b off a' cap, Hid (n = ns[k]!) ∧ n ∈ ns ∧ a = some ⟨b, off, none⟩ ∧ b < B ∧ NodeAt B w b (off + k * 2) n a' cap := by
  obtain ⟨b, off, a', cap, ha, hb, hv⟩ := h k hk
  exact ⟨ns[k]!, b, off, a', cap, rfl, mem_at hk, ha, hb, hv⟩

theorem NodeAt.below {B : Nat} {w w' : World} {b off : Nat} {n : GN} {a : Option Addr} {cap : Nat} (h : NodeAt B w b off n a cap) (hs : Below B w w') (hb : b < B) : NodeAt B w' b off n a cap :=
  ⟨(World.cell?_of_block (w := w) (hs.block b hb)).trans h.tag, (World.cell?_of_block (w := w) (hs.block b hb)).trans h.sl, h.vals.below hs⟩

theorem NodesAt.below {B : Nat} {w w' : World} {a : Option Addr} {ns : List GN} (h : NodesAt B w a ns) (hs : Below B w w') : NodesAt B w' a ns := fun i hi => by
  obtain ⟨b, off, a', cap, ha, hb, hv⟩ := h i hi
  exact ⟨b, off, a', cap, ha, hb, hv.below hs hb⟩

theorem NodesAt.mono {B B' : Nat} {w : World} {a : Option Addr} {ns : List GN} (h : NodesAt B w a ns) (hB : B ≤ B') : NodesAt B' w a ns := fun i hi => by
  obtain ⟨b, off, a', cap, ha, hb, hv⟩ := h i hi
  exact ⟨b, off, a', cap, ha, by omega, ⟨hv.tag, hv.sl, hv.vals.mono hB⟩⟩

abbrev GG.val (g : GG) (a : Option Addr) (cap : Nat) : Value :=
  .agg #[.int .i64 g.root.kind, .int .i64 g.root.num, .string g.root.text, .int .i64 g.root.node, .slice a g.nodes.length cap]

theorem ret_int {k : IntKind} {a b : Int} (h : a = b) : Ending.returned (.int k a) = .returned (.int k b) := by rw [h]
theorem ret_bool {a b : Bool} (h : a = b) : Ending.returned (.bool a) = .returned (.bool b) := by rw [h]

theorem leftBy_neg {left s : Int} (h : left - s < 0) : leftBy left s = -1 := if_pos h
theorem leftBy_pos {left s : Int} (h : ¬ left - s < 0) : leftBy left s = left - s := if_neg h

theorem leftBy_of_nonneg {left s : Int} (h : 0 ≤ leftBy left s) : leftBy left s = left - s ∧ 0 ≤ left - s := by
  unfold leftBy at h ⊢; split at h <;> rename_i h' <;> simp_all <;> omega
theorem leftBy_of_neg {left s : Int} (h : leftBy left s < 0) : left - s < 0 := by
  unfold leftBy at h; split at h <;> omega

theorem bcell {W w1 : World} (hb : Below W.heap.size W w1) : (∀ b o, b < W.heap.size → w1.cell? ⟨b, o, none⟩ = W.cell? ⟨b, o, none⟩) ∧ (∀ b o, b < W.heap.size → w1.frozen? ⟨b, o, none⟩ = W.frozen? ⟨b, o, none⟩) :=
  ⟨fun b o h => hb.cell (p := ⟨b, o, none⟩) h, fun b o h => hb.frozen (p := ⟨b, o, none⟩) h⟩

/-! growing worlds, no side conditions -/
theorem gre (w : World) : Below w.heap.size w w := Below.refl _ _
theorem gal {w w' : World} (h : Below w.heap.size w w') (o : Obj) : Below w.heap.size w (w'.alloc o) := h.alloc h.size o
theorem gca {w w' w'' : World} (h : Below w.heap.size w w') (k : Below w'.heap.size w' w'') : Below w.heap.size w w'' := h.trans (k.mono h.size)
theorem gse {w w' : World} (h : Below w.heap.size w w') {p : Addr} (hp : w.heap.size ≤ p.block) (u : Value) : Below w.heap.size w (w'.setCell p u) := h.setCell hp u
theorem gdr {w w' : World} (h : Below w.heap.size w w') : Below w.heap.size w w'.drew := h.drew

theorem ValsAt.grow {w w' : World} {a : Option Addr} {vs : List GV} (h : ValsAt w.heap.size w a vs) (hb : Below w.heap.size w w') : ValsAt w'.heap.size w' a vs := (h.below hb).mono hb.size
theorem NodesAt.grow {w w' : World} {a : Option Addr} {vs : List GN} (h : NodesAt w.heap.size w a vs) (hb : Below w.heap.size w w') : NodesAt w'.heap.size w' a vs := (h.below hb).mono hb.size

end Go.Proofs.Ythjddpkegooobab

/-
  ROWS2: rows that a call owns, and what it leaves alone. Own work.
-/
namespace Go.Proofs.Ythjddpkegooobab
open Go.RowKit

/-- but for the blocks that p names, what was there is as it was -/
structure Kept (p : Nat → Prop) (w w' : World) : Prop where
  os : w'.os = w.os
  tape : w'.tape = w.tape
  output : w'.output = w.output
  size : w.heap.size ≤ w'.heap.size
  block : ∀ k, k < w.heap.size → ¬ p k → w'.heap[k]? = w.heap[k]?

theorem Kept.refl (p : Nat → Prop) (w : World) : Kept p w w := ⟨rfl, rfl, rfl, Nat.le_refl _, fun _ _ _ => rfl⟩
theorem Kept.trans {p q : Nat → Prop} {w w' w'' : World} (h : Kept p w w') (k : Kept q w' w'') (hpq : ∀ k, k < w.heap.size → q k → p k) : Kept p w w'' :=
  ⟨k.os.trans h.os, k.tape.trans h.tape, k.output.trans h.output, Nat.le_trans h.size k.size, fun i hi hn => (k.block i (Nat.lt_of_lt_of_le hi h.size) (fun hq => hn (hpq i hi hq))).trans (h.block i hi hn)⟩
theorem Kept.mono {p q : Nat → Prop} {w w' : World} (h : Kept p w w') (hpq : ∀ k, k < w.heap.size → p k → q k) : Kept q w w' :=
  ⟨h.os, h.tape, h.output, h.size, fun i hi hn => h.block i hi (fun hp => hn (hpq i hi hp))⟩
theorem Kept.below {p : Nat → Prop} {w w' : World} {B : Nat} (h : Kept p w w') (hB : B ≤ w.heap.size) (hp : ∀ k, k < B → ¬ p k) : Below B w w' :=
  ⟨h.os, h.tape, h.output, h.size, fun k hk => h.block k (by omega) (hp k hk)⟩
theorem Kept.of_below {w w' : World} (h : Below w.heap.size w w') (p : Nat → Prop) : Kept p w w' := ⟨h.os, h.tape, h.output, h.size, fun k hk _ => h.block k hk⟩
theorem Kept.of_grown {w w' : World} {row : Option Nat} (h : w.grownBy w' row) : Kept (fun k => row = some k) w w' := ⟨h.os, h.tape, h.output, h.size, fun k hk hn => h.block k hk (fun e => hn e.symm)⟩
theorem Kept.alloc {p : Nat → Prop} {w w' : World} (h : Kept p w w') (o : Obj) : Kept p w (w'.alloc o) :=
  h.trans (Kept.of_below (gal (gre w') o) p) (fun _ _ hq => hq)
theorem Kept.drew {p : Nat → Prop} {w w' : World} (h : Kept p w w') : Kept p w w'.drew :=
  h.trans (Kept.of_below (gdr (gre w')) p) (fun _ _ hq => hq)
theorem Kept.set {p : Nat → Prop} {w w' : World} (h : Kept p w w') {a : Addr} (ha : a.block < w.heap.size → p a.block) (u : Value) : Kept p w (w'.setCell a u) :=
  h.trans (q := fun k => k = a.block) ⟨rfl, rfl, rfl, by simp [World.setCell], fun k _ hn => Below.heap_setCell _ _ _ _ hn⟩ (fun k hk hq => by subst hq; exact ha hk)
theorem Kept.cell {p : Nat → Prop} {w w' : World} (h : Kept p w w') {b o : Nat} {v : Value} (hc : w.cell? ⟨b, o, none⟩ = some v) (hn : ¬ p b) : w'.cell? ⟨b, o, none⟩ = some v :=
  (World.cell?_of_block (w := w) (h.block b (World.block_lt_of_cell? _ _ hc) hn)).trans hc
theorem Kept.rowIs {p : Nat → Prop} {w w' : World} (h : Kept p w w') {b t n : Nat} {f : Nat → Value} (hr : w.rowIs b t n f) (hn : ¬ p b) : w'.rowIs b t n f := hr.of_block (h.block b hr.lt hn)
theorem Kept.owns {p : Nat → Prop} {w w' : World} (h : Kept p w w') {base e size n : Nat} {v : Value} {xs : List Value} (ho : w.ownsRow base e size v n xs) (hn : ∀ k, v.ownBlock = some k → ¬ p k) : w'.ownsRow base e size v n xs := by
  refine ⟨ho.1, ?_⟩
  rcases ho.2 with h0 | ⟨g, cap, cur, rfl, hb, hg, r⟩
  · exact Or.inl h0
  · exact Or.inr ⟨g, cap, cur, rfl, hb, by rw [h.block g (Array.getElem?_eq_some_iff.1 hg).1 (hn g rfl)]; exact hg, r⟩

/-- cells of an owned row -/
theorem owns_cell {w : World} {base e size n : Nat} {a : Option Addr} {len cap : Nat} {xs : List Value} (ho : w.ownsRow base e size (.slice a len cap) n xs) {j : Nat} {u : Value} (hj : xs[j]? = some u) :
    ∃ g, a = some ⟨g, 0, none⟩ ∧ base ≤ g ∧ g < w.heap.size ∧ w.cell? ⟨g, j, none⟩ = some u := by
  rcases ho.2 with ⟨_, h0⟩ | ⟨g, cap', cur, hv, hb, hg, _⟩
  · have := ho.1
    rw [h0, Nat.zero_mul] at this
    rw [List.getElem?_eq_none (by omega)] at hj
    cases hj
  · simp only [Value.slice.injEq] at hv
    obtain ⟨rfl, _, _⟩ := hv
    refine ⟨g, rfl, hb, (Array.getElem?_eq_some_iff.1 hg).1, ?_⟩
    have := ho.cells (g := g) rfl j u hj
    rwa [show ((⟨g, 0, none⟩ : Addr).add j) = ⟨g, j, none⟩ by unfold Addr.add; split <;> simp_all] at this

/-- an owned slice's length -/
theorem owns_len {w : World} {base e size n : Nat} {a : Option Addr} {len cap : Nat} {xs : List Value} (ho : w.ownsRow base e size (.slice a len cap) n xs) : len = n := by
  rcases ho.2 with ⟨h, h0⟩ | ⟨g, cap', cur, hv, _⟩
  · simp at h; omega
  · simp at hv; exact hv.2.1

theorem owns_le {w : World} {base base' e size n : Nat} {v : Value} {xs : List Value} (h : w.ownsRow base e size v n xs) (hb : base' ≤ base) : w.ownsRow base' e size v n xs :=
  ⟨h.1, h.2.elim Or.inl (fun ⟨g, cap, cur, hv, hg, r⟩ => Or.inr ⟨g, cap, cur, hv, Nat.le_trans hb hg, r⟩)⟩

theorem some_addr {b c : Nat} (h : (some (⟨b, 0, none⟩ : Addr)) = some ⟨c, 0, none⟩) : b = c := by
  have e := congrArg (fun q => q.map Addr.block) h
  simpa only [Option.map_some, Option.some.injEq] using e

/-- where it lies -/
theorem owns_addr {w : World} {base e size n : Nat} {a : Option Addr} {len cap : Nat} {xs : List Value} (ho : w.ownsRow base e size (.slice a len cap) n xs) {k : Nat} (hk : (Value.slice a len cap).ownBlock = some k) : a = some ⟨k, 0, none⟩ := by
  rcases ho.2 with ⟨h, h0⟩ | ⟨g, cap', cur, hv, _⟩
  · simp at h
    rw [h.1] at hk
    simp [Value.ownBlock] at hk
  · simp at hv
    rw [hv.1] at hk ⊢
    simp [Value.ownBlock] at hk
    rw [hk]

theorem blk_new_at (w : World) (o : Obj) (b : Nat) (hb : b = w.heap.size) : (w.alloc o).heap[b]? = some o := by
  subst hb; exact Deep.blk_alloc_new _ _

def ints (l : List Nat) : List Value := l.map fun (x : Nat) => Value.int .i64 (x : Int)
theorem ints_get {l : List Nat} {i : Nat} (h : i < l.length) : (ints l)[i]? = some (.int .i64 (l[i]! : Nat)) := by
  rw [getElem!_pos l i h]; simp [ints, h]

/-- four cells of a variable's own block -/
structure Four (w : World) (b : Nat) (v : GV) : Prop where
  lt : b < w.heap.size
  c0 : w.cell? ⟨b, 0, none⟩ = some (.int .i64 v.kind)
  c1 : w.cell? ⟨b, 1, none⟩ = some (.int .i64 v.num)
  c2 : w.cell? ⟨b, 2, none⟩ = some (.string v.text)
  c3 : w.cell? ⟨b, 3, none⟩ = some (.int .i64 v.node)
  f : ∀ o, w.frozen? ⟨b, o, none⟩ = false

theorem Four.same {w w' : World} {b : Nat} {v : GV} (h : Four w b v) (e : w'.heap[b]? = w.heap[b]?) (hlt : b < w'.heap.size) : Four w' b v :=
  ⟨hlt, (World.cell?_of_block (w := w) e).trans h.c0, (World.cell?_of_block (w := w) e).trans h.c1, (World.cell?_of_block (w := w) e).trans h.c2, (World.cell?_of_block (w := w) e).trans h.c3, fun o => (World.frozen?_of_block (w := w) e).trans (h.f o)⟩
theorem Four.kept {p : Nat → Prop} {w w' : World} {b : Nat} {v : GV} (h : Four w b v) (k : Kept p w w') (hn : ¬ p b) : Four w' b v := h.same (k.block b h.lt hn) (Nat.lt_of_lt_of_le h.lt k.size)
theorem Four.new (w : World) (v : GV) (t : TypeId) : Four (w.alloc (.cells #[.int .i64 v.kind, .int .i64 v.num, .string v.text, .int .i64 v.node] t)) w.heap.size v :=
  ⟨by simp, by simp, by simp, by simp, by simp, fun o => by simp⟩
theorem Four.new_at (w : World) (v : GV) (t : TypeId) (b : Nat) (hb : b = w.heap.size) : Four (w.alloc (.cells #[.int .i64 v.kind, .int .i64 v.num, .string v.text, .int .i64 v.node] t)) b v := by
  subst hb; exact Four.new w v t
theorem Four.alloc {w : World} {b : Nat} {v : GV} (h : Four w b v) (o : Obj) : Four (w.alloc o) b v := h.same (Below.heap_alloc _ _ _ h.lt) (by have := h.lt; simp; omega)

end Go.Proofs.Ythjddpkegooobab

/-
  BROW: rows of bytes. Own work.
-/
namespace Go.Proofs.Ythjddpkegooobab
open Go.RowKit

theorem hid_ex {α : Type} (x : α) : ∃ y, Hid (y = x) := ⟨x, rfl⟩

set_option maxRecDepth 100000 in
theorem info_u8 : (Try.prog.info? 5).map (fun i => (i.zero, i.size, i.bytes)) = some (some (.int .u8 0), 1, 1) := by kernel_rfl

set_option maxRecDepth 100000 in
theorem rowIs_made_any (w : World) (z : Array Value) (n : Nat) (t : TypeId) : (w.alloc (.cells (madeCells z n) t)).rowIs w.heap.size t n (fun i => z[i % z.size]!) :=
  ⟨_, Deep.blk_alloc_new _ _, size_madeCells _ _, fun i hi => by simp [madeCells, hi]⟩

/-- bytes at a place -/
def BytesAt (w : World) (a : Option Addr) (bs : List Nat) : Prop := ∀ i, i < bs.length → ∃ b off, a = some ⟨b, off, none⟩ ∧ w.cell? ⟨b, off + i, none⟩ = some (.int .u8 ((bs[i]! : Nat) : Int))

set_option maxRecDepth 100000 in
theorem BytesAt.get {w : World} {a : Option Addr} {bs : List Nat} (h : BytesAt w a bs) {k : Nat} (hk : k < bs.length) : ∃ x b off, Hid (x = bs[k]!) ∧ x ∈ bs ∧ a = some ⟨b, off, none⟩ ∧ w.cell? ⟨b, off + k, none⟩ = some (.int .u8 (x : Int)) := by
  obtain ⟨b, off, ha, hc⟩ := h k hk
  exact ⟨bs[k]!, b, off, rfl, mem_at hk, ha, hc⟩
set_option maxRecDepth 100000 in
theorem BytesAt.grow {w w' : World} {a : Option Addr} {bs : List Nat} (h : BytesAt w a bs) (hb : Below w.heap.size w w') : BytesAt w' a bs := fun i hi => by
  obtain ⟨b, off, ha, hc⟩ := h i hi
  exact ⟨b, off, ha, (World.cell?_of_block (w := w) (hb.block b (World.block_lt_of_cell? _ _ hc))).trans hc⟩

/-- the bytes that a row of bytes opens with -/
def BRow (w : World) (a n : Nat) (xs : List Nat) : Prop := ∃ c : Array Value, w.heap[a]? = some (.cells c 5 (0, 0)) ∧ c.size = n ∧ xs.length ≤ n ∧ ∀ i, i < xs.length → c[i]? = some (.int .u8 ((xs[i]! : Nat) : Int))

set_option maxRecDepth 100000 in
theorem BRow.lt {w : World} {a n : Nat} {xs : List Nat} (h : BRow w a n xs) : a < w.heap.size := by
  obtain ⟨c, hc, _⟩ := h
  exact (Array.getElem?_eq_some_iff.1 hc).1
set_option maxRecDepth 100000 in
theorem BRow.of_block {w w' : World} {a n : Nat} {xs : List Nat} (h : BRow w a n xs) (e : w'.heap[a]? = w.heap[a]?) : BRow w' a n xs := by
  obtain ⟨c, hc, r⟩ := h
  exact ⟨c, e.trans hc, r⟩
set_option maxRecDepth 100000 in
theorem BRow.kept {p : Nat → Prop} {w w' : World} {a n : Nat} {xs : List Nat} (h : BRow w a n xs) (k : Kept p w w') (hn : ¬ p a) : BRow w' a n xs := h.of_block (k.block a h.lt hn)
theorem BRow.row {w : World} {a n : Nat} {xs : List Nat} (h : BRow w a n xs) : ∃ f, w.rowIs a 5 n f ∧ ∀ i, i < xs.length → f i = .int .u8 ((xs[i]! : Nat) : Int) := by
  obtain ⟨c, hc, hs, hl, hx⟩ := h
  refine ⟨fun i => c[i]!, ⟨c, hc, hs, fun i hi => ?_⟩, fun i hi => ?_⟩
  · show c[i]? = some c[i]!
    rw [getElem!_pos c i (by omega)]; exact Array.getElem?_eq_getElem (by omega)
  · have h1 := hx i hi
    show c[i]! = _
    rw [getElem!_pos c i (by omega)]
    rw [Array.getElem?_eq_getElem (by omega)] at h1
    exact Option.some.inj h1
set_option maxRecDepth 100000 in
theorem BRow.of_row {w : World} {a n : Nat} {xs : List Nat} {f : Nat → Value} (h : w.rowIs a 5 n f) (hl : xs.length ≤ n) (hx : ∀ i, i < xs.length → f i = .int .u8 ((xs[i]! : Nat) : Int)) : BRow w a n xs := by
  obtain ⟨c, hc, hs, hf⟩ := h
  exact ⟨c, hc, hs, hl, fun i hi => (hf i (by omega)).trans (by rw [hx i hi])⟩
set_option maxRecDepth 100000 in
theorem BRow.any {w : World} {a n : Nat} {xs : List Nat} (h : BRow w a n xs) {i : Nat} (hi : i < n) : ∃ v, w.cell? ⟨a, i, none⟩ = some v := by
  obtain ⟨f, hr, _⟩ := h.row
  exact ⟨_, hr.cell hi⟩
set_option maxRecDepth 100000 in
theorem BRow.cell {w : World} {a n : Nat} {xs : List Nat} (h : BRow w a n xs) {i : Nat} (hi : i < xs.length) : w.cell? ⟨a, i, none⟩ = some (.int .u8 ((xs[i]! : Nat) : Int)) := by
  obtain ⟨f, hr, hx⟩ := h.row
  have hl : xs.length ≤ n := by obtain ⟨c, _, _, hl, _⟩ := h; exact hl
  rw [← hx i hi]
  exact hr.cell (by omega)
set_option maxRecDepth 100000 in
theorem BRow.frozen {w : World} {a n : Nat} {xs : List Nat} (h : BRow w a n xs) (i : Nat) : w.frozen? ⟨a, i, none⟩ = false := by
  obtain ⟨f, hr, _⟩ := h.row
  exact hr.frozen i

set_option maxRecDepth 100000 in
theorem snoc_get {xs : List Nat} {x i : Nat} (hi : i < (xs ++ [x]).length) : (xs ++ [x])[i]! = if i = xs.length then x else xs[i]! := by
  have hi' : i < xs.length + 1 := by simpa using hi
  rw [getElem!_pos _ i hi]
  by_cases h : i = xs.length
  · subst h; simp
  · rw [if_neg h, List.getElem_append_left (by omega), getElem!_pos xs i (by omega)]
set_option maxRecDepth 100000 in
theorem BRow.push {w : World} {a n : Nat} {xs : List Nat} (h : BRow w a n xs) (hl : xs.length < n) (x : Nat) : BRow (w.setCell ⟨a, xs.length, none⟩ (.int .u8 (x : Int))) a n (xs ++ [x]) := by
  obtain ⟨f, hr, hx⟩ := h.row
  refine BRow.of_row (hr.set _ _) (by simp; omega) fun i hi => ?_
  rw [snoc_get hi]
  split
  · rfl
  · rename_i hne
    exact hx i (by have : i < xs.length + 1 := (by simpa using hi); omega)
set_option maxRecDepth 100000 in
theorem app_get {xs ys : List Nat} {i : Nat} (hi : i < (xs ++ ys).length) : (xs ++ ys)[i]! = if i < xs.length then xs[i]! else ys[i - xs.length]! := by
  have hi' : i < xs.length + ys.length := by simpa using hi
  rw [getElem!_pos _ i hi]
  split
  · rename_i h
    rw [List.getElem_append_left h, getElem!_pos xs i h]
  · rename_i h
    rw [List.getElem_append_right (by omega), getElem!_pos ys (i - xs.length) (by omega)]
/-- bytes that lie in memory of their own, and may be written -/
def MB (w : World) (lo : Nat) (oa : Option Addr) (ys : List Nat) : Prop := ys = [] ∨ ∃ G n, oa = some ⟨G, 0, none⟩ ∧ lo ≤ G ∧ BRow w G n ys

set_option maxRecDepth 100000 in
theorem brow_bytes {w : World} {G n : Nat} {ys : List Nat} (h : BRow w G n ys) : BytesAt w (some ⟨G, 0, none⟩) ys := fun i hi => ⟨G, 0, rfl, by rw [Nat.zero_add]; exact h.cell hi⟩

def bcells (xs : List Nat) : List Value := xs.map fun (x : Nat) => Value.int .u8 (x : Int)
set_option maxRecDepth 100000 in
theorem bcells_length (xs : List Nat) : (bcells xs).length = xs.length := by simp [bcells]
theorem bcells_snoc (xs : List Nat) (x : Nat) : bcells (xs ++ [x]) = bcells xs ++ [.int .u8 (x : Int)] := by simp [bcells]
theorem bcells_get {xs : List Nat} {i : Nat} (h : i < xs.length) : (bcells xs)[i]? = some (.int .u8 ((xs[i]! : Nat) : Int)) := by
  rw [getElem!_pos xs i h]; simp [bcells, h]

end Go.Proofs.Ythjddpkegooobab

/-
  OK: whether a graph is well made: the specification's word and the program's. Own work.
-/
namespace Go.Proofs.Ythjddpkegooobab
open Go.RowKit

def okV (n : Nat) (v : GV) : Bool :=
  if v.kind = 0 then decide (v.num = 0 ∧ v.text.toList = [] ∧ v.node = 0)
  else if v.kind = 1 ∨ v.kind = 2 then decide (v.text.toList = [] ∧ v.node = 0)
  else if v.kind = 3 then decide (v.num = 0 ∧ v.node = 0 ∧ v.text.size ≤ 1000)
  else if v.kind = 4 then decide (v.num = 0 ∧ v.text.toList = [] ∧ 0 ≤ v.node ∧ v.node < n)
  else false

set_option maxRecDepth 100000 in
theorem specVal_any (a : Option Addr) (cap : Nat) (g : GG) (v : GV) (w : World) :
    Calls Try.prog 126 #[g.val a cap, v.val] w fun e w' => e = .returned (.bool (okV g.nodes.length v)) ∧ Below w.heap.size w w' := by
  go_enter Try.func126, Try.ntmps126
  go_wp2
  all_goals go_ret
  all_goals refine ⟨ret_bool ?_, gal (gal (gre _) _) _⟩
  all_goals simp_all [okV]
  all_goals first | omega | rfl | (rw [Bool.eq_iff_iff]; simp)

set_option maxRecDepth 100000 in
theorem implVal_any (n : Nat) (v : GV) (w : World) :
    Calls Try.prog 133 #[v.val, .int .i64 n] w fun e w' => e = .returned (.bool (okV n v)) ∧ Below w.heap.size w w' := by
  go_enter Try.func133, Try.ntmps133
  go_wp2
  all_goals go_ret
  all_goals refine ⟨ret_bool ?_, gal (gre _) _⟩
  all_goals simp_all [okV]
  all_goals omega

end Go.Proofs.Ythjddpkegooobab

/-
  OK2: nodes and graphs that are well made: the specification's word and the program's. Own work.
-/
namespace Go.Proofs.Ythjddpkegooobab
open Go.RowKit

def okN (n : Nat) (x : GN) : Bool := decide (0 ≤ x.tag ∧ x.tag ≤ 1000 ∧ x.vals.length ≤ 100) && x.vals.all (okV n)
def okG (g : GG) : Bool := decide (g.nodes.length ≤ 300) && okV g.nodes.length g.root && g.nodes.all (okN g.nodes.length)

set_option maxRecDepth 100000 in
theorem all_take_succ {α : Type} [Inhabited α] {p : α → Bool} {l : List α} {k : Nat} (h : k < l.length) (h1 : (l.take k).all p = true) (h2 : p l[k]! = true) : (l.take (k + 1)).all p = true := by
  rw [take_snoc l k h, List.all_append, h1, List.all_cons, h2]; rfl
theorem all_false_at {α : Type} [Inhabited α] {p : α → Bool} {l : List α} {k : Nat} (h : k < l.length) (h2 : p l[k]! = false) : l.all p = false := by
  rw [List.all_eq_false]; exact ⟨l[k]!, mem_at h, by rw [h2]; exact Bool.false_ne_true⟩

set_option maxRecDepth 100000 in
theorem okN_false {n : Nat} {x : GN} (h : x.tag < 0 ∨ 1000 < x.tag ∨ 100 < x.vals.length) : okN n x = false := by
  unfold okN; rw [decide_eq_false (by omega)]; rfl
theorem okN_vals {n : Nat} {x : GN} (h : 0 ≤ x.tag ∧ x.tag ≤ 1000 ∧ x.vals.length ≤ 100) : okN n x = x.vals.all (okV n) := by
  unfold okN; rw [decide_eq_true h]; rfl

set_option maxRecDepth 100000 in
theorem implNode_any (n : Nat) (x : GN) (a : Option Addr) (cap : Nat) (w : World) (hl : x.vals.length ≤ maxLen) (ha : ValsAt w.heap.size w a x.vals) :
    Calls Try.prog 134 #[.agg #[.int .i64 x.tag, .slice a x.vals.length cap], .int .i64 n] w fun e w' => e = .returned (.bool (okN n x)) ∧ Below w.heap.size w w' := by
  unfold maxLen at hl
  by_cases hok : 0 ≤ x.tag ∧ x.tag ≤ 1000 ∧ x.vals.length ≤ 100
  · have hkv : Hid _ := okN_vals (n := n) hok
    obtain ⟨h1, h2, h3⟩ := hok
    have t0 : decide (x.tag < 0) = false := decide_eq_false (by omega)
    have t1 : decide (1000 < x.tag) = false := decide_eq_false (by omega)
    have t2 : decide (100 < (x.vals.length : Int)) = false := decide_eq_false (by omega)
    go_enter Try.func134, Try.ntmps134
    go_wp2
    go_loopw [24] (fun i wr => ∃ k : Nat, k ≤ x.vals.length ∧ i = .int .i64 k ∧ (x.vals.take k).all (okV n) = true ∧ Below w.heap.size w wr) (fun i _ => x.vals.length - (intOf i).toNat)
    case atStart => exact ⟨0, Nat.zero_le _, rfl, by simp, gal (gre _) _⟩
    case round =>
      obtain ⟨k, hk, rfl, hall, hb⟩ := hrel
      by_cases hlt : k < x.vals.length
      · obtain ⟨v, b, off, hvk, hvm, rfl, hbs, hva⟩ := ha.get hlt
        have hva := hva.below hb hbs
        have c0 := hva.kind
        have c1 := hva.num
        have c2 := hva.text
        have c3 := hva.node
        have hall' : Hid _ := hall
        clear hall
        cases hr : okV n v with
        | false =>
          have hf : Hid (x.vals.all (okV n) = false) := all_false_at hlt (by rw [← hvk.out]; exact hr)
          go_wp2_with (go_at_call 133; refine (implVal_any n v _).mono ?_; rintro e w' ⟨rfl, hb'⟩)
          go_ret
          exact ⟨ret_bool (by rw [hkv.out, hf.out]), gca (gal hb _) hb'⟩
        | true =>
          have hf : Hid ((x.vals.take (k + 1)).all (okV n) = true) := all_take_succ hlt hall'.out (by rw [← hvk.out]; exact hr)
          go_wp2_with (go_at_call 133; refine (implVal_any n v _).mono ?_; rintro e w' ⟨rfl, hb'⟩)
          go_roundw
          case rel => exact ⟨k + 1, by omega, by go_num, hf.out, gca (gal hb _) hb'⟩
          case measure => simp [intOf]; omega
      · have e : k = x.vals.length := by omega
        have hall' : Hid (x.vals.all (okV n) = true) := by rw [e, List.take_length] at hall; exact hall
        clear hall
        go_wp2
        go_ret
        exact ⟨ret_bool (by rw [hkv.out, hall'.out]), hb⟩
  · have hkf : Hid _ := okN_false (n := n) (x := x) (by omega)
    go_enter Try.func134, Try.ntmps134
    go_wp2
    all_goals first | (go_ret; exact ⟨ret_bool hkf.out.symm, gal (gre _) _⟩) | (exfalso; omega)

end Go.Proofs.Ythjddpkegooobab

/-
  CANONPLAIN: a graph's one form, as lists and numbers. Own work.
-/
namespace Go.Proofs.Ythjddpkegooobab

/-- the nodes met, behind one value more -/
def renOrd (ord : List Nat) (v : GV) : List Nat := if v.kind = 4 ∧ v.node.toNat ∉ ord then ord ++ [v.node.toNat] else ord
/-- the value, its node by the new number -/
def renVal (ord : List Nat) (v : GV) : GV := if v.kind = 4 then { v with node := ((renOrd ord v).idxOf v.node.toNat : Nat) } else v
def renOrds (ord : List Nat) (vs : List GV) : List Nat := vs.foldl renOrd ord
def renVals (ord : List Nat) : List GV → List GV
  | [] => []
  | v :: r => renVal ord v :: renVals (renOrd ord v) r

theorem renOrds_snoc (ord : List Nat) (l : List GV) (v : GV) : renOrds ord (l ++ [v]) = renOrd (renOrds ord l) v := by
  simp [renOrds, List.foldl_append]
theorem renVals_snoc (ord : List Nat) (l : List GV) (v : GV) : renVals ord (l ++ [v]) = renVals ord l ++ [renVal (renOrds ord l) v] := by
  induction l generalizing ord with
  | nil => rfl
  | cons x r ih => simp only [List.cons_append, renVals, ih]; rfl
theorem renVals_length (ord : List Nat) (l : List GV) : (renVals ord l).length = l.length := by
  induction l generalizing ord with
  | nil => rfl
  | cons x r ih => simp [renVals, ih]

theorem renOrds_take_succ (ord : List Nat) (l : List GV) (k : Nat) (h : k < l.length) : renOrds ord (l.take (k + 1)) = renOrd (renOrds ord (l.take k)) l[k]! := by
  rw [take_snoc l k h, renOrds_snoc]
theorem renVals_take_succ (ord : List Nat) (l : List GV) (k : Nat) (h : k < l.length) : renVals ord (l.take (k + 1)) = renVals ord (l.take k) ++ [renVal (renOrds ord (l.take k)) l[k]!] := by
  rw [take_snoc l k h, renVals_snoc]

/-- the nodes met behind k rounds -/
def canonO (nodes : List GN) (ord0 : List Nat) : Nat → List Nat
  | 0 => ord0
  | k + 1 => if k < (canonO nodes ord0 k).length then renOrds (canonO nodes ord0 k) (nodes[(canonO nodes ord0 k)[k]!]!).vals else canonO nodes ord0 k
/-- the new nodes behind k rounds -/
def canonN (nodes : List GN) (ord0 : List Nat) : Nat → List GN
  | 0 => []
  | k + 1 => if k < (canonO nodes ord0 k).length then canonN nodes ord0 k ++ [⟨(nodes[(canonO nodes ord0 k)[k]!]!).tag, renVals (canonO nodes ord0 k) (nodes[(canonO nodes ord0 k)[k]!]!).vals⟩] else canonN nodes ord0 k

def canon (g : GG) : GG := ⟨renVal [] g.root, canonN g.nodes (renOrd [] g.root) g.nodes.length⟩

theorem canonO_succ (nodes : List GN) (ord0 : List Nat) (k : Nat) : canonO nodes ord0 (k + 1) = if k < (canonO nodes ord0 k).length then renOrds (canonO nodes ord0 k) (nodes[(canonO nodes ord0 k)[k]!]!).vals else canonO nodes ord0 k := by
  conv => lhs; unfold canonO
theorem canonN_succ (nodes : List GN) (ord0 : List Nat) (k : Nat) : canonN nodes ord0 (k + 1) = if k < (canonO nodes ord0 k).length then canonN nodes ord0 k ++ [⟨(nodes[(canonO nodes ord0 k)[k]!]!).tag, renVals (canonO nodes ord0 k) (nodes[(canonO nodes ord0 k)[k]!]!).vals⟩] else canonN nodes ord0 k := by
  conv => lhs; unfold canonN

theorem canon_stable (nodes : List GN) (ord0 : List Nat) (k : Nat) (h : (canonO nodes ord0 k).length ≤ k) : ∀ j, canonO nodes ord0 (k + j) = canonO nodes ord0 k ∧ canonN nodes ord0 (k + j) = canonN nodes ord0 k
  | 0 => ⟨rfl, rfl⟩
  | j + 1 => by
    obtain ⟨h1, h2⟩ := canon_stable nodes ord0 k h j
    have hn : ¬ k + j < (canonO nodes ord0 (k + j)).length := by rw [h1]; omega
    rw [show k + (j + 1) = (k + j) + 1 by omega, canonO_succ, canonN_succ, if_neg hn, if_neg hn]
    exact ⟨h1, h2⟩

/-- met once each, and all there -/
def InvO (n : Nat) (ord : List Nat) : Prop := ord.Nodup ∧ ∀ x, x ∈ ord → x < n

theorem nodup_le : ∀ (n : Nat) (l : List Nat), l.Nodup → (∀ x, x ∈ l → x < n) → l.length ≤ n
  | 0, l, _, h => by
    cases l with
    | nil => simp
    | cons x r => exact absurd (h x (List.mem_cons_self ..)) (Nat.not_lt_zero _)
  | n + 1, l, hd, h => by
    by_cases hn : n ∈ l
    · have h1 := nodup_le n (l.erase n) (hd.erase n) (fun x hx => by
        obtain ⟨h2, h3⟩ := hd.mem_erase_iff.1 hx
        have := h x h3
        omega)
      rw [List.length_erase_of_mem hn] at h1
      omega
    · have := nodup_le n l hd (fun x hx => by
        have h1 := h x hx
        have h2 : x ≠ n := fun e => hn (e ▸ hx)
        omega)
      omega
theorem InvO.le {n : Nat} {ord : List Nat} (h : InvO n ord) : ord.length ≤ n := nodup_le n ord h.1 h.2
theorem InvO.nil (n : Nat) : InvO n [] := ⟨List.nodup_nil, fun x hx => by cases hx⟩

/-- what a well made value's node says -/
theorem okV_node {n : Nat} {v : GV} (h : okV n v = true) (hk : v.kind = 4) : 0 ≤ v.node ∧ v.node < n := by
  unfold okV at h
  rw [if_neg (by omega), if_neg (by omega), if_neg (by omega), if_pos hk] at h
  have := of_decide_eq_true h
  omega

theorem InvO.ren {n : Nat} {ord : List Nat} {v : GV} (h : InvO n ord) (hv : okV n v = true) : InvO n (renOrd ord v) := by
  unfold renOrd
  split
  · rename_i hc
    have := okV_node hv hc.1
    refine ⟨List.nodup_append.2 ⟨h.1, by simp, fun a ha b hb e => ?_⟩, fun x hx => ?_⟩
    · simp at hb
      subst e hb
      exact hc.2 ha
    · rcases List.mem_append.1 hx with h1 | h1
      · exact h.2 x h1
      · simp at h1
        omega
  · exact h

theorem InvO.rens {n : Nat} {ord : List Nat} {l : List GV} (h : InvO n ord) (hv : ∀ v, v ∈ l → okV n v = true) : InvO n (renOrds ord l) := by
  induction l generalizing ord with
  | nil => exact h
  | cons v r ih => exact ih (h.ren (hv v (List.mem_cons_self ..))) (fun x hx => hv x (List.mem_cons_of_mem _ hx))

theorem okG_parts {g : GG} (h : okG g = true) : g.nodes.length ≤ 300 ∧ okV g.nodes.length g.root = true ∧ ∀ n, n ∈ g.nodes → okN g.nodes.length n = true := by
  unfold okG at h
  simp only [Bool.and_eq_true, decide_eq_true_eq, List.all_eq_true] at h
  exact ⟨h.1.1, h.1.2, h.2⟩
theorem okN_parts {n : Nat} {x : GN} (h : okN n x = true) : x.vals.length ≤ 100 ∧ ∀ v, v ∈ x.vals → okV n v = true := by
  unfold okN at h
  simp only [Bool.and_eq_true, decide_eq_true_eq, List.all_eq_true] at h
  exact ⟨h.1.2.2, h.2⟩

theorem canonO_inv {nodes : List GN} {ord0 : List Nat} (h0 : InvO nodes.length ord0) (hn : ∀ n, n ∈ nodes → okN nodes.length n = true) : ∀ k, InvO nodes.length (canonO nodes ord0 k)
  | 0 => by unfold canonO; exact h0
  | k + 1 => by
    have ih := canonO_inv h0 hn k
    rw [canonO_succ]
    split
    · rename_i hlt
      refine ih.rens (okN_parts (hn _ (mem_at (ih.2 _ (mem_at hlt))))).2
    · exact ih

theorem canon_at {g : GG} {k : Nat} (hk : k ≤ g.nodes.length) (h : (canonO g.nodes (renOrd [] g.root) k).length ≤ k) : canon g = ⟨renVal [] g.root, canonN g.nodes (renOrd [] g.root) k⟩ := by
  have h1 := (canon_stable g.nodes (renOrd [] g.root) k h (g.nodes.length - k)).2
  rw [show k + (g.nodes.length - k) = g.nodes.length by omega] at h1
  unfold canon
  rw [h1]

theorem renOrd_le (ord : List Nat) (v : GV) : ord.length ≤ (renOrd ord v).length := by
  unfold renOrd; split <;> simp
theorem renOrds_le (ord : List Nat) (l : List GV) : ord.length ≤ (renOrds ord l).length := by
  induction l generalizing ord with
  | nil => exact Nat.le_refl _
  | cons v r ih => exact Nat.le_trans (renOrd_le ord v) (ih (renOrd ord v))

/-- where a node is among those met; -1 where it is not -/
def whereOf (ord : List Nat) (i : Nat) : Int := if i ∈ ord then (ord.idxOf i : Int) else -1

theorem whereOf_neg {ord : List Nat} {i : Nat} (h : i ∉ ord) : whereOf ord i = -1 := if_neg h
theorem whereOf_pos {ord : List Nat} {i : Nat} (h : i ∈ ord) : whereOf ord i = (ord.idxOf i : Int) := if_pos h
theorem whereOf_snoc {ord : List Nat} {x : Nat} (h : x ∉ ord) (i : Nat) : whereOf (ord ++ [x]) i = if i = x then (ord.length : Int) else whereOf ord i := by
  unfold whereOf
  by_cases hi : i = x
  · subst hi
    rw [if_pos (by simp), if_pos rfl, List.idxOf_append, if_neg h]
    simp
  · rw [if_neg hi]
    by_cases hm : i ∈ ord
    · rw [if_pos hm, if_pos (by simp [hm]), List.idxOf_append, if_pos hm]
    · rw [if_neg hm, if_neg (by simp [hm, hi])]

theorem ren_old {ord : List Nat} {v : GV} (hk : v.kind = 4) (h : v.node.toNat ∈ ord) : renOrd ord v = ord ∧ renVal ord v = { v with node := (ord.idxOf v.node.toNat : Nat) } := by
  have h1 : renOrd ord v = ord := by unfold renOrd; rw [if_neg (fun c => c.2 h)]
  refine ⟨h1, ?_⟩
  unfold renVal
  rw [if_pos hk, h1]
theorem ren_new {ord : List Nat} {v : GV} (hk : v.kind = 4) (h : v.node.toNat ∉ ord) : renOrd ord v = ord ++ [v.node.toNat] ∧ renVal ord v = { v with node := (ord.length : Nat) } := by
  have h1 : renOrd ord v = ord ++ [v.node.toNat] := by unfold renOrd; rw [if_pos ⟨hk, h⟩]
  refine ⟨h1, ?_⟩
  unfold renVal
  rw [if_pos hk, h1, List.idxOf_append, if_neg h]
  simp
theorem ren_not {ord : List Nat} {v : GV} (hk : v.kind ≠ 4) : renOrd ord v = ord ∧ renVal ord v = v := by
  unfold renOrd renVal
  rw [if_neg (fun c => hk c.1), if_neg hk]
  exact ⟨rfl, rfl⟩

end Go.Proofs.Ythjddpkegooobab

/-
  IMGPLAIN: images as lists of numbers. Own work.
-/
namespace Go.Proofs.Ythjddpkegooobab

/-- a number in groups of seven bits -/
def numB (n : Nat) : List Nat := if n < 128 then [n] else (n % 128 + 128) :: numB (n / 128)
termination_by n
decreasing_by omega

/-- so many bytes of a number, the lowest first -/
def lowB : Nat → Nat → List Nat
  | 0, _ => []
  | k + 1, n => n % 256 :: lowB k (n / 256)

/-- a number with a sign as one without -/
def zig (n : Int) : Nat := if n < 0 then (-2 * n - 1).toNat else (2 * n).toNat
/-- 64 bits of a number -/
def u64n (n : Int) : Nat := (n % 18446744073709551616).toNat
/-- a text's bytes -/
def bsOf (s : ByteArray) : List Nat := s.data.toList.map UInt8.toNat

def valB (v : GV) : List Nat :=
  v.kind.toNat :: (if v.kind = 1 then numB (zig v.num) else if v.kind = 2 then lowB 8 (u64n v.num) else if v.kind = 3 then numB v.text.size ++ bsOf v.text else if v.kind = 4 then numB v.node.toNat else [])
def valsB : List GV → List Nat
  | [] => []
  | v :: r => valB v ++ valsB r
def nodeB (n : GN) : List Nat := numB n.tag.toNat ++ (numB n.vals.length ++ valsB n.vals)
def nodesB : List GN → List Nat
  | [] => []
  | n :: r => nodeB n ++ nodesB r
def graphB (g : GG) : List Nat := [72, 49] ++ (numB g.nodes.length ++ (valB g.root ++ nodesB g.nodes))

/-- one byte more into a sum -/
def sumStep (h x : Nat) : Nat := (h ^^^ x) * 1099511628211 % 18446744073709551616
def sumN (b : List Nat) : Nat := b.foldl sumStep 14695981039346656037

/-- the image of a graph in its one form -/
def formB (c : GG) : List Nat := graphB c ++ lowB 8 (sumN (graphB c))
def imageB (g : GG) : List Nat := formB (canon g)
/-- what Pack answers -/
def packB (g : GG) : List Nat := if okG g = true ∧ (imageB g).length ≤ 4096 then imageB g else []

theorem numB_small {n : Nat} (h : n < 128) : numB n = [n] := by rw [numB, if_pos h]
theorem numB_great {n : Nat} (h : ¬ n < 128) : numB n = (n % 128 + 128) :: numB (n / 128) := by rw [numB, if_neg h]

theorem valsB_append (a b : List GV) : valsB (a ++ b) = valsB a ++ valsB b := by
  induction a with
  | nil => rfl
  | cons v r ih => simp [valsB, ih]
theorem nodesB_append (a b : List GN) : nodesB (a ++ b) = nodesB a ++ nodesB b := by
  induction a with
  | nil => rfl
  | cons v r ih => simp [nodesB, ih]
theorem valsB_take_succ (l : List GV) (k : Nat) (h : k < l.length) : valsB (l.take (k + 1)) = valsB (l.take k) ++ valB l[k]! := by
  rw [take_snoc l k h, valsB_append]; simp [valsB]
theorem nodesB_take_succ (l : List GN) (k : Nat) (h : k < l.length) : nodesB (l.take (k + 1)) = nodesB (l.take k) ++ nodeB l[k]! := by
  rw [take_snoc l k h, nodesB_append]; simp [nodesB]
theorem valsB_take_le (l : List GV) (k : Nat) : (valsB (l.take k)).length ≤ (valsB l).length := by
  have h : valsB l = valsB (l.take k) ++ valsB (l.drop k) := by rw [← valsB_append, List.take_append_drop]
  rw [h, List.length_append]; omega
theorem nodesB_take_le (l : List GN) (k : Nat) : (nodesB (l.take k)).length ≤ (nodesB l).length := by
  have h : nodesB l = nodesB (l.take k) ++ nodesB (l.drop k) := by rw [← nodesB_append, List.take_append_drop]
  rw [h, List.length_append]; omega

theorem lowB_length : ∀ k n, (lowB k n).length = k
  | 0, _ => rfl
  | k + 1, n => by simp [lowB, lowB_length k]
theorem lowB_byte : ∀ (k n x : Nat), x ∈ lowB k n → x < 256
  | 0, _, _, h => by cases h
  | k + 1, n, x, h => by
    rcases List.mem_cons.1 h with h | h
    · omega
    · exact lowB_byte k _ x h
theorem lowB_get : ∀ (k n i : Nat), i < k → (lowB k n)[i]! = n / 256 ^ i % 256
  | 0, _, _, h => absurd h (Nat.not_lt_zero _)
  | k + 1, n, 0, _ => by simp [lowB]
  | k + 1, n, i + 1, h => by
    have h1 := lowB_get k (n / 256) i (by omega)
    show (lowB k (n / 256))[i]! = _
    rw [h1, Nat.div_div_eq_div_mul, Nat.pow_succ', Nat.mul_comm]
theorem lowB_snoc : ∀ (k n : Nat), lowB (k + 1) n = lowB k n ++ [n / 256 ^ k % 256]
  | 0, n => by simp [lowB]
  | k + 1, n => by
    have h1 := lowB_snoc k (n / 256)
    show n % 256 :: lowB (k + 1) (n / 256) = n % 256 :: (lowB k (n / 256) ++ _)
    rw [h1, Nat.div_div_eq_div_mul, Nat.pow_succ', Nat.mul_comm]

theorem numB_byte (n x : Nat) (h : x ∈ numB n) : x < 256 := by
  induction n using Nat.strongRecOn with
  | _ n ih =>
    by_cases hn : n < 128
    · rw [numB_small hn] at h
      have := List.mem_singleton.1 h
      omega
    · rw [numB_great hn] at h
      rcases List.mem_cons.1 h with h | h
      · omega
      · exact ih (n / 128) (by omega) h
theorem bsOf_byte {s : ByteArray} {x : Nat} (h : x ∈ bsOf s) : x < 256 := by
  obtain ⟨y, _, rfl⟩ := List.mem_map.1 h
  exact y.toNat_lt
theorem bsOf_length (s : ByteArray) : (bsOf s).length = s.size := by unfold bsOf; rw [List.length_map, Array.length_toList]; rfl

theorem sumStep_lt (h x : Nat) : sumStep h x < 18446744073709551616 := Nat.mod_lt _ (by omega)
theorem sumN_snoc (b : List Nat) (x : Nat) : sumN (b ++ [x]) = sumStep (sumN b) x := by unfold sumN; rw [List.foldl_append, List.foldl_cons, List.foldl_nil]
theorem sumN_lt (b : List Nat) : sumN b < 18446744073709551616 := by
  rcases List.eq_nil_or_concat b with rfl | ⟨l, x, rfl⟩
  · unfold sumN; rw [List.foldl_nil]; omega
  · rw [List.concat_eq_append, sumN_snoc]; exact sumStep_lt _ _
theorem sumN_take_succ (l : List Nat) (k : Nat) (h : k < l.length) : sumN (l.take (k + 1)) = sumStep (sumN (l.take k)) l[k]! := by
  rw [take_snoc l k h, sumN_snoc]

theorem u64n_nat {n : Nat} (h : n < 18446744073709551616) : u64n (n : Int) = n := by unfold u64n; omega
theorem zig_lt {n : Int} (h : I64 n) : zig n < 18446744073709551616 := by unfold zig; unfold I64 at h; split <;> omega
theorem u64n_lt (n : Int) : u64n n < 18446744073709551616 := by unfold u64n; omega

end Go.Proofs.Ythjddpkegooobab

/-
  OB: bytes that are appended to. Own work.
-/
namespace Go.Proofs.Ythjddpkegooobab
open Go.RowKit

/-- bytes of one's own, since a world -/
structure Ob (w0 : World) (base : Nat) (oa0 : Option Addr) (w : World) (oa : Option Addr) (cap : Nat) (zs : List Nat) : Prop where
  own : w.ownsRow base 5 1 (.slice oa zs.length cap) zs.length (bcells zs)
  loc : ∀ k, k < w0.heap.size → oa = some ⟨k, 0, none⟩ → oa0 = some ⟨k, 0, none⟩
  kept : Kept (fun k => oa0 = some ⟨k, 0, none⟩) w0 w

set_option maxRecDepth 100000 in
theorem Ob.start {base : Nat} {w : World} {oa : Option Addr} {cap : Nat} {zs : List Nat} (h : w.ownsRow base 5 1 (.slice oa zs.length cap) zs.length (bcells zs)) : Ob w base oa w oa cap zs := ⟨h, fun _ _ e => e, Kept.refl _ _⟩
theorem Ob.lt {w0 w : World} {base : Nat} {oa0 oa : Option Addr} {cap : Nat} {zs : List Nat} (h : Ob w0 base oa0 w oa cap zs) {k : Nat} (e : oa = some ⟨k, 0, none⟩) : base ≤ k ∧ k < w.heap.size := h.own.lt k (by rw [e]; rfl)
theorem Ob.grow {w0 w w' : World} {base : Nat} {oa0 oa : Option Addr} {cap : Nat} {zs : List Nat} (h : Ob w0 base oa0 w oa cap zs) (hb : Below w.heap.size w w') : Ob w0 base oa0 w' oa cap zs :=
  ⟨(Kept.of_below hb (fun _ => False)).owns h.own (fun _ _ e => e), h.loc, h.kept.trans (Kept.of_below hb _) (fun _ _ e => e)⟩
set_option maxRecDepth 100000 in
theorem Ob.call {w0 w w1 : World} {base : Nat} {oa0 oa oa1 : Option Addr} {cap cap1 : Nat} {zs ys : List Nat} (h : Ob w0 base oa0 w oa cap zs) (k : Ob w base oa w1 oa1 cap1 ys) : Ob w0 base oa0 w1 oa1 cap1 ys :=
  ⟨k.own, fun b hb e => h.loc b hb (k.loc b (Nat.lt_of_lt_of_le hb h.kept.size) e), h.kept.trans k.kept (fun b hb e => h.loc b hb e)⟩
theorem Ob.push {w0 w wa w1 : World} {base : Nat} {oa0 oa : Option Addr} {cap cap1 g : Nat} {zs ys : List Nat} (h : Ob w0 base oa0 w oa cap zs) (hb : Below w.heap.size w wa)
    (hown : w1.ownsRow base 5 1 (.slice (some ⟨g, 0, none⟩) (zs.length + ys.length) cap1) (zs.length + ys.length) (bcells zs ++ bcells ys)) (hgrow : wa.grownBy w1 (Value.slice oa zs.length cap).ownBlock)
    (hat : (Value.slice oa zs.length cap).ownBlock = some g ∨ w.heap.size ≤ g) : Ob w0 base oa0 w1 (some ⟨g, 0, none⟩) cap1 (zs ++ ys) := by
  refine ⟨?_, fun k hk e => ?_, ?_⟩
  · rw [List.length_append, show bcells (zs ++ ys) = bcells zs ++ bcells ys by simp [bcells]]; exact hown
  · have e2 := some_addr e
    subst e2
    rcases hat with hg | hg
    · exact h.loc g hk (owns_addr h.own hg)
    · have := h.kept.size; omega
  · exact (h.kept.trans (Kept.of_below hb _) (fun _ _ e => e)).trans (Kept.of_grown hgrow) (fun k hk e => h.loc k hk (owns_addr h.own e))

/-- what a call leaves that appends so much -/
def APost (base : Nat) (oa : Option Addr) (xs ys : List Nat) (w : World) (e : Ending) (w' : World) : Prop :=
  ∃ oa' cap', e = .returned (.slice oa' (xs ++ ys).length cap') ∧ Ob w base oa w' oa' cap' (xs ++ ys)

set_option maxRecDepth 100000 in
theorem numB_len : ∀ (f n : Nat), n < 128 ^ f → 0 < f → (numB n).length ≤ f
  | 0, _, _, h => absurd h (Nat.lt_irrefl _)
  | f + 1, n, hn, _ => by
    by_cases h : n < 128
    · rw [numB_small h]; simp
    · rw [numB_great h]
      have hf : 0 < f := by
        rcases Nat.eq_zero_or_pos f with rfl | h2
        · simp at hn; omega
        · exact h2
      have := numB_len f (n / 128) (by rw [Nat.div_lt_iff_lt_mul (by omega)]; rw [Nat.pow_succ] at hn; exact hn) hf
      simp only [List.length_cons]
      omega
set_option maxRecDepth 100000 in
theorem numB_ten {n : Nat} (h : n < 18446744073709551616) : (numB n).length ≤ 10 := numB_len 10 n (Nat.lt_of_lt_of_le h (by decide)) (by omega)

theorem and_or128 (m : Nat) (hm : m < 18446744073709551616) : IntKind.u8.wrap (bits .or .u64 (bits .and .u64 (m : Int) 127) 128) = ((m % 128 + 128 : Nat) : Int) := by
  have e1 : bits .and .u64 (m : Int) 127 = ((m % 128 : Nat) : Int) := by
    rw [u64_and _ _ (by omega) (by omega) (by omega) (by omega)]
    have h1 : (127 : Int).toNat = 127 := rfl
    rw [h1, Int.toNat_natCast, nat_mask7]
  have e2 : bits .or .u64 ((m % 128 : Nat) : Int) 128 = ((m % 128 + 128 : Nat) : Int) := by
    rw [u64_or _ _ (by omega) (by omega) (by omega) (by omega)]
    have h1 : (128 : Int).toNat = 128 := rfl
    rw [h1, Int.toNat_natCast, Nat.or_comm, nat_join 7 128 (m % 128) (by decide) (by omega)]
    omega
  rw [e1, e2, IntKind.wrap_u8']
  omega

set_option maxRecDepth 100000 in
theorem l2num_any (base : Nat) (oa : Option Addr) (len cap : Nat) (xs : List Nat) (n : Nat) (z : Int) (w : World) (hlen : len = xs.length) (hz : z = (n : Int)) (hn : n < 18446744073709551616) (hbase : base ≤ w.heap.size) (hl : xs.length ≤ 1099511627776)
    (hO : w.ownsRow base 5 1 (.slice oa xs.length cap) xs.length (bcells xs)) :
    Calls Try.prog 128 #[.slice oa len cap, .int .u64 z] w (APost base oa xs (numB n) w) := by
  subst hz hlen
  obtain ⟨i0, hi, hz0, hz1, hz2⟩ := info_parts info_u8
  have hten := numB_ten hn
  go_enter Try.func128, Try.ntmps128
  go_wp2
  go_loopw [0, 1] (fun o i ws => ∃ (m : Nat) (ys zs : List Nat) (oa1 : Option Addr) (cap1 : Nat), o = .slice oa1 zs.length cap1 ∧ i = .int .u64 m ∧ Hid (zs = xs ++ ys) ∧ Hid (numB n = ys ++ numB m) ∧ m < 18446744073709551616 ∧ Ob w base oa ws oa1 cap1 zs) (fun _ i _ => (intOf i).toNat)
  case atStart => exact ⟨n, [], xs, oa, cap, rfl, rfl, (List.append_nil _).symm, rfl, hn, Ob.start hO⟩
  case round =>
    obtain ⟨m, ys, zs, oa1, cap1, rfl, rfl, hzs, hm, hm64, hOb⟩ := hrel
    have hyl : zs.length ≤ xs.length + 10 := by
      have h1 := congrArg List.length hm.out
      rw [hzs.out]
      simp only [List.length_append] at h1 ⊢
      omega
    have hsz := hOb.kept.size
    by_cases hlt : m < 128
    · have hd : ¬ ((127 : Int) < (m : Int)) := by omega
      have e2 : IntKind.u8.wrap (m : Int) = (m : Int) := by rw [IntKind.wrap_u8']; omega
      go_wp2_with (at_builtin; refine wpList_append_lies _ rfl (.tmp 16) (.tmp 19) 28 rfl base 5 i0 (.int .u8 0) 1 1 Try.underlying28 hi hz0 hz1 hz2 rfl (by decide) _ _ _ rfl (hOb.own.alloc _) ⟨wr.heap.size, 0, none⟩ 1 1 [.int .u8 (m : Int)] rfl rfl (World.news_of_block (cs := #[.int .u8 (m : Int)]) (t := 5) (fr := (0, 0)) (blk_new_at _ _ _ (by simp))) (by simp [Value.oneCell']) (by decide) (by unfold maxLen; omega) (by omega) (by simp; omega) (wr.heap.size + 1) (by simp) ?_; intro g cap2 w1 hown1 hgrow hat hlt2)
      go_ret
      have hP := hOb.push (ys := [m]) (gal (gre _) _) hown1 hgrow (hat.elim Or.inl (fun h => Or.inr (by omega)))
      have e3 : zs ++ [m] = xs ++ numB n := by rw [hm.out, hzs.out, numB_small hlt, List.append_assoc]
      rw [e3] at hP
      exact ⟨_, cap2, by rw [← e3]; simp, hP⟩
    · have hd : ((127 : Int) < (m : Int)) := by omega
      obtain ⟨x, hx⟩ : ∃ x, Hid (x = m % 128 + 128) := ⟨_, rfl⟩
      have e2 : IntKind.u8.wrap (bits .or .u64 (bits .and .u64 (m : Int) 127) 128) = (x : Int) := by rw [hx.out]; exact and_or128 m hm64
      go_wp2_with (at_builtin; refine wpList_append_lies _ rfl (.tmp 7) (.tmp 12) 28 rfl base 5 i0 (.int .u8 0) 1 1 Try.underlying28 hi hz0 hz1 hz2 rfl (by decide) _ _ _ rfl (hOb.own.alloc _) ⟨wr.heap.size, 0, none⟩ 1 1 [.int .u8 (x : Int)] rfl rfl (World.news_of_block (cs := #[.int .u8 (x : Int)]) (t := 5) (fr := (0, 0)) (blk_new_at _ _ _ (by simp))) (by simp [Value.oneCell']) (by decide) (by unfold maxLen; omega) (by omega) (by simp; omega) (wr.heap.size + 1) (by simp) ?_; intro g cap2 w1 hown1 hgrow hat hlt2)
      have hP := hOb.push (ys := [x]) (gal (gre _) _) hown1 hgrow (hat.elim Or.inl (fun h => Or.inr (by omega)))
      go_roundw
      case rel =>
        refine ⟨m / 128, ys ++ [x], zs ++ [x], _, _, by simp, by go_num, by show _ = _; rw [hzs.out, List.append_assoc], ?_, by omega, hP⟩
        show _ = _
        rw [hm.out, numB_great hlt, hx.out]; simp
      case measure => simp [intOf]; omega

end Go.Proofs.Ythjddpkegooobab
