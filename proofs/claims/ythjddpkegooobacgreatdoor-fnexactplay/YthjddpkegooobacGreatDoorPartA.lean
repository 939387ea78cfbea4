import Derived.Test.YthjddpkegooobacGreatDoorRows
import Derived.WalkKit
import Derived.WalkSpells
import Derived.Deep.OwnRows
import Derived.Deep.AppendLies
import Derived.WalkLawsBesides
import Derived.Deep.QuietTactic
import Derived.BigQuiet
import Derived.Deep.MidRow
import Derived.Deep.WholeRow
import Derived.Deep.RegionHeld3
import Derived.Great.BuildSlice
namespace Go.Proofs.YthjddpkegooobacGreatDoor
open Go.RowKit
set_option maxRecDepth 100000
set_option maxHeartbeats 8000000
structure GV where
 kind : Int
 num : Int
 text : ByteArray
 node : Int
 deriving Inhabited
structure GN where
 tag : Int
 vals : List GV
 deriving Inhabited
structure GG where
 root : GV
 nodes : List GN
def I64 (n : Int) : Prop := -9223372036854775808 ≤ n ∧ n ≤ 9223372036854775807
structure GV.Ok (v : GV) : Prop where
 kind : I64 v.kind
 num : I64 v.num
 text : v.text.size ≤ maxLen
 node : I64 v.node
structure GN.Ok (n : GN) : Prop where
 tag : I64 n.tag
 len : n.vals.length ≤ maxLen
 vals : ∀ v, v ∈ n.vals → v.Ok
structure GG.Ok (g : GG) : Prop where
 root : g.root.Ok
 len : g.nodes.length ≤ maxLen
 nodes : ∀ n, n ∈ g.nodes → n.Ok
def GV.sz (v : GV) : Int := v.text.size
def szVals : List GV → Int
 | [] => 0
 | v :: r => v.sz + szVals r
def GN.sz (n : GN) : Int := n.vals.length + szVals n.vals
def szNodes : List GN → Int
 | [] => 0
 | n :: r => n.sz + szNodes r
def GG.sz (g : GG) : Int := g.root.sz + g.nodes.length + szNodes g.nodes
theorem GV.sz_nonneg (v : GV) : 0 ≤ v.sz := Int.natCast_nonneg _
theorem szVals_nonneg (l : List GV) : 0 ≤ szVals l := by
 induction l with
 | nil => simp [szVals]
 | cons v r ih => have := v.sz_nonneg; simp only [szVals]; omega
theorem GN.sz_nonneg (n : GN) : 0 ≤ n.sz := by have := szVals_nonneg n.vals; unfold GN.sz; omega
theorem szNodes_nonneg (l : List GN) : 0 ≤ szNodes l := by
 induction l with
 | nil => simp [szNodes]
 | cons v r ih => have := v.sz_nonneg; simp only [szNodes]; omega
theorem szVals_append (a b : List GV) : szVals (a ++ b) = szVals a + szVals b := by
 induction a with
 | nil => simp [szVals]
 | cons v r ih => simp only [List.cons_append, szVals, ih]; omega
theorem szNodes_append (a b : List GN) : szNodes (a ++ b) = szNodes a + szNodes b := by
 induction a with
 | nil => simp [szNodes]
 | cons v r ih => simp only [List.cons_append, szNodes, ih]; omega
theorem take_snoc {α : Type} [Inhabited α] (l : List α) (k : Nat) (h : k < l.length) : l.take (k + 1) = l.take k ++ [l[k]!] := by
 rw [List.take_succ_eq_append_getElem h, getElem!_pos l k h]
theorem szVals_take_succ (l : List GV) (k : Nat) (h : k < l.length) : szVals (l.take (k + 1)) = szVals (l.take k) + l[k]!.sz := by
 rw [take_snoc l k h, szVals_append]; simp [szVals]
theorem szNodes_take_succ (l : List GN) (k : Nat) (h : k < l.length) : szNodes (l.take (k + 1)) = szNodes (l.take k) + l[k]!.sz := by
 rw [take_snoc l k h, szNodes_append]; simp [szNodes]
theorem szVals_take_le (l : List GV) (k : Nat) : szVals (l.take k) ≤ szVals l := by
 have h : szVals l = szVals (l.take k) + szVals (l.drop k) := by rw [← szVals_append, List.take_append_drop]
 have := szVals_nonneg (l.drop k); omega
theorem szNodes_take_le (l : List GN) (k : Nat) : szNodes (l.take k) ≤ szNodes l := by
 have h : szNodes l = szNodes (l.take k) + szNodes (l.drop k) := by rw [← szNodes_append, List.take_append_drop]
 have := szNodes_nonneg (l.drop k); omega
def leftBy (left s : Int) : Int := if left - s < 0 then -1 else left - s
theorem mem_at {α : Type} [Inhabited α] {l : List α} {k : Nat} (h : k < l.length) : l[k]! ∈ l := by
 rw [getElem!_pos l k h]; exact List.getElem_mem h
structure ValAt (w : World) (b off : Nat) (v : GV) : Prop where
 kind : w.cell? ⟨b, off, none⟩ = some (.int .i64 v.kind)
 num : w.cell? ⟨b, off + 1, none⟩ = some (.int .i64 v.num)
 text : w.cell? ⟨b, off + 2, none⟩ = some (.string v.text)
 node : w.cell? ⟨b, off + 3, none⟩ = some (.int .i64 v.node)
abbrev GV.val (v : GV) : Value := .agg #[.int .i64 v.kind, .int .i64 v.num, .string v.text, .int .i64 v.node]
def ValsAt (B : Nat) (w : World) (a : Option Addr) (vs : List GV) : Prop :=
 ∀ i, i < vs.length → ∃ b off, a = some ⟨b, off, none⟩ ∧ b < B ∧ ValAt w b (off + i * 4) vs[i]!
theorem ValsAt.get {B : Nat} {w : World} {a : Option Addr} {vs : List GV} (h : ValsAt B w a vs) {k : Nat} (hk : k < vs.length) :
  ∃ v b off, Hid (v = vs[k]!) ∧ v ∈ vs ∧ a = some ⟨b, off, none⟩ ∧ b < B ∧ ValAt w b (off + k * 4) v := by
 obtain ⟨b, off, ha, hb, hv⟩ := h k hk
 exact ⟨vs[k]!, b, off, rfl, mem_at hk, ha, hb, hv⟩
theorem ValAt.same {w w' : World} {b off : Nat} {v : GV} (h : ValAt w b off v) (hs : w'.heap[b]? = w.heap[b]?) : ValAt w' b off v :=
 ⟨(World.cell?_of_block (w := w) hs).trans h.kind, (World.cell?_of_block (w := w) hs).trans h.num, (World.cell?_of_block (w := w) hs).trans h.text, (World.cell?_of_block (w := w) hs).trans h.node⟩
theorem ValAt.below {B : Nat} {w w' : World} {b off : Nat} {v : GV} (h : ValAt w b off v) (hs : Below B w w') (hb : b < B) : ValAt w' b off v := h.same (hs.block b hb)
theorem ValsAt.below {B : Nat} {w w' : World} {a : Option Addr} {vs : List GV} (h : ValsAt B w a vs) (hs : Below B w w') : ValsAt B w' a vs := fun i hi => by
 obtain ⟨b, off, ha, hb, hv⟩ := h i hi
 exact ⟨b, off, ha, hb, hv.below hs hb⟩
theorem ValsAt.mono {B B' : Nat} {w : World} {a : Option Addr} {vs : List GV} (h : ValsAt B w a vs) (hB : B ≤ B') : ValsAt B' w a vs := fun i hi => by
 obtain ⟨b, off, ha, hb, hv⟩ := h i hi
 exact ⟨b, off, ha, by omega, hv⟩
structure NodeAt (B : Nat) (w : World) (b off : Nat) (n : GN) (a : Option Addr) (cap : Nat) : Prop where
 tag : w.cell? ⟨b, off, none⟩ = some (.int .i64 n.tag)
 sl : w.cell? ⟨b, off + 1, none⟩ = some (.slice a n.vals.length cap)
 vals : ValsAt B w a n.vals
def NodesAt (B : Nat) (w : World) (a : Option Addr) (ns : List GN) : Prop :=
 ∀ i, i < ns.length → ∃ b off a' cap, a = some ⟨b, off, none⟩ ∧ b < B ∧ NodeAt B w b (off + i * 2) ns[i]! a' cap
theorem NodesAt.get {B : Nat} {w : World} {a : Option Addr} {ns : List GN} (h : NodesAt B w a ns) {k : Nat} (hk : k < ns.length) :
  ∃ n b off a' cap, Hid (n = ns[k]!) ∧ n ∈ ns ∧ a = some ⟨b, off, none⟩ ∧ b < B ∧ NodeAt B w b (off + k * 2) n a' cap := by
 obtain ⟨b, off, a', cap, ha, hb, hv⟩ := h k hk
 exact ⟨ns[k]!, b, off, a', cap, rfl, mem_at hk, ha, hb, hv⟩
theorem NodeAt.below {B : Nat} {w w' : World} {b off : Nat} {n : GN} {a : Option Addr} {cap : Nat} (h : NodeAt B w b off n a cap) (hs : Below B w w') (hb : b < B) : NodeAt B w' b off n a cap :=
 ⟨(World.cell?_of_block (w := w) (hs.block b hb)).trans h.tag, (World.cell?_of_block (w := w) (hs.block b hb)).trans h.sl, h.vals.below hs⟩
theorem NodesAt.below {B : Nat} {w w' : World} {a : Option Addr} {ns : List GN} (h : NodesAt B w a ns) (hs : Below B w w') : NodesAt B w' a ns := fun i hi => by
 obtain ⟨b, off, a', cap, ha, hb, hv⟩ := h i hi
 exact ⟨b, off, a', cap, ha, hb, hv.below hs hb⟩
theorem NodesAt.mono {B B' : Nat} {w : World} {a : Option Addr} {ns : List GN} (h : NodesAt B w a ns) (hB : B ≤ B') : NodesAt B' w a ns := fun i hi => by
 obtain ⟨b, off, a', cap, ha, hb, hv⟩ := h i hi
 exact ⟨b, off, a', cap, ha, by omega, ⟨hv.tag, hv.sl, hv.vals.mono hB⟩⟩
abbrev GG.val (g : GG) (a : Option Addr) (cap : Nat) : Value :=
 .agg #[.int .i64 g.root.kind, .int .i64 g.root.num, .string g.root.text, .int .i64 g.root.node, .slice a g.nodes.length cap]
theorem ret_int {k : IntKind} {a b : Int} (h : a = b) : Ending.returned (.int k a) = .returned (.int k b) := by rw [h]
theorem ret_bool {a b : Bool} (h : a = b) : Ending.returned (.bool a) = .returned (.bool b) := by rw [h]
theorem leftBy_neg {left s : Int} (h : left - s < 0) : leftBy left s = -1 := if_pos h
theorem leftBy_pos {left s : Int} (h : ¬ left - s < 0) : leftBy left s = left - s := if_neg h
theorem leftBy_of_nonneg {left s : Int} (h : 0 ≤ leftBy left s) : leftBy left s = left - s ∧ 0 ≤ left - s := by
 unfold leftBy at h ⊢; split at h <;> rename_i h' <;> simp_all <;> omega
theorem leftBy_of_neg {left s : Int} (h : leftBy left s < 0) : left - s < 0 := by
 unfold leftBy at h; split at h <;> omega
theorem bcell {W w1 : World} (hb : Below W.heap.size W w1) : (∀ b o, b < W.heap.size → w1.cell? ⟨b, o, none⟩ = W.cell? ⟨b, o, none⟩) ∧ (∀ b o, b < W.heap.size → w1.frozen? ⟨b, o, none⟩ = W.frozen? ⟨b, o, none⟩) :=
 ⟨fun b o h => hb.cell (p := ⟨b, o, none⟩) h, fun b o h => hb.frozen (p := ⟨b, o, none⟩) h⟩
theorem gre (w : World) : Below w.heap.size w w := Below.refl _ _
theorem gal {w w' : World} (h : Below w.heap.size w w') (o : Obj) : Below w.heap.size w (w'.alloc o) := h.alloc h.size o
theorem gca {w w' w'' : World} (h : Below w.heap.size w w') (k : Below w'.heap.size w' w'') : Below w.heap.size w w'' := h.trans (k.mono h.size)
theorem gse {w w' : World} (h : Below w.heap.size w w') {p : Addr} (hp : w.heap.size ≤ p.block) (u : Value) : Below w.heap.size w (w'.setCell p u) := h.setCell hp u
theorem gdr {w w' : World} (h : Below w.heap.size w w') : Below w.heap.size w w'.drew := h.drew
theorem ValsAt.grow {w w' : World} {a : Option Addr} {vs : List GV} (h : ValsAt w.heap.size w a vs) (hb : Below w.heap.size w w') : ValsAt w'.heap.size w' a vs := (h.below hb).mono hb.size
theorem NodesAt.grow {w w' : World} {a : Option Addr} {vs : List GN} (h : NodesAt w.heap.size w a vs) (hb : Below w.heap.size w w') : NodesAt w'.heap.size w' a vs := (h.below hb).mono hb.size
structure Kept (p : Nat → Prop) (w w' : World) : Prop where
 os : w'.os = w.os
 tape : w'.tape = w.tape
 output : w'.output = w.output
 size : w.heap.size ≤ w'.heap.size
 block : ∀ k, k < w.heap.size → ¬ p k → w'.heap[k]? = w.heap[k]?
theorem Kept.refl (p : Nat → Prop) (w : World) : Kept p w w := ⟨rfl, rfl, rfl, Nat.le_refl _, fun _ _ _ => rfl⟩
theorem Kept.trans {p q : Nat → Prop} {w w' w'' : World} (h : Kept p w w') (k : Kept q w' w'') (hpq : ∀ k, k < w.heap.size → q k → p k) : Kept p w w'' :=
 ⟨k.os.trans h.os, k.tape.trans h.tape, k.output.trans h.output, Nat.le_trans h.size k.size, fun i hi hn => (k.block i (Nat.lt_of_lt_of_le hi h.size) (fun hq => hn (hpq i hi hq))).trans (h.block i hi hn)⟩
theorem Kept.mono {p q : Nat → Prop} {w w' : World} (h : Kept p w w') (hpq : ∀ k, k < w.heap.size → p k → q k) : Kept q w w' :=
 ⟨h.os, h.tape, h.output, h.size, fun i hi hn => h.block i hi (fun hp => hn (hpq i hi hp))⟩
theorem Kept.below {p : Nat → Prop} {w w' : World} {B : Nat} (h : Kept p w w') (hB : B ≤ w.heap.size) (hp : ∀ k, k < B → ¬ p k) : Below B w w' :=
 ⟨h.os, h.tape, h.output, h.size, fun k hk => h.block k (by omega) (hp k hk)⟩
theorem Kept.of_below {w w' : World} (h : Below w.heap.size w w') (p : Nat → Prop) : Kept p w w' := ⟨h.os, h.tape, h.output, h.size, fun k hk _ => h.block k hk⟩
theorem Kept.of_grown {w w' : World} {row : Option Nat} (h : w.grownBy w' row) : Kept (fun k => row = some k) w w' := ⟨h.os, h.tape, h.output, h.size, fun k hk hn => h.block k hk (fun e => hn e.symm)⟩
theorem Kept.alloc {p : Nat → Prop} {w w' : World} (h : Kept p w w') (o : Obj) : Kept p w (w'.alloc o) :=
 h.trans (Kept.of_below (gal (gre w') o) p) (fun _ _ hq => hq)
theorem Kept.drew {p : Nat → Prop} {w w' : World} (h : Kept p w w') : Kept p w w'.drew :=
 h.trans (Kept.of_below (gdr (gre w')) p) (fun _ _ hq => hq)
theorem Kept.set {p : Nat → Prop} {w w' : World} (h : Kept p w w') {a : Addr} (ha : a.block < w.heap.size → p a.block) (u : Value) : Kept p w (w'.setCell a u) :=
 h.trans (q := fun k => k = a.block) ⟨rfl, rfl, rfl, by simp [World.setCell], fun k _ hn => Below.heap_setCell _ _ _ _ hn⟩ (fun k hk hq => by subst hq; exact ha hk)
theorem Kept.cell {p : Nat → Prop} {w w' : World} (h : Kept p w w') {b o : Nat} {v : Value} (hc : w.cell? ⟨b, o, none⟩ = some v) (hn : ¬ p b) : w'.cell? ⟨b, o, none⟩ = some v :=
 (World.cell?_of_block (w := w) (h.block b (World.block_lt_of_cell? _ _ hc) hn)).trans hc
theorem Kept.rowIs {p : Nat → Prop} {w w' : World} (h : Kept p w w') {b t n : Nat} {f : Nat → Value} (hr : w.rowIs b t n f) (hn : ¬ p b) : w'.rowIs b t n f := hr.of_block (h.block b hr.lt hn)
theorem Kept.owns {p : Nat → Prop} {w w' : World} (h : Kept p w w') {base e size n : Nat} {v : Value} {xs : List Value} (ho : w.ownsRow base e size v n xs) (hn : ∀ k, v.ownBlock = some k → ¬ p k) : w'.ownsRow base e size v n xs := by
 refine ⟨ho.1, ?_⟩
 rcases ho.2 with h0 | ⟨g, cap, cur, rfl, hb, hg, r⟩
 · exact Or.inl h0
 · exact Or.inr ⟨g, cap, cur, rfl, hb, by rw [h.block g (Array.getElem?_eq_some_iff.1 hg).1 (hn g rfl)]; exact hg, r⟩
theorem owns_cell {w : World} {base e size n : Nat} {a : Option Addr} {len cap : Nat} {xs : List Value} (ho : w.ownsRow base e size (.slice a len cap) n xs) {j : Nat} {u : Value} (hj : xs[j]? = some u) :
  ∃ g, a = some ⟨g, 0, none⟩ ∧ base ≤ g ∧ g < w.heap.size ∧ w.cell? ⟨g, j, none⟩ = some u := by
 rcases ho.2 with ⟨_, h0⟩ | ⟨g, cap', cur, hv, hb, hg, _⟩
 ·
  have := ho.1
  rw [h0, Nat.zero_mul] at this
  rw [List.getElem?_eq_none (by omega)] at hj
  cases hj
 ·
  simp only [Value.slice.injEq] at hv
  obtain ⟨rfl, _, _⟩ := hv
  refine ⟨g, rfl, hb, (Array.getElem?_eq_some_iff.1 hg).1, ?_⟩
  have := ho.cells (g := g) rfl j u hj
  rwa [show ((⟨g, 0, none⟩ : Addr).add j) = ⟨g, j, none⟩ by unfold Addr.add; split <;> simp_all] at this
theorem owns_le {w : World} {base base' e size n : Nat} {v : Value} {xs : List Value} (h : w.ownsRow base e size v n xs) (hb : base' ≤ base) : w.ownsRow base' e size v n xs :=
 ⟨h.1, h.2.elim Or.inl (fun ⟨g, cap, cur, hv, hg, r⟩ => Or.inr ⟨g, cap, cur, hv, Nat.le_trans hb hg, r⟩)⟩
theorem some_addr {b c : Nat} (h : (some (⟨b, 0, none⟩ : Addr)) = some ⟨c, 0, none⟩) : b = c := by
 have e := congrArg (fun q => q.map Addr.block) h
 simpa only [Option.map_some, Option.some.injEq] using e
theorem owns_addr {w : World} {base e size n : Nat} {a : Option Addr} {len cap : Nat} {xs : List Value} (ho : w.ownsRow base e size (.slice a len cap) n xs) {k : Nat} (hk : (Value.slice a len cap).ownBlock = some k) : a = some ⟨k, 0, none⟩ := by
 rcases ho.2 with ⟨h, h0⟩ | ⟨g, cap', cur, hv, _⟩
 ·
  simp at h
  rw [h.1] at hk
  simp [Value.ownBlock] at hk
 ·
  simp at hv
  rw [hv.1] at hk ⊢
  simp [Value.ownBlock] at hk
  rw [hk]
theorem blk_new_at (w : World) (o : Obj) (b : Nat) (hb : b = w.heap.size) : (w.alloc o).heap[b]? = some o := by
 subst hb; exact Deep.blk_alloc_new _ _
def ints (l : List Nat) : List Value := l.map fun (x : Nat) => Value.int .i64 (x : Int)
theorem ints_get {l : List Nat} {i : Nat} (h : i < l.length) : (ints l)[i]? = some (.int .i64 (l[i]! : Nat)) := by
 rw [getElem!_pos l i h]; simp [ints, h]
structure Four (w : World) (b : Nat) (v : GV) : Prop where
 lt : b < w.heap.size
 c0 : w.cell? ⟨b, 0, none⟩ = some (.int .i64 v.kind)
 c1 : w.cell? ⟨b, 1, none⟩ = some (.int .i64 v.num)
 c2 : w.cell? ⟨b, 2, none⟩ = some (.string v.text)
 c3 : w.cell? ⟨b, 3, none⟩ = some (.int .i64 v.node)
 f : ∀ o, w.frozen? ⟨b, o, none⟩ = false
theorem Four.same {w w' : World} {b : Nat} {v : GV} (h : Four w b v) (e : w'.heap[b]? = w.heap[b]?) (hlt : b < w'.heap.size) : Four w' b v :=
 ⟨hlt, (World.cell?_of_block (w := w) e).trans h.c0, (World.cell?_of_block (w := w) e).trans h.c1, (World.cell?_of_block (w := w) e).trans h.c2, (World.cell?_of_block (w := w) e).trans h.c3, fun o => (World.frozen?_of_block (w := w) e).trans (h.f o)⟩
theorem Four.kept {p : Nat → Prop} {w w' : World} {b : Nat} {v : GV} (h : Four w b v) (k : Kept p w w') (hn : ¬ p b) : Four w' b v := h.same (k.block b h.lt hn) (Nat.lt_of_lt_of_le h.lt k.size)
theorem Four.new (w : World) (v : GV) (t : TypeId) : Four (w.alloc (.cells #[.int .i64 v.kind, .int .i64 v.num, .string v.text, .int .i64 v.node] t)) w.heap.size v :=
 ⟨by simp, by simp, by simp, by simp, by simp, fun o => by simp⟩
theorem Four.new_at (w : World) (v : GV) (t : TypeId) (b : Nat) (hb : b = w.heap.size) : Four (w.alloc (.cells #[.int .i64 v.kind, .int .i64 v.num, .string v.text, .int .i64 v.node] t)) b v := by
 subst hb; exact Four.new w v t
theorem Four.alloc {w : World} {b : Nat} {v : GV} (h : Four w b v) (o : Obj) : Four (w.alloc o) b v := h.same (Below.heap_alloc _ _ _ h.lt) (by have := h.lt; simp; omega)
theorem hid_ex {α : Type} (x : α) : ∃ y, Hid (y = x) := ⟨x, rfl⟩
theorem info_u8 : (Tryz.prog.info? 5).map (fun i => (i.zero, i.size, i.bytes)) = some (some (.int .u8 0), 1, 1) := by kernel_rfl
theorem rowIs_made_any (w : World) (z : Array Value) (n : Nat) (t : TypeId) : (w.alloc (.cells (madeCells z n) t)).rowIs w.heap.size t n (fun i => z[i % z.size]!) :=
 ⟨_, Deep.blk_alloc_new _ _, size_madeCells _ _, fun i hi => by simp [madeCells, hi]⟩
def BytesAt (w : World) (a : Option Addr) (bs : List Nat) : Prop := ∀ i, i < bs.length → ∃ b off, a = some ⟨b, off, none⟩ ∧ w.cell? ⟨b, off + i, none⟩ = some (.int .u8 ((bs[i]! : Nat) : Int))
theorem BytesAt.get {w : World} {a : Option Addr} {bs : List Nat} (h : BytesAt w a bs) {k : Nat} (hk : k < bs.length) : ∃ x b off, Hid (x = bs[k]!) ∧ x ∈ bs ∧ a = some ⟨b, off, none⟩ ∧ w.cell? ⟨b, off + k, none⟩ = some (.int .u8 (x : Int)) := by
 obtain ⟨b, off, ha, hc⟩ := h k hk
 exact ⟨bs[k]!, b, off, rfl, mem_at hk, ha, hc⟩
theorem BytesAt.grow {w w' : World} {a : Option Addr} {bs : List Nat} (h : BytesAt w a bs) (hb : Below w.heap.size w w') : BytesAt w' a bs := fun i hi => by
 obtain ⟨b, off, ha, hc⟩ := h i hi
 exact ⟨b, off, ha, (World.cell?_of_block (w := w) (hb.block b (World.block_lt_of_cell? _ _ hc))).trans hc⟩
def BRow (w : World) (a n : Nat) (xs : List Nat) : Prop := ∃ c : Array Value, w.heap[a]? = some (.cells c 5 (0, 0)) ∧ c.size = n ∧ xs.length ≤ n ∧ ∀ i, i < xs.length → c[i]? = some (.int .u8 ((xs[i]! : Nat) : Int))
theorem BRow.lt {w : World} {a n : Nat} {xs : List Nat} (h : BRow w a n xs) : a < w.heap.size := by
 obtain ⟨c, hc, _⟩ := h
 exact (Array.getElem?_eq_some_iff.1 hc).1
theorem BRow.of_block {w w' : World} {a n : Nat} {xs : List Nat} (h : BRow w a n xs) (e : w'.heap[a]? = w.heap[a]?) : BRow w' a n xs := by
 obtain ⟨c, hc, r⟩ := h
 exact ⟨c, e.trans hc, r⟩
theorem BRow.kept {p : Nat → Prop} {w w' : World} {a n : Nat} {xs : List Nat} (h : BRow w a n xs) (k : Kept p w w') (hn : ¬ p a) : BRow w' a n xs := h.of_block (k.block a h.lt hn)
theorem BRow.row {w : World} {a n : Nat} {xs : List Nat} (h : BRow w a n xs) : ∃ f, w.rowIs a 5 n f ∧ ∀ i, i < xs.length → f i = .int .u8 ((xs[i]! : Nat) : Int) := by
 obtain ⟨c, hc, hs, hl, hx⟩ := h
 refine ⟨fun i => c[i]!, ⟨c, hc, hs, fun i hi => ?_⟩, fun i hi => ?_⟩
 ·
  show c[i]? = some c[i]!
  rw [getElem!_pos c i (by omega)]; exact Array.getElem?_eq_getElem (by omega)
 ·
  have h1 := hx i hi
  show c[i]! = _
  rw [getElem!_pos c i (by omega)]
  rw [Array.getElem?_eq_getElem (by omega)] at h1
  exact Option.some.inj h1
theorem BRow.of_row {w : World} {a n : Nat} {xs : List Nat} {f : Nat → Value} (h : w.rowIs a 5 n f) (hl : xs.length ≤ n) (hx : ∀ i, i < xs.length → f i = .int .u8 ((xs[i]! : Nat) : Int)) : BRow w a n xs := by
 obtain ⟨c, hc, hs, hf⟩ := h
 exact ⟨c, hc, hs, hl, fun i hi => (hf i (by omega)).trans (by rw [hx i hi])⟩
theorem BRow.any {w : World} {a n : Nat} {xs : List Nat} (h : BRow w a n xs) {i : Nat} (hi : i < n) : ∃ v, w.cell? ⟨a, i, none⟩ = some v := by
 obtain ⟨f, hr, _⟩ := h.row
 exact ⟨_, hr.cell hi⟩
theorem BRow.cell {w : World} {a n : Nat} {xs : List Nat} (h : BRow w a n xs) {i : Nat} (hi : i < xs.length) : w.cell? ⟨a, i, none⟩ = some (.int .u8 ((xs[i]! : Nat) : Int)) := by
 obtain ⟨f, hr, hx⟩ := h.row
 have hl : xs.length ≤ n := by obtain ⟨c, _, _, hl, _⟩ := h; exact hl
 rw [← hx i hi]
 exact hr.cell (by omega)
theorem BRow.frozen {w : World} {a n : Nat} {xs : List Nat} (h : BRow w a n xs) (i : Nat) : w.frozen? ⟨a, i, none⟩ = false := by
 obtain ⟨f, hr, _⟩ := h.row
 exact hr.frozen i
theorem snoc_get {xs : List Nat} {x i : Nat} (hi : i < (xs ++ [x]).length) : (xs ++ [x])[i]! = if i = xs.length then x else xs[i]! := by
 have hi' : i < xs.length + 1 := by simpa using hi
 rw [getElem!_pos _ i hi]
 by_cases h : i = xs.length
 · subst h; simp
 · rw [if_neg h, List.getElem_append_left (by omega), getElem!_pos xs i (by omega)]
theorem BRow.push {w : World} {a n : Nat} {xs : List Nat} (h : BRow w a n xs) (hl : xs.length < n) (x : Nat) : BRow (w.setCell ⟨a, xs.length, none⟩ (.int .u8 (x : Int))) a n (xs ++ [x]) := by
 obtain ⟨f, hr, hx⟩ := h.row
 refine BRow.of_row (hr.set _ _) (by simp; omega) fun i hi => ?_
 rw [snoc_get hi]
 split
 · rfl
 ·
  rename_i hne
  exact hx i (by have : i < xs.length + 1 := (by simpa using hi); omega)
theorem app_get {xs ys : List Nat} {i : Nat} (hi : i < (xs ++ ys).length) : (xs ++ ys)[i]! = if i < xs.length then xs[i]! else ys[i - xs.length]! := by
 have hi' : i < xs.length + ys.length := by simpa using hi
 rw [getElem!_pos _ i hi]
 split
 ·
  rename_i h
  rw [List.getElem_append_left h, getElem!_pos xs i h]
 ·
  rename_i h
  rw [List.getElem_append_right (by omega), getElem!_pos ys (i - xs.length) (by omega)]
def MB (w : World) (lo : Nat) (oa : Option Addr) (ys : List Nat) : Prop := ys = [] ∨ ∃ G n, oa = some ⟨G, 0, none⟩ ∧ lo ≤ G ∧ BRow w G n ys
theorem brow_bytes {w : World} {G n : Nat} {ys : List Nat} (h : BRow w G n ys) : BytesAt w (some ⟨G, 0, none⟩) ys := fun i hi => ⟨G, 0, rfl, by rw [Nat.zero_add]; exact h.cell hi⟩
def bcells (xs : List Nat) : List Value := xs.map fun (x : Nat) => Value.int .u8 (x : Int)
theorem bcells_length (xs : List Nat) : (bcells xs).length = xs.length := by simp [bcells]
theorem bcells_snoc (xs : List Nat) (x : Nat) : bcells (xs ++ [x]) = bcells xs ++ [.int .u8 (x : Int)] := by simp [bcells]
theorem bcells_get {xs : List Nat} {i : Nat} (h : i < xs.length) : (bcells xs)[i]? = some (.int .u8 ((xs[i]! : Nat) : Int)) := by
 rw [getElem!_pos xs i h]; simp [bcells, h]

structure DW where
 block : Int
 bytes : List Nat
 deriving Inhabited
structure DD where
 blocks : List (List Nat)
 waiting : List DW
 deriving Inhabited
structure BOk (b : List Nat) : Prop where
 len : b.length ≤ maxLen
 byte : ∀ x, x ∈ b → x < 256
structure DD.Ok (d : DD) : Prop where
 bl : d.blocks.length ≤ maxLen
 bb : ∀ b, b ∈ d.blocks → BOk b
 wl : d.waiting.length ≤ maxLen
 wi : ∀ x, x ∈ d.waiting → I64 x.block
 wb : ∀ x, x ∈ d.waiting → BOk x.bytes
structure DD.Small (d : DD) : Prop where
 bl : d.blocks.length ≤ 1048576
 bb : ∀ b, b ∈ d.blocks → b.length ≤ 1048576
 wl : d.waiting.length ≤ 1048576
 wb : ∀ x, x ∈ d.waiting → x.bytes.length ≤ 1048576
def BlksAt (w : World) (a : Option Addr) (ls : List (List Nat)) : Prop :=
 ∀ i, i < ls.length → ∃ b off a' cap, a = some ⟨b, off, none⟩ ∧ w.cell? ⟨b, off + i, none⟩ = some (.slice a' ls[i]!.length cap) ∧ BytesAt w a' ls[i]!
theorem BlksAt.get {w : World} {a : Option Addr} {ls : List (List Nat)} (h : BlksAt w a ls) {k : Nat} (hk : k < ls.length) :
  ∃ l b off a' cap, Hid (l = ls[k]!) ∧ l ∈ ls ∧ a = some ⟨b, off, none⟩ ∧ w.cell? ⟨b, off + k, none⟩ = some (.slice a' l.length cap) ∧ BytesAt w a' l := by
 obtain ⟨b, off, a', cap, ha, hc, hb⟩ := h k hk
 exact ⟨ls[k]!, b, off, a', cap, rfl, mem_at hk, ha, hc, hb⟩
theorem BlksAt.grow {w w' : World} {a : Option Addr} {ls : List (List Nat)} (h : BlksAt w a ls) (hb : Below w.heap.size w w') : BlksAt w' a ls := fun i hi => by
 obtain ⟨b, off, a', cap, ha, hc, hx⟩ := h i hi
 exact ⟨b, off, a', cap, ha, (World.cell?_of_block (w := w) (hb.block b (World.block_lt_of_cell? _ _ hc))).trans hc, hx.grow hb⟩
def WrsAt (w : World) (a : Option Addr) (ls : List DW) : Prop :=
 ∀ i, i < ls.length → ∃ b off a' cap, a = some ⟨b, off, none⟩ ∧ w.cell? ⟨b, off + i * 2, none⟩ = some (.int .i64 ls[i]!.block) ∧ w.cell? ⟨b, off + i * 2 + 1, none⟩ = some (.slice a' ls[i]!.bytes.length cap) ∧ BytesAt w a' ls[i]!.bytes
theorem WrsAt.get {w : World} {a : Option Addr} {ls : List DW} (h : WrsAt w a ls) {k : Nat} (hk : k < ls.length) :
  ∃ x b off a' cap, Hid (x = ls[k]!) ∧ x ∈ ls ∧ a = some ⟨b, off, none⟩ ∧ w.cell? ⟨b, off + k * 2, none⟩ = some (.int .i64 x.block) ∧ w.cell? ⟨b, off + k * 2 + 1, none⟩ = some (.slice a' x.bytes.length cap) ∧ BytesAt w a' x.bytes := by
 obtain ⟨b, off, a', cap, ha, hc, hc2, hb⟩ := h k hk
 exact ⟨ls[k]!, b, off, a', cap, rfl, mem_at hk, ha, hc, hc2, hb⟩
theorem WrsAt.grow {w w' : World} {a : Option Addr} {ls : List DW} (h : WrsAt w a ls) (hb : Below w.heap.size w w') : WrsAt w' a ls := fun i hi => by
 obtain ⟨b, off, a', cap, ha, hc, hc2, hx⟩ := h i hi
 exact ⟨b, off, a', cap, ha, (World.cell?_of_block (w := w) (hb.block b (World.block_lt_of_cell? _ _ hc))).trans hc, (World.cell?_of_block (w := w) (hb.block b (World.block_lt_of_cell? _ _ hc2))).trans hc2, hx.grow hb⟩
structure DL where
 ba : Option Addr
 bc : Nat
 wa : Option Addr
 wc : Nat
abbrev DD.val (d : DD) (l : DL) : Value := .agg #[.slice l.ba d.blocks.length l.bc, .slice l.wa d.waiting.length l.wc]
abbrev DW.val (x : DW) (a : Option Addr) (cap : Nat) : Value := .agg #[.int .i64 x.block, .slice a x.bytes.length cap]
structure DAt (w : World) (l : DL) (d : DD) : Prop where
 b : BlksAt w l.ba d.blocks
 w : WrsAt w l.wa d.waiting
theorem DAt.grow {w w' : World} {l : DL} {d : DD} (h : DAt w l d) (hb : Below w.heap.size w w') : DAt w' l d := ⟨h.b.grow hb, h.w.grow hb⟩
structure DBox (w : World) (p : Nat) (d : DD) (l : DL) : Prop where
 lt : p < w.heap.size
 c0 : w.cell? ⟨p, 0, none⟩ = some (.slice l.ba d.blocks.length l.bc)
 c1 : w.cell? ⟨p, 1, none⟩ = some (.slice l.wa d.waiting.length l.wc)
theorem DBox.same {w w' : World} {p : Nat} {d : DD} {l : DL} (h : DBox w p d l) (e : w'.heap[p]? = w.heap[p]?) (hs : p < w'.heap.size) : DBox w' p d l :=
 ⟨hs, (World.cell?_of_block (w := w) e).trans h.c0, (World.cell?_of_block (w := w) e).trans h.c1⟩
theorem DBox.grow {w w' : World} {p : Nat} {d : DD} {l : DL} (h : DBox w p d l) (hb : Below w.heap.size w w') : DBox w' p d l := h.same (hb.block p h.lt) (Nat.lt_of_lt_of_le h.lt hb.size)
theorem DBox.kept {q : Nat → Prop} {w w' : World} {p : Nat} {d : DD} {l : DL} (h : DBox w p d l) (k : Kept q w w') (hn : ¬ q p) : DBox w' p d l := h.same (k.block p h.lt hn) (Nat.lt_of_lt_of_le h.lt k.size)
theorem DBox.new (w : World) (d : DD) (l : DL) (t : TypeId) : DBox (w.alloc (.cells #[.slice l.ba d.blocks.length l.bc, .slice l.wa d.waiting.length l.wc] t)) w.heap.size d l := ⟨by simp, by simp, by simp⟩
def wrOk (x : DW) : Bool := decide (0 ≤ x.block) && decide (x.block < 130) && decide (x.bytes.length = 64)
def blOk (b : List Nat) : Bool := decide (b.length = 64)
def DD.ok (d : DD) : Bool := decide (d.blocks.length = 130) && decide (d.waiting.length ≤ 200) && d.blocks.all blOk && d.waiting.all wrOk
theorem dall_take_succ {α : Type} [Inhabited α] (p : α → Bool) (l : List α) (k : Nat) (h : k < l.length) : (l.take (k + 1)).all p = ((l.take k).all p && p l[k]!) := by
 rw [take_snoc l k h]; simp
theorem all_take_false {α : Type} [Inhabited α] (p : α → Bool) (l : List α) (k : Nat) (h : k < l.length) (hp : p l[k]! = false) : l.all p = false := by
 rw [List.all_eq_false]
 exact ⟨l[k]!, mem_at h, by rw [hp]; exact Bool.false_ne_true⟩
theorem hasBlock_any (b : Int) (w : World) (_hb : I64 b) :
  Calls Tryz.prog 126 #[.int .i64 b] w fun e w' => e = .returned (.bool (decide (0 ≤ b) && decide (b < 130))) ∧ Below w.heap.size w w' := by
 by_cases h0 : b < 0
 ·
  have h1 : ¬ (b ≥ 0) := by omega
  go_enter Tryz.func126, Tryz.ntmps126
  go_wp2
  all_goals go_ret
  all_goals exact ⟨by simp; omega, by first | exact gre _ | exact gal (gre _) _⟩
 ·
  have h1 : b ≥ 0 := by omega
  by_cases h2 : b < 130
  ·
   go_enter Tryz.func126, Tryz.ntmps126
   go_wp2
   all_goals go_ret
   all_goals exact ⟨by simp [], by first | exact gre _ | exact gal (gre _) _⟩
  ·
   go_enter Tryz.func126, Tryz.ntmps126
   go_wp2
   all_goals go_ret
   all_goals exact ⟨by simp; omega, by first | exact gre _ | exact gal (gre _) _⟩
def setB (bl : List (List Nat)) (x : DW) : List (List Nat) := bl.set x.block.toNat x.bytes
def settleN (keep : Nat → Bool) (bl : List (List Nat)) (ws : List DW) : Nat → List (List Nat)
 | 0 => bl
 | j + 1 => if keep j = true then setB (settleN keep bl ws j) ws[j]! else settleN keep bl ws j
def readN (bl : List (List Nat)) (ws : List DW) (b : Int) : Nat → List Nat
 | 0 => bl[b.toNat]!
 | j + 1 => if ws[j]!.block = b then ws[j]!.bytes else readN bl ws b j
def zeroD : DD := ⟨[], []⟩
def blankD : DD := ⟨List.replicate 130 (List.replicate 64 0), []⟩
def DD.put (d : DD) (b : Int) (bs : List Nat) : DD := if (d.ok && wrOk ⟨b, bs⟩ && decide (d.waiting.length ≠ 200)) = true then ⟨d.blocks, d.waiting ++ [⟨b, bs⟩]⟩ else zeroD
def DD.settle (d : DD) (keep : Nat → Bool) : DD := if d.ok = true then ⟨settleN keep d.blocks d.waiting d.waiting.length, []⟩ else zeroD
structure DD.Fit (d : DD) : Prop where
 bl : d.blocks.length = 130
 wl : d.waiting.length ≤ 200
 bb : ∀ b, b ∈ d.blocks → b.length = 64
 wb : ∀ x, x ∈ d.waiting → 0 ≤ x.block ∧ x.block < 130 ∧ x.bytes.length = 64
theorem DD.fit {d : DD} (h : d.ok = true) : d.Fit := by
 unfold DD.ok at h
 simp only [Bool.and_eq_true, decide_eq_true_eq, List.all_eq_true] at h
 obtain ⟨⟨⟨h1, h2⟩, h3⟩, h4⟩ := h
 refine ⟨h1, h2, fun b hb => by simpa [blOk] using h3 b hb, fun x hx => ?_⟩
 have := h4 x hx
 simp only [wrOk, Bool.and_eq_true, decide_eq_true_eq] at this
 exact ⟨this.1.1, this.1.2, this.2⟩
theorem setB_length (bl : List (List Nat)) (x : DW) : (setB bl x).length = bl.length := by simp [setB]
theorem settleN_length (keep : Nat → Bool) (bl : List (List Nat)) (ws : List DW) : ∀ j, (settleN keep bl ws j).length = bl.length
 | 0 => rfl
 | j + 1 => by
  simp only [settleN]
  split
  · rw [setB_length, settleN_length keep bl ws j]
  · exact settleN_length keep bl ws j
theorem setB_all {p : List Nat → Prop} {bl : List (List Nat)} {x : DW} (h : ∀ b, b ∈ bl → p b) (hx : p x.bytes) : ∀ b, b ∈ setB bl x → p b := fun b hb => by
 rcases List.mem_or_eq_of_mem_set hb with h1 | h1
 · exact h b h1
 · rw [h1]; exact hx
theorem settleN_all {p : List Nat → Prop} {keep : Nat → Bool} {bl : List (List Nat)} {ws : List DW} (h : ∀ b, b ∈ bl → p b) (hw : ∀ x, x ∈ ws → p x.bytes) : ∀ j, j ≤ ws.length → ∀ b, b ∈ settleN keep bl ws j → p b
 | 0, _ => h
 | j + 1, hj => by
  simp only [settleN]
  split
  · exact setB_all (settleN_all h hw j (by omega)) (hw _ (mem_at (by omega)))
  · exact settleN_all h hw j (by omega)
theorem setB_get {bl : List (List Nat)} {x : DW} {i : Nat} (hi : i < bl.length) : (setB bl x)[i]! = if i = x.block.toNat then x.bytes else bl[i]! := by
 rw [getElem!_pos _ i (by rw [setB_length]; exact hi), getElem!_pos bl i hi]
 simp only [setB, List.getElem_set]
 split
 · rename_i e; rw [if_pos e.symm]
 · rename_i e; rw [if_neg (fun e2 => e e2.symm)]
theorem readN_mem {p : List Nat → Prop} {bl : List (List Nat)} {ws : List DW} {b : Int} (h : ∀ x, x ∈ bl → p x) (hw : ∀ x, x ∈ ws → p x.bytes) (hb : b.toNat < bl.length) : ∀ j, j ≤ ws.length → p (readN bl ws b j)
 | 0, _ => h _ (mem_at hb)
 | j + 1, hj => by
  simp only [readN]
  split
  · exact hw _ (mem_at (by omega))
  · exact readN_mem h hw hb j (by omega)
theorem info_bytes : (Tryz.prog.info? 58).map (fun i => (i.zero, i.size, i.bytes)) = some (some (.slice none 0 0), 1, 24) := by kernel_rfl
theorem info_implWrite : (Tryz.prog.info? 102).map (fun i => (i.zero, i.size, i.bytes)) = some (some (.agg #[.int .i64 0, .slice none 0 0]), 2, 32) := by kernel_rfl
def Apart (a a' : Option Addr) : Prop := ∀ b, a = some ⟨b, 0, none⟩ → a' ≠ some ⟨b, 0, none⟩
theorem Apart.symm {a a' : Option Addr} (h : Apart a a') : Apart a' a := fun b hb hx => h b hx hb
def BB (w : World) (lo hi : Nat) (oa : Option Addr) (bs : List Nat) : Prop := bs = [] ∨ ∃ G n, oa = some ⟨G, 0, none⟩ ∧ lo ≤ G ∧ G < hi ∧ BRow w G n bs
theorem BB.bytes {w : World} {lo hi : Nat} {oa : Option Addr} {bs : List Nat} (h : BB w lo hi oa bs) : BytesAt w oa bs := by
 rcases h with rfl | ⟨G, n, rfl, _, _, h⟩
 · exact fun i hi => absurd hi (Nat.not_lt_zero _)
 · exact brow_bytes h
theorem BB.kept {p : Nat → Prop} {w w' : World} {lo hi : Nat} {oa : Option Addr} {bs : List Nat} (h : BB w lo hi oa bs) (k : Kept p w w') (hn : ∀ b, oa = some ⟨b, 0, none⟩ → bs ≠ [] → ¬ p b) : BB w' lo hi oa bs := by
 by_cases e : bs = []
 · exact Or.inl e
 ·
  rcases h with h | ⟨G, n, h1, h2, h3, h4⟩
  · exact Or.inl h
  · exact Or.inr ⟨G, n, h1, h2, h3, h4.kept k (hn G h1 e)⟩
theorem BB.mono {w : World} {lo hi lo' hi' : Nat} {oa : Option Addr} {bs : List Nat} (h : BB w lo hi oa bs) (h1 : lo' ≤ lo) (h2 : hi ≤ hi') : BB w lo' hi' oa bs := by
 rcases h with h | ⟨G, n, a1, a2, a3, a4⟩
 · exact Or.inl h
 · exact Or.inr ⟨G, n, a1, by omega, by omega, a4⟩
structure MBs (w : World) (lo hi : Nat) (a : Option Addr) (n : Nat) (F : Nat → List Nat) (fa : Nat → Option Addr) (fc : Nat → Nat) : Prop where
 row : 0 < n → ∃ g m f, a = some ⟨g, 0, none⟩ ∧ lo ≤ g ∧ g < hi ∧ w.rowIs g 58 m f ∧ n ≤ m ∧ ∀ i, i < n → f i = .slice (fa i) (F i).length (fc i)
 byt : ∀ i, i < n → BB w lo hi (fa i) (F i)
 far : ∀ i j, i < j → j < n → Apart (fa i) (fa j)
structure MWs (w : World) (lo hi : Nat) (a : Option Addr) (n : Nat) (B : Nat → Int) (F : Nat → List Nat) (fa : Nat → Option Addr) (fc : Nat → Nat) : Prop where
 row : 0 < n → ∃ g m f, a = some ⟨g, 0, none⟩ ∧ lo ≤ g ∧ g < hi ∧ w.rowIs g 102 m f ∧ n * 2 ≤ m ∧ ∀ i, i < n → f (i * 2) = .int .i64 (B i) ∧ f (i * 2 + 1) = .slice (fa i) (F i).length (fc i)
 byt : ∀ i, i < n → BB w lo hi (fa i) (F i)
 far : ∀ i j, i < j → j < n → Apart (fa i) (fa j)
theorem MBs.ne {w : World} {lo hi : Nat} {a : Option Addr} {n : Nat} {F : Nat → List Nat} {fa : Nat → Option Addr} {fc : Nat → Nat} (h : MBs w lo hi a n F fa fc) {i j : Nat} (hi : i < n) (hj : j < n) (hij : i ≠ j) : Apart (fa i) (fa j) := by
 rcases Nat.lt_or_gt_of_ne hij with e | e
 · exact h.far i j e hj
 · exact (h.far j i e hi).symm
def IsB (w : World) (b : Nat) : Prop := ∃ c, w.heap[b]? = some (.cells c 5 (0, 0))
def IsW (w : World) (b : Nat) : Prop := ∃ c, w.heap[b]? = some (.cells c 102 (0, 0))
theorem BRow.isB {w : World} {a n : Nat} {xs : List Nat} (h : BRow w a n xs) : IsB w a := let ⟨c, hc, _⟩ := h; ⟨c, hc⟩
theorem not_B_of_bs {w : World} {b n : Nat} {f : Nat → Value} (h : w.rowIs b 58 n f) : ¬ IsB w b := fun ⟨c, hc⟩ => by
 obtain ⟨c', hc', _⟩ := h
 rw [hc] at hc'
 simp at hc'
theorem not_B_of_W {w : World} {b : Nat} (h : IsW w b) : ¬ IsB w b := fun ⟨c, hc⟩ => by
 obtain ⟨c', hc'⟩ := h
 rw [hc] at hc'
 simp at hc'
def TB (n : Nat) (F : Nat → List Nat) (fa : Nat → Option Addr) (b : Nat) : Prop := ∃ i, i < n ∧ F i ≠ [] ∧ fa i = some ⟨b, 0, none⟩
theorem MBs.tb {w : World} {lo hi : Nat} {a : Option Addr} {n : Nat} {F : Nat → List Nat} {fa : Nat → Option Addr} {fc : Nat → Nat} (h : MBs w lo hi a n F fa fc) {b : Nat} (hb : TB n F fa b) : lo ≤ b ∧ b < hi ∧ IsB w b := by
 obtain ⟨i, hi, hn, e⟩ := hb
 rcases h.byt i hi with h0 | ⟨G, m, h1, h2, h3, h4⟩
 · exact absurd h0 hn
 ·
  rw [e] at h1
  obtain rfl := some_addr h1
  exact ⟨h2, h3, h4.isB⟩
theorem BB.range {w : World} {lo hi : Nat} {oa : Option Addr} {bs : List Nat} (h : BB w lo hi oa bs) {b : Nat} (e : oa = some ⟨b, 0, none⟩) (hn : bs ≠ []) : lo ≤ b ∧ b < hi := by
 rcases h with h0 | ⟨G, m, h1, h2, h3, _⟩
 · exact absurd h0 hn
 ·
  rw [e] at h1
  obtain rfl := some_addr h1
  exact ⟨h2, h3⟩
theorem MBs.out {p : Nat → Prop} {w w' : World} {lo hi : Nat} {a : Option Addr} {n : Nat} {F : Nat → List Nat} {fa : Nat → Option Addr} {fc : Nat → Nat} (h : MBs w lo hi a n F fa fc) (k : Kept p w w') (hp : ∀ b, lo ≤ b → b < hi → ¬ p b) : MBs w' lo hi a n F fa fc :=
 ⟨fun h0 => let ⟨g, m, f, h1, h2, h3, h4, h5⟩ := h.row h0; ⟨g, m, f, h1, h2, h3, k.rowIs h4 (hp g h2 h3), h5⟩, fun i hi => (h.byt i hi).kept k (fun b hb hne => let r := (h.byt i hi).range hb hne; hp b r.1 r.2), h.far⟩
theorem MWs.out {p : Nat → Prop} {w w' : World} {lo hi : Nat} {a : Option Addr} {n : Nat} {B : Nat → Int} {F : Nat → List Nat} {fa : Nat → Option Addr} {fc : Nat → Nat} (h : MWs w lo hi a n B F fa fc) (k : Kept p w w') (hp : ∀ b, lo ≤ b → b < hi → ¬ p b) : MWs w' lo hi a n B F fa fc :=
 ⟨fun h0 => let ⟨g, m, f, h1, h2, h3, h4, h5⟩ := h.row h0; ⟨g, m, f, h1, h2, h3, k.rowIs h4 (hp g h2 h3), h5⟩, fun i hi => (h.byt i hi).kept k (fun b hb hne => let r := (h.byt i hi).range hb hne; hp b r.1 r.2), h.far⟩
theorem MBs.congr {w : World} {lo hi : Nat} {a : Option Addr} {n : Nat} {F G : Nat → List Nat} {fa : Nat → Option Addr} {fc : Nat → Nat} (h : MBs w lo hi a n F fa fc) (e : ∀ i, i < n → G i = F i) : MBs w lo hi a n G fa fc :=
 ⟨fun h0 => let ⟨g, m, f, h1, h2, h3, h4, h5, h6⟩ := h.row h0; ⟨g, m, f, h1, h2, h3, h4, h5, fun i hi => by rw [e i hi]; exact h6 i hi⟩, fun i hi => by rw [e i hi]; exact h.byt i hi, h.far⟩
structure MD (w : World) (lo hi : Nat) (l : DL) (d : DD) (fa ga : Nat → Option Addr) (fc gc : Nat → Nat) : Prop where
 b : MBs w lo hi l.ba d.blocks.length (fun i => d.blocks[i]!) fa fc
 w : MWs w lo hi l.wa d.waiting.length (fun i => d.waiting[i]!.block) (fun i => d.waiting[i]!.bytes) ga gc
 far : ∀ i j, i < d.blocks.length → j < d.waiting.length → Apart (fa i) (ga j)
theorem MD.out {p : Nat → Prop} {w w' : World} {lo hi : Nat} {l : DL} {d : DD} {fa ga : Nat → Option Addr} {fc gc : Nat → Nat} (h : MD w lo hi l d fa ga fc gc) (k : Kept p w w') (hp : ∀ b, lo ≤ b → b < hi → ¬ p b) : MD w' lo hi l d fa ga fc gc := ⟨h.b.out k hp, h.w.out k hp, h.far⟩
theorem MD.grow {w w' : World} {lo hi : Nat} {l : DL} {d : DD} {fa ga : Nat → Option Addr} {fc gc : Nat → Nat} (h : MD w lo hi l d fa ga fc gc) (hb : Below w.heap.size w w') : MD w' lo hi l d fa ga fc gc := h.out (Kept.of_below hb (fun _ => False)) (fun _ _ _ e => e)
theorem MBs.at_ {w : World} {lo hi : Nat} {a : Option Addr} {ls : List (List Nat)} {fa : Nat → Option Addr} {fc : Nat → Nat} (h : MBs w lo hi a ls.length (fun i => ls[i]!) fa fc) : BlksAt w a ls := fun i hi => by
 obtain ⟨g, m, f, h1, _, _, h4, h5, h6⟩ := h.row (by omega)
 refine ⟨g, 0, fa i, fc i, h1, ?_, (h.byt i hi).bytes⟩
 rw [Nat.zero_add, ← h6 i hi]
 exact h4.cell (by omega)
theorem MWs.at_ {w : World} {lo hi : Nat} {a : Option Addr} {ls : List DW} {fa : Nat → Option Addr} {fc : Nat → Nat} (h : MWs w lo hi a ls.length (fun i => ls[i]!.block) (fun i => ls[i]!.bytes) fa fc) : WrsAt w a ls := fun i hi => by
 obtain ⟨g, m, f, h1, _, _, h4, h5, h6⟩ := h.row (by omega)
 refine ⟨g, 0, fa i, fc i, h1, ?_, ?_, (h.byt i hi).bytes⟩
 ·
  rw [Nat.zero_add, ← (h6 i hi).1]
  exact h4.cell (by omega)
 ·
  rw [Nat.zero_add, ← (h6 i hi).2]
  exact h4.cell (by omega)
theorem MD.at_ {w : World} {lo hi : Nat} {l : DL} {d : DD} {fa ga : Nat → Option Addr} {fc gc : Nat → Nat} (h : MD w lo hi l d fa ga fc gc) : DAt w l d := ⟨h.b.at_, h.w.at_⟩
section
variable {P : Program}
theorem wpList_alloc_big {ops : Array Oper} {rest : List Oper} {op : Oper} {a : Act} {w : World} {Q : Exit → Act → World → Prop} (hgd : op.guard = none) (ty : TypeId) (ho : op.op = .alloc ty) (Z : Array Value) (hz : ∀ u, (zeroValue ty).run P u = .ok (.agg Z) u)
  (h : wpList P ops Q rest (a.put op.dst (.pointer (some ⟨w.heap.size, 0, none⟩))) (w.alloc (.cells Z ty))) : wpList P ops Q (op :: rest) a w :=
 wpList_plain hgd fun K hK => by
  unfold Oper.wp execOp
  simp only [ho, Instr.alloc, Sem.run_bind, hz, Result.andThen_ok]
  exact hK _ _ h
theorem wpList_store_new {ops : Array Oper} {rest : List Oper} {op : Oper} {a : Act} {w : World} {Q : Exit → Act → World → Prop} (hgd : op.guard = none) (ty : TypeId) (x y : Operand) (ho : op.op = .store ty x y)
  (Z C : Array Value) (hx : a.eval x = .pointer (some ⟨w.heap.size, 0, none⟩)) (hy : a.eval y = .agg C) (hi : (P.info? ty).map (·.size) = some C.size) (hs : Z.size = C.size) (h1 : C.all (·.oneCell') = true)
  (h : wpList P ops Q rest (a.put op.dst undef) (w.alloc (.cells C ty))) : wpList P ops Q (op :: rest) a (w.alloc (.cells Z ty)) :=
 wpList_plain hgd fun K hK => by
  unfold Oper.wp execOp
  simp only [ho, hx, hy, Sem.run_bind, run_storeAt_new (P := P) w ty Z C hi hs h1, Result.andThen_ok]
  exact hK _ _ h
end
theorem size_content : (Tryz.prog.info? 136).map (·.size) = some 64 := by kernel_rfl
theorem size_contents : (Tryz.prog.info? 137).map (·.size) = some 8320 := by kernel_rfl
theorem size_pending : (Tryz.prog.info? 194).map (·.size) = some 65 := by kernel_rfl
def zeros (n : Nat) : List Value := List.replicate n (.int .u8 0)
theorem zero_content : (Tryz.prog.info? 136).map (fun i => (i.zero, i.size)) = some (some (.agg (zeros 64).toArray), 64) := by kernel_rfl
theorem zero_pending : (Tryz.prog.info? 194).map (fun i => (i.zero, i.size)) = some (some (.agg (.int .i64 0 :: zeros 64).toArray), 65) := by kernel_rfl
theorem info_pending : (Tryz.prog.info? 194).map (fun i => (i.zero, i.size, i.bytes)) = some (some (.agg (.int .i64 0 :: zeros 64).toArray), 65, 72) := by kernel_rfl
theorem zero_drive : (Tryz.prog.info? 141).map (fun i => (i.zero, i.size)) = some (some (.agg (zeros 8320 ++ [Value.slice none 0 0, Value.nilFunc]).toArray), 8322) := by kernel_rfl
theorem cells_u8 {bs : List Nat} : ∀ v, v ∈ bcells bs → v.oneCell' = true := fun v hv => by obtain ⟨x, _, rfl⟩ := List.mem_map.1 hv; rfl
theorem bytes_range {w : World} {b off : Nat} {bs : List Nat} (h : w.rangeAt b off (bcells bs)) : BytesAt w (some ⟨b, off, none⟩) bs := fun i hi => ⟨b, off, rfl, h i _ (bcells_get hi)⟩
theorem range_bytes {w : World} {b off : Nat} {bs : List Nat} (h : BytesAt w (some ⟨b, off, none⟩) bs) : w.rangeAt b off (bcells bs) := fun j v hj => by
 have hjl : j < bs.length := by have := (List.getElem?_eq_some_iff.1 hj).1; rwa [bcells_length] at this
 obtain ⟨b', off', e, hc⟩ := h j hjl
 have e' : b' = b ∧ off' = off := by
  have := Option.some.inj e
  exact ⟨(congrArg Addr.block this).symm, (congrArg Addr.off this).symm⟩
 obtain ⟨rfl, rfl⟩ := e'
 rw [hc, ← bcells_get hjl, hj]
theorem range_same {w w' : World} {b o : Nat} {cs : List Value} (h : w.rangeAt b o cs) (e : w'.heap[b]? = w.heap[b]?) : w'.rangeAt b o cs := fun j v hj => (World.cell?_of_block (w := w) e).trans (h j v hj)
theorem there_same {w w' : World} {b o n : Nat} (h : w.there b o n) (e : w'.heap[b]? = w.heap[b]?) : w'.there b o n := fun j hj => ⟨by rw [World.cell?_of_block (w := w) e]; exact (h j hj).1, (World.frozen?_of_block (w := w) e).trans (h j hj).2⟩
theorem range_new (w : World) (cs : List Value) (t : TypeId) : (w.alloc (.cells cs.toArray t)).rangeAt w.heap.size 0 cs := fun j v hj => by
 rw [cell_of_row _ _ _ _ _ _ (heap_alloc_last w (.cells cs.toArray t)), Nat.zero_add]
 simpa using hj
theorem there_new (w : World) (cs : List Value) (t : TypeId) : (w.alloc (.cells cs.toArray t)).there w.heap.size 0 cs.length := fun j hj => by
 refine ⟨?_, ?_⟩
 ·
  rw [cell_of_row _ _ _ _ _ _ (heap_alloc_last w (.cells cs.toArray t)), Nat.zero_add]
  simp [hj]
 · simp
theorem range_drop {w : World} {b o : Nat} {cs ds : List Value} (h : w.rangeAt b o (cs ++ ds)) : w.rangeAt b (o + cs.length) ds := fun j v hj => by
 have := h (cs.length + j) v (by rw [List.getElem?_append_right (by omega)]; simpa using hj)
 rwa [← Nat.add_assoc] at this
theorem there_part {w : World} {b o n o' n' : Nat} (h : w.there b o n) (h1 : o ≤ o') (h2 : o' + n' ≤ o + n) : w.there b o' n' := fun j hj => by
 have := h (o' - o + j) (by omega)
 rwa [show o + (o' - o + j) = o' + j by omega] at this
theorem Kept.setCells {p : Nat → Prop} {b : Nat} : ∀ (vs : List Value) (o : Nat) {w w' : World}, Kept p w w' → (b < w.heap.size → p b) → Kept p w (w'.setCells b o vs)
 | [], _, _, _, h, _ => h
 | v :: r, o, _w, _w', h, hb => Kept.setCells r (o + 1) (h.set (a := ⟨b, o, none⟩) hb v) hb
structure Drv (w : World) (p : Nat) (bl : List (List Nat)) (s k : Value) : Prop where
 lt : p < w.heap.size
 len : bl.length = 130
 bb : ∀ i, i < 130 → bl[i]!.length = 64
 rng : ∀ i, i < 130 → w.rangeAt p (i * 64) (bcells bl[i]!)
 th : w.there p 0 8322
 ws : w.cell? ⟨p, 8320, none⟩ = some s
 kf : w.cell? ⟨p, 8321, none⟩ = some k
theorem Drv.same {w w' : World} {p : Nat} {bl : List (List Nat)} {s k : Value} (h : Drv w p bl s k) (e : w'.heap[p]? = w.heap[p]?) (hl : p < w'.heap.size) : Drv w' p bl s k :=
 ⟨hl, h.len, h.bb, fun i hi => range_same (h.rng i hi) e, there_same h.th e, (World.cell?_of_block (w := w) e).trans h.ws, (World.cell?_of_block (w := w) e).trans h.kf⟩
theorem Drv.kept {q : Nat → Prop} {w w' : World} {p : Nat} {bl : List (List Nat)} {s k : Value} (h : Drv w p bl s k) (K : Kept q w w') (hn : ¬ q p) : Drv w' p bl s k := h.same (K.block p h.lt hn) (Nat.lt_of_lt_of_le h.lt K.size)
theorem Drv.grow {w w' : World} {p : Nat} {bl : List (List Nat)} {s k : Value} (h : Drv w p bl s k) (hb : Below w.heap.size w w') : Drv w' p bl s k := h.same (hb.block p h.lt) (Nat.lt_of_lt_of_le h.lt hb.size)
theorem Drv.frozen {w : World} {p : Nat} {bl : List (List Nat)} {s k : Value} (h : Drv w p bl s k) {o : Nat} (ho : o < 8322) : w.frozen? ⟨p, o, none⟩ = false := by
 have := (h.th o ho).2
 rwa [Nat.zero_add] at this
theorem Drv.setB {w : World} {p : Nat} {bl : List (List Nat)} {s k : Value} (h : Drv w p bl s k) {x : DW} (h0 : 0 ≤ x.block) (h1 : x.block < 130) (hl : x.bytes.length = 64) : Drv (w.setCells p (x.block.toNat * 64) (bcells x.bytes)) p (setB bl x) s k := by
 have hi0 : x.block.toNat < 130 := by omega
 have hth := there_part h.th (Nat.zero_le (x.block.toNat * 64)) (n' := 64) (by omega)
 have hlen : (bcells x.bytes).length = 64 := by rw [bcells_length, hl]
 have hout : ∀ o, x.block.toNat * 64 + 64 ≤ o → (w.setCells p (x.block.toNat * 64) (bcells x.bytes)).cell? ⟨p, o, none⟩ = w.cell? ⟨p, o, none⟩ := fun o ho =>
  World.cell?_setCells_out p _ _ w ⟨p, o, none⟩ (fun _ _ => Or.inr (by rw [hlen]; exact ho))
 refine ⟨by have := (Kept.setCells (bcells x.bytes) (x.block.toNat * 64) (Kept.refl (fun b => b = p) w) (fun _ => rfl)).size; have := h.lt; omega, by rw [setB_length]; exact h.len, fun i hi => ?_, fun i hi => ?_, World.there_setCells h.th _ _ _, (hout _ (by omega)).trans h.ws, (hout _ (by omega)).trans h.kf⟩
 ·
  rw [setB_get (by rw [h.len]; exact hi)]
  split
  · exact hl
  · exact h.bb i hi
 ·
  rw [setB_get (by rw [h.len]; exact hi)]
  split
  ·
   rename_i e; subst e
   exact World.rangeAt_setCells_same _ _ _ _ (by rw [hlen]; exact hth)
  ·
   rename_i e
   refine World.rangeAt_setCells_apart (h.rng i hi) _ _ _ (Or.inr ?_)
   rw [bcells_length, h.bb i hi, hlen]
   omega
theorem Drv.setW {w : World} {p : Nat} {bl : List (List Nat)} {s k : Value} (h : Drv w p bl s k) (s' : Value) : Drv (w.setCell ⟨p, 8320, none⟩ s') p bl s' k := by
 refine ⟨by have := h.lt; simpa [World.setCell] using this, h.len, h.bb, fun i hi => ?_, ?_, World.cell?_setCell_same _ _ _ h.ws, (World.cell?_setCell_other _ _ _ _ (by simp)).trans h.kf⟩
 · exact World.rangeAt_setCells_apart (h.rng i hi) p 8320 [s'] (Or.inr (Or.inl (by rw [bcells_length, h.bb i hi]; omega)))
 · exact World.there_setCells h.th p 8320 [s']
theorem Drv.setK {w : World} {p : Nat} {bl : List (List Nat)} {s k : Value} (h : Drv w p bl s k) (k' : Value) : Drv (w.setCell ⟨p, 8321, none⟩ k') p bl s k' := by
 refine ⟨by have := h.lt; simpa [World.setCell] using this, h.len, h.bb, fun i hi => ?_, ?_, (World.cell?_setCell_other _ _ _ _ (by simp)).trans h.ws, World.cell?_setCell_same _ _ _ h.kf⟩
 · exact World.rangeAt_setCells_apart (h.rng i hi) p 8321 [k'] (Or.inr (Or.inl (by rw [bcells_length, h.bb i hi]; omega)))
 · exact World.there_setCells h.th p 8321 [k']
def DW.pc (x : DW) : List Value := .int .i64 x.block :: bcells x.bytes
def pCells (ws : List DW) : List Value := ws.flatMap DW.pc
theorem pCells_snoc (ws : List DW) (x : DW) : pCells (ws ++ [x]) = pCells ws ++ x.pc := by simp [pCells]
theorem pc_length {x : DW} (h : x.bytes.length = 64) : x.pc.length = 65 := by simp [DW.pc, bcells_length, h]
theorem pc_one {x : DW} : ∀ v, v ∈ x.pc → v.oneCell' = true := fun v hv => by
 rcases List.mem_cons.1 hv with e | e
 · subst e; rfl
 · exact cells_u8 v e
theorem pCells_get : ∀ (ws : List DW) (i j : Nat), (∀ x, x ∈ ws → x.bytes.length = 64) → i < ws.length → j < 65 → (pCells ws)[i * 65 + j]? = (ws[i]!.pc)[j]?
 | [], _, _, _, hi, _ => absurd hi (Nat.not_lt_zero _)
 | x :: r, 0, j, hw, _, hj => by
  have := pc_length (hw x (List.mem_cons_self ..))
  rw [pCells, List.flatMap_cons, Nat.zero_mul, Nat.zero_add, List.getElem?_append_left (by omega)]
  rfl
 | x :: r, i + 1, j, hw, hi, hj => by
  have hx := pc_length (hw x (List.mem_cons_self ..))
  have hlt : i < r.length := by simpa using hi
  have ih := pCells_get r i j (fun y hy => hw y (List.mem_cons_of_mem _ hy)) hlt hj
  rw [pCells, List.flatMap_cons, List.getElem?_append_right (by rw [hx, Nat.add_mul]; omega), hx, show (i + 1) * 65 + j - 65 = i * 65 + j by rw [Nat.add_mul]; omega]
  rw [pCells] at ih
  rw [ih, getElem!_pos r i hlt, getElem!_pos (x :: r) (i + 1) hi]
  rfl
theorem owns_pend {w : World} {base t n cap : Nat} {a : Option Addr} {ws : List DW} (ho : w.ownsRow base t 65 (.slice a n cap) n (pCells ws)) (hw : ∀ x, x ∈ ws → x.bytes.length = 64) {k : Nat} (hk : k < ws.length) : ∃ g, a = some ⟨g, 0, none⟩ ∧ base ≤ g ∧ g < w.heap.size ∧ w.rangeAt g (k * 65) (ws[k]!.pc) := by
 have hpl : (ws[k]!.pc).length = 65 := pc_length (hw _ (mem_at hk))
 have h0 : (pCells ws)[k * 65 + 0]? = some (.int .i64 ws[k]!.block) := (pCells_get ws k 0 hw hk (by omega)).trans rfl
 obtain ⟨g, ha, hb, hlt, _⟩ := owns_cell ho h0
 refine ⟨g, ha, hb, hlt, fun j v hj => ?_⟩
 have hj65 : j < 65 := by have := (List.getElem?_eq_some_iff.1 hj).1; omega
 obtain ⟨g', ha', _, _, hc⟩ := owns_cell ho ((pCells_get ws k j hw hk hj65).trans hj)
 rw [ha] at ha'
 obtain rfl := some_addr ha'
 exact hc
section
variable {P : Program} {ops : Array Oper} {Q : Exit → Act → World → Prop} {md : Region.Mode} {S : World → Prop} {lst : Nat}
def anyU (P : Program) (md : Region.Mode) (ops : Array Oper) (Q : Exit → Act → World → Prop) (S : World → Prop) (lst : Nat) : Nat → Array Bool → Act → World → Prop
 | 0, listed, a, w => Region.ready md ops listed = [] ∧ Q .normal a w
 | fuel + 1, listed, a, w =>
  (Region.ready md ops listed = [] → Q .normal a w) ∧
  ∀ i ∈ Region.ready md ops listed, wpOp P ops Q i (fun a' w' => (i ≠ lst → S w') ∧ anyU P md ops Q S lst fuel (listed.setIfInBounds i true) a' w') a w
theorem wpAny_of_U : ∀ (fuel : Nat) (listed : Array Bool) (a : Act) (w : World), anyU P md ops Q S lst fuel listed a w → wpAny P md ops Q fuel listed a w
 | 0, _, _, _, h => h
 | fuel + 1, _, _, _, h => ⟨h.1, fun i hi => wpOp_mono (fun a' w' h' => wpAny_of_U fuel _ a' w' h'.2) (h.2 i hi)⟩
theorem anyU_first {i : Nat} {oi : Oper} {v : Value} (hi : ops[i]? = some oi) (hsel : ∀ (j : Nat) (o : Oper) cs b, ops[j]? = some o → o.op ≠ .select cs b)
  (hQ : ∀ c a w, Q (.panic c) (a.put oi.dst v) w → Q (.panic c) a w)
  (hlst : ∀ oj, ops[lst]? = some oj → ∃ e ∈ oj.after, Region.binds md e = true ∧ e.on = i) (hil : i ≠ lst) :
  ∀ (fuel : Nat) (listed : Array Bool) (a : Act) (w : World),
   (∀ j oj, ops[j]? = some oj → j ≠ i → listed.getD j true = false → (∀ e ∈ oj.after, Region.binds md e = true → e.on ≠ i) → oi.apart ops oj = true) →
   i ∈ Region.ready md ops listed → YieldsIf P ops S oi v a → S w →
   anyU P md ops Q S lst fuel (listed.setIfInBounds i true) (a.put oi.dst v) w → anyU P md ops Q S lst (fuel + 1) listed a w := by
 intro fuel
 induction fuel with
 | zero =>
  intro listed a w _ hr hy hS H
  refine ⟨fun h => (by rw [h] at hr; cases hr), fun j hj => ?_⟩
  by_cases hji : j = i
  · subst hji; exact hy.wpOp hi hS ⟨fun _ => hS, H⟩
  ·
   have h0 := ready_mono hj hji
   rw [H.1] at h0
   cases h0
 | succ fuel ih =>
  intro listed a w hfree hr hy hS H
  refine ⟨fun h => (by rw [h] at hr; cases hr), fun j hj => ?_⟩
  by_cases hji : j = i
  · subst hji; exact hy.wpOp hi hS ⟨fun _ => hS, H⟩
  ·
   have h1 := H.2 j (ready_mono hj hji)
   obtain ⟨hjun, oj, hoj, hall⟩ := mem_ready.1 hj
   have hnot : ∀ e ∈ oj.after, Region.binds md e = true → e.on ≠ i := fun e he hb heq => by
    have h1 := hall e he hb
    have h0 := (mem_ready.1 hr).1
    rw [heq] at h1
    rcases Nat.lt_or_ge i listed.size with h' | h'
    · simp [h'] at h0 h1; rw [h0] at h1; cases h1
    · simp [Array.getElem?_eq_none h'] at h1
   have hjl : j ≠ lst := fun e => by
    subst e
    obtain ⟨e, he, hb, ho⟩ := hlst oj hoj
    exact hnot e he hb ho
   have h2 := wpOp_putIf hoj (hfree j oj hoj hji hjun hnot) (fun cs b => hsel i oi cs b hi) (fun cs b => hsel j oj cs b hoj) hQ hy h1
   have hfree' : ∀ k ok, ops[k]? = some ok → k ≠ i → (listed.setIfInBounds j true).getD k true = false →
     (∀ e ∈ ok.after, Region.binds md e = true → e.on ≠ i) → oi.apart ops ok = true := fun k ok hk hki hun hno => by
    refine hfree k ok hk hki ?_ hno
    by_cases hjk : j = k
    · subst hjk; exact hjun
    · rw [getD_set_ne true hjk] at hun; exact hun
   refine wpOp_mono (fun a' w' h3 => ⟨fun hl => h3.2.1 hl, ih (listed.setIfInBounds j true) a' w' hfree' (ready_mono hr (Ne.symm hji)) h3.1 (h3.2.1 hjl) ?_⟩) h2
   rw [Array.setIfInBounds_comm _ _ hji]
   exact h3.2.2
def lastWaits (md : Region.Mode) (ops : Array Oper) (lst i : Nat) : Bool :=
 !(i == lst) && match ops[lst]? with
 | some oj => oj.after.any fun e => Region.binds md e && e.on == i
 | none => true
theorem anyU_take {i : Nat} {oi : Oper} {v : Value} {fuel : Nat} {listed : Array Bool} {a : Act} {w : World} (hi : ops[i]? = some oi)
  (hs : Region.noSelect ops = true) (hf : Region.free md ops listed i = true) (hr : (Region.ready md ops listed).contains i = true) (hl : lastWaits md ops lst i = true)
  (hQ : ∀ c a w, Q (.panic c) (a.put oi.dst v) w → Q (.panic c) a w) (hy : YieldsIf P ops S oi v a) (hS : S w)
  (h : anyU P md ops Q S lst fuel (listed.setIfInBounds i true) (a.put oi.dst v) w) : anyU P md ops Q S lst (fuel + 1) listed a w := by
 unfold lastWaits at hl
 simp only [Bool.and_eq_true, Bool.not_eq_true', beq_eq_false_iff_ne] at hl
 refine anyU_first hi (Region.noSelect_spec hs) hQ (fun oj hoj => ?_) hl.1 fuel listed a w (Region.free_spec hi hf) (by simpa using hr) hy hS h
 have h2 := hl.2
 rw [hoj] at h2
 obtain ⟨e, he, hb⟩ := Array.any_eq_true'.1 h2
 simp only [Bool.and_eq_true, beq_iff_eq] at hb
 exact ⟨e, he, hb.1, hb.2⟩
theorem anyU_one {i : Nat} {o : Oper} {fuel : Nat} {listed : Array Bool} {a : Act} {w : World} (hr : Region.ready md ops listed = [i]) (ho : ops[i]? = some o)
  (h : ∀ K : Act → World → Prop, Shut (∀ a w, S w → anyU P md ops Q S lst fuel (listed.setIfInBounds i true) a w → K a w) → if Region.wanted o (yielded ops a.tmps) = true then Oper.wp P o a w K Q else K (a.put o.dst undef) w) :
  anyU P md ops Q S lst (fuel + 1) listed a w := by
 refine ⟨fun h0 => (by rw [hr] at h0; cases h0), fun j hj => ?_⟩
 rw [hr] at hj
 obtain rfl : j = i := by simpa using hj
 exact wpOp_step ho (fun K' hK => h K' (fun a w hS hW => hK a w ⟨fun _ => hS, hW⟩))
theorem anyU_last {o : Oper} {fuel : Nat} {listed : Array Bool} {a : Act} {w : World} (hr : Region.ready md ops listed = [lst]) (ho : ops[lst]? = some o) (hd : Region.ready md ops (listed.setIfInBounds lst true) = [])
  (h : ∀ K : Act → World → Prop, Shut (∀ a w, Q .normal a w → K a w) → if Region.wanted o (yielded ops a.tmps) = true then Oper.wp P o a w K Q else K (a.put o.dst undef) w) :
  anyU P md ops Q S lst (fuel + 1) listed a w := by
 refine ⟨fun h0 => (by rw [hr] at h0; cases h0), fun j hj => ?_⟩
 rw [hr] at hj
 obtain rfl : j = lst := by simpa using hj
 refine wpOp_step ho (fun K' hK => h K' (fun a w hQ => hK a w ⟨fun e => absurd rfl e, ?_⟩))
 cases fuel with
 | zero => exact ⟨hd, hQ⟩
 | succ f => exact ⟨fun _ => hQ, fun i hi => by rw [hd] at hi; cases hi⟩
theorem wp_regionU {id : Nat} {a : Act} {w : World} (S : World → Prop) (lst : Nat) (hm : P.follows .mixedOrders = true) (hS : S w.drew)
  (h : S w.drew → anyU P .any ops Q S lst ops.size (Array.replicate ops.size false) a w.drew) : (Code.region id ops true).wp P Q a w :=
 wp_region_any hm (wpAny_of_U _ _ _ _ (h hS))
end
section
variable {P : Program} {ops : Array Oper} {Q : Exit → Act → World → Prop} {md : Region.Mode} {S : World → Prop} {lst : Nat}
theorem anyU_tk {i : Nat} {oi : Oper} {v : Value} {fuel : Nat} {listed : Array Bool} {a : Act} {w : World} (hi : ops[i]? = some oi) (hS : S w) (hy : ∀ u, S u → (execOp a.eval oi).run P u = .ok (.value v) u)
  (h : anyU P md ops Q S lst fuel (listed.setIfInBounds i true) (a.put oi.dst v) w) (hs : Region.noSelect ops = true := by kernel_rfl) (hf : Region.free md ops listed i = true := by kernel_rfl) (hr : (Region.ready md ops listed).contains i = true := by kernel_rfl) (hl : lastWaits md ops lst i = true := by kernel_rfl)
  (hQ : ∀ c a w, Q (.panic c) (a.put oi.dst v) w → Q (.panic c) a w := by exact fun _ _ _ h => h) (hw : Region.wanted oi (yielded ops a.tmps) = true := by rfl) : anyU P md ops Q S lst (fuel + 1) listed a w :=
 anyU_take hi hs hf hr hl hQ (Or.inl ⟨hw, hy⟩) hS h
end
theorem fold_set (off : Nat) : ∀ (vs : List Value) (k : Nat) (base : Array Value) (_ : off + k + vs.length ≤ base.size),
  ((vs.zipIdx k).foldl (fun cs x => cs.setIfInBounds (off + x.2) x.1) base).toList = base.toList.take (off + k) ++ vs ++ base.toList.drop (off + k + vs.length)
 | [], k, base, _ => by simp
 | v :: r, k, base, h => by
  have h' : off + (k + 1) + r.length ≤ (base.setIfInBounds (off + k) v).size := by simp only [List.length_cons] at h; simp; omega
  simp only [List.zipIdx_cons, List.foldl_cons]
  rw [fold_set off r (k + 1) _ h']
  have hk : off + k < base.toList.length := by simp only [List.length_cons] at h; simp; omega
  have e3 : (base.toList.take (off + k) ++ [base.toList[off + k]]).set (off + k) v = base.toList.take (off + k) ++ [v] := by
   have hl : (base.toList.take (off + k)).length = off + k := by rw [List.length_take]; omega
   rw [List.set_append, if_neg (by omega), hl, Nat.sub_self]
   rfl
  rw [Array.toList_setIfInBounds, show off + (k + 1) = off + k + 1 by omega, List.take_set, List.take_succ_eq_append_getElem hk, e3, List.drop_set_of_lt (by omega)]
  simp only [List.length_cons, List.append_assoc, List.cons_append, List.nil_append]
  rw [show off + k + (r.length + 1) = off + k + 1 + r.length by omega]
theorem fill_one (C base : Array Value) (off : Nat) (h : off + C.size ≤ base.size) :
  C.zipIdx.foldl (fun cs x => cs.setIfInBounds (off + x.2) x.1) base = (base.toList.take off ++ C.toList ++ base.toList.drop (off + C.size)).toArray := by
 have := fold_set off C.toList 0 base (by simpa using h)
 apply Array.ext'
 rw [← Array.foldl_toList, Array.toList_zipIdx, this]
 simp
theorem built_pending (parts : List (Nat × Value)) : Tryz.prog.built 194 parts = Instr.fill (fun i => (#[(0, 1), (1, 64)] : Array (Nat × Nat))[i]?) (.int .i64 0 :: zeros 64).toArray parts := by kernel_rfl
theorem pend_built (x : DW) (h : x.bytes.length = 64) : Tryz.prog.built 194 [(0, .int .i64 x.block), (1, .agg (bcells x.bytes).toArray)] = some x.pc.toArray := by
 rw [built_pending]
 have hl : (bcells x.bytes).length = 64 := by rw [bcells_length, h]
 have hz : (zeros 64).length = 64 := by simp [zeros]
 have e1 := fill_one #[.int .i64 x.block] (.int .i64 0 :: zeros 64).toArray 0 (by simp)
 have e2 := fill_one (bcells x.bytes).toArray (.int .i64 x.block :: zeros 64).toArray 1 (by simp [hl, hz])
 have s1 : Value.cells (.int .i64 x.block) = #[.int .i64 x.block] := rfl
 have s2 : Value.cells (.agg (bcells x.bytes).toArray) = (bcells x.bytes).toArray := rfl
 simp only [Instr.fill, s1, s2, List.getElem?_toArray, List.getElem?_cons_zero, List.getElem?_cons_succ]
 rw [e1]
 simp only [List.take_zero, List.nil_append, List.size_toArray, List.length_cons, List.length_nil, Nat.zero_add, List.drop_succ_cons, List.drop_zero, List.cons_append]
 rw [e2]
 simp [hl, hz, DW.pc]
theorem fill_whole (C base : Array Value) (place : Nat → Option (Nat × Nat)) (n : Nat) (hp : place 0 = some (0, n)) (hC : C.size = n) (hb : base.size = n) : Instr.fill place base [(0, .agg C)] = some C := by
 have e := fill_one C base 0 (by omega)
 have s : Value.cells (.agg C) = C := rfl
 simp only [Instr.fill, hp, s]
 rw [if_neg (by simp; omega), e, List.drop_eq_nil_of_le (by simp; omega)]
 simp
theorem yieldsIf_build {P : Program} {ops : Array Oper} {S : World → Prop} {op : Oper} {a : Act} (hw : Region.wanted op (yielded ops a.tmps) = true) (t : TypeId) (parts : Array (Nat × Operand)) (ho : op.op = .build t parts) (cells : Array Value)
  (h : P.built t (parts.map fun (i, x) => (i, a.eval x)).toList = some cells) : YieldsIf P ops S op (.agg cells) a :=
 .inl ⟨hw, fun w _ => by
  unfold execOp
  simp only [ho, Sem.run_bind, run_build w t _ cells h, Result.andThen_ok]
  rfl⟩
theorem run_arrayAt (u : World) (a : Option Addr) (c : Nat) : (Instr.arrayAt 136 (.slice a 64 c)).run Tryz.prog u = .ok (.pointer a) u := by
 simp [Instr.arrayAt, run_underlying Tryz.underlying136]
end Go.Proofs.YthjddpkegooobacGreatDoor
