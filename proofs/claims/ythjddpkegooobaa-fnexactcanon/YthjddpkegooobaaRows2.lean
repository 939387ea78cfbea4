/-
  ROWS2: rows that a call owns, and what it leaves alone. Own work.
-/
import Derived.Test.YthjddpkegooobaaMem
import Derived.Deep.OwnRows
import Derived.Deep.AppendLies
import Derived.WalkLawsBesides
namespace Go.Proofs.Ythjddpkegooobaa
open Go.RowKit

/-- but for the blocks that p names, what was there is as it was -/
structure Kept (p : Nat → Prop) (w w' : World) : Prop where
  os : w'.os = w.os
  tape : w'.tape = w.tape
  output : w'.output = w.output
  size : w.heap.size ≤ w'.heap.size
  block : ∀ k, k < w.heap.size → ¬ p k → w'.heap[k]? = w.heap[k]?

theorem Kept.refl (p : Nat → Prop) (w : World) : Kept p w w := ⟨rfl, rfl, rfl, Nat.le_refl _, fun _ _ _ => rfl⟩
theorem Kept.trans {p q : Nat → Prop} {w w' w'' : World} (h : Kept p w w') (k : Kept q w' w'') (hpq : ∀ k, k < w.heap.size → q k → p k) : Kept p w w'' :=
  ⟨k.os.trans h.os, k.tape.trans h.tape, k.output.trans h.output, Nat.le_trans h.size k.size, fun i hi hn => (k.block i (Nat.lt_of_lt_of_le hi h.size) (fun hq => hn (hpq i hi hq))).trans (h.block i hi hn)⟩
theorem Kept.mono {p q : Nat → Prop} {w w' : World} (h : Kept p w w') (hpq : ∀ k, k < w.heap.size → p k → q k) : Kept q w w' :=
  ⟨h.os, h.tape, h.output, h.size, fun i hi hn => h.block i hi (fun hp => hn (hpq i hi hp))⟩
theorem Kept.below {p : Nat → Prop} {w w' : World} {B : Nat} (h : Kept p w w') (hB : B ≤ w.heap.size) (hp : ∀ k, k < B → ¬ p k) : Below B w w' :=
  ⟨h.os, h.tape, h.output, h.size, fun k hk => h.block k (by omega) (hp k hk)⟩
theorem Kept.of_below {w w' : World} (h : Below w.heap.size w w') (p : Nat → Prop) : Kept p w w' := ⟨h.os, h.tape, h.output, h.size, fun k hk _ => h.block k hk⟩
theorem Kept.of_grown {w w' : World} {row : Option Nat} (h : w.grownBy w' row) : Kept (fun k => row = some k) w w' := ⟨h.os, h.tape, h.output, h.size, fun k hk hn => h.block k hk (fun e => hn e.symm)⟩
theorem Kept.alloc {p : Nat → Prop} {w w' : World} (h : Kept p w w') (o : Obj) : Kept p w (w'.alloc o) :=
  h.trans (Kept.of_below (gal (gre w') o) p) (fun _ _ hq => hq)
theorem Kept.drew {p : Nat → Prop} {w w' : World} (h : Kept p w w') : Kept p w w'.drew :=
  h.trans (Kept.of_below (gdr (gre w')) p) (fun _ _ hq => hq)
theorem Kept.set {p : Nat → Prop} {w w' : World} (h : Kept p w w') {a : Addr} (ha : a.block < w.heap.size → p a.block) (u : Value) : Kept p w (w'.setCell a u) :=
  h.trans (q := fun k => k = a.block) ⟨rfl, rfl, rfl, by simp [World.setCell], fun k _ hn => Below.heap_setCell _ _ _ _ hn⟩ (fun k hk hq => by subst hq; exact ha hk)
theorem Kept.cell {p : Nat → Prop} {w w' : World} (h : Kept p w w') {b o : Nat} {v : Value} (hc : w.cell? ⟨b, o, none⟩ = some v) (hn : ¬ p b) : w'.cell? ⟨b, o, none⟩ = some v :=
  (World.cell?_of_block (w := w) (h.block b (World.block_lt_of_cell? _ _ hc) hn)).trans hc
theorem Kept.rowIs {p : Nat → Prop} {w w' : World} (h : Kept p w w') {b t n : Nat} {f : Nat → Value} (hr : w.rowIs b t n f) (hn : ¬ p b) : w'.rowIs b t n f := hr.of_block (h.block b hr.lt hn)
theorem Kept.owns {p : Nat → Prop} {w w' : World} (h : Kept p w w') {base e size n : Nat} {v : Value} {xs : List Value} (ho : w.ownsRow base e size v n xs) (hn : ∀ k, v.ownBlock = some k → ¬ p k) : w'.ownsRow base e size v n xs := by
  refine ⟨ho.1, ?_⟩
  rcases ho.2 with h0 | ⟨g, cap, cur, rfl, hb, hg, r⟩
  · exact Or.inl h0
  · exact Or.inr ⟨g, cap, cur, rfl, hb, by rw [h.block g (Array.getElem?_eq_some_iff.1 hg).1 (hn g rfl)]; exact hg, r⟩

/-- cells of an owned row -/
theorem owns_cell {w : World} {base e size n : Nat} {a : Option Addr} {len cap : Nat} {xs : List Value} (ho : w.ownsRow base e size (.slice a len cap) n xs) {j : Nat} {u : Value} (hj : xs[j]? = some u) :
    ∃ g, a = some ⟨g, 0, none⟩ ∧ base ≤ g ∧ g < w.heap.size ∧ w.cell? ⟨g, j, none⟩ = some u := by
  rcases ho.2 with ⟨_, h0⟩ | ⟨g, cap', cur, hv, hb, hg, _⟩
  · have := ho.1
    rw [h0, Nat.zero_mul] at this
    rw [List.getElem?_eq_none (by omega)] at hj
    cases hj
  · simp only [Value.slice.injEq] at hv
    obtain ⟨rfl, _, _⟩ := hv
    refine ⟨g, rfl, hb, (Array.getElem?_eq_some_iff.1 hg).1, ?_⟩
    have := ho.cells (g := g) rfl j u hj
    rwa [show ((⟨g, 0, none⟩ : Addr).add j) = ⟨g, j, none⟩ by unfold Addr.add; split <;> simp_all] at this

/-- an owned slice's length -/
theorem owns_len {w : World} {base e size n : Nat} {a : Option Addr} {len cap : Nat} {xs : List Value} (ho : w.ownsRow base e size (.slice a len cap) n xs) : len = n := by
  rcases ho.2 with ⟨h, h0⟩ | ⟨g, cap', cur, hv, _⟩
  · simp at h; omega
  · simp at hv; exact hv.2.1

theorem owns_le {w : World} {base base' e size n : Nat} {v : Value} {xs : List Value} (h : w.ownsRow base e size v n xs) (hb : base' ≤ base) : w.ownsRow base' e size v n xs :=
  ⟨h.1, h.2.elim Or.inl (fun ⟨g, cap, cur, hv, hg, r⟩ => Or.inr ⟨g, cap, cur, hv, Nat.le_trans hb hg, r⟩)⟩

theorem some_addr {b c : Nat} (h : (some (⟨b, 0, none⟩ : Addr)) = some ⟨c, 0, none⟩) : b = c := by
  have e := congrArg (fun q => q.map Addr.block) h
  simpa only [Option.map_some, Option.some.injEq] using e

/-- where it lies -/
theorem owns_addr {w : World} {base e size n : Nat} {a : Option Addr} {len cap : Nat} {xs : List Value} (ho : w.ownsRow base e size (.slice a len cap) n xs) {k : Nat} (hk : (Value.slice a len cap).ownBlock = some k) : a = some ⟨k, 0, none⟩ := by
  rcases ho.2 with ⟨h, h0⟩ | ⟨g, cap', cur, hv, _⟩
  · simp at h
    rw [h.1] at hk
    simp [Value.ownBlock] at hk
  · simp at hv
    rw [hv.1] at hk ⊢
    simp [Value.ownBlock] at hk
    rw [hk]

theorem blk_new_at (w : World) (o : Obj) (b : Nat) (hb : b = w.heap.size) : (w.alloc o).heap[b]? = some o := by
  subst hb; exact Deep.blk_alloc_new _ _

def ints (l : List Nat) : List Value := l.map fun (x : Nat) => Value.int .i64 (x : Int)
theorem ints_get {l : List Nat} {i : Nat} (h : i < l.length) : (ints l)[i]? = some (.int .i64 (l[i]! : Nat)) := by
  rw [getElem!_pos l i h]; simp [ints, h]

/-- four cells of a variable's own block -/
structure Four (w : World) (b : Nat) (v : GV) : Prop where
  lt : b < w.heap.size
  c0 : w.cell? ⟨b, 0, none⟩ = some (.int .i64 v.kind)
  c1 : w.cell? ⟨b, 1, none⟩ = some (.int .i64 v.num)
  c2 : w.cell? ⟨b, 2, none⟩ = some (.string v.text)
  c3 : w.cell? ⟨b, 3, none⟩ = some (.int .i64 v.node)
  f : ∀ o, w.frozen? ⟨b, o, none⟩ = false

theorem Four.same {w w' : World} {b : Nat} {v : GV} (h : Four w b v) (e : w'.heap[b]? = w.heap[b]?) (hlt : b < w'.heap.size) : Four w' b v :=
  ⟨hlt, (World.cell?_of_block (w := w) e).trans h.c0, (World.cell?_of_block (w := w) e).trans h.c1, (World.cell?_of_block (w := w) e).trans h.c2, (World.cell?_of_block (w := w) e).trans h.c3, fun o => (World.frozen?_of_block (w := w) e).trans (h.f o)⟩
theorem Four.kept {p : Nat → Prop} {w w' : World} {b : Nat} {v : GV} (h : Four w b v) (k : Kept p w w') (hn : ¬ p b) : Four w' b v := h.same (k.block b h.lt hn) (Nat.lt_of_lt_of_le h.lt k.size)
theorem Four.new (w : World) (v : GV) (t : TypeId) : Four (w.alloc (.cells #[.int .i64 v.kind, .int .i64 v.num, .string v.text, .int .i64 v.node] t)) w.heap.size v :=
  ⟨by simp, by simp, by simp, by simp, by simp, fun o => by simp⟩
theorem Four.new_at (w : World) (v : GV) (t : TypeId) (b : Nat) (hb : b = w.heap.size) : Four (w.alloc (.cells #[.int .i64 v.kind, .int .i64 v.num, .string v.text, .int .i64 v.node] t)) b v := by
  subst hb; exact Four.new w v t
theorem Four.alloc {w : World} {b : Nat} {v : GV} (h : Four w b v) (o : Obj) : Four (w.alloc o) b v := h.same (Below.heap_alloc _ _ _ h.lt) (by have := h.lt; simp; omega)

end Go.Proofs.Ythjddpkegooobaa
