/-
  DPLAIN: disks as lists, and how they lie in memory. Own work.
-/
import Derived.Test.YthjddpkegooobabBRow
import Derived.Deep.QuietTactic
import Derived.BigQuiet
namespace Go.Proofs.Ythjddpkegooobab
open Go.RowKit

structure DW where
  block : Int
  bytes : List Nat
  deriving Inhabited

structure DD where
  blocks : List (List Nat)
  waiting : List DW
  deriving Inhabited

structure BOk (b : List Nat) : Prop where
  len : b.length ≤ maxLen
  byte : ∀ x, x ∈ b → x < 256

structure DD.Ok (d : DD) : Prop where
  bl : d.blocks.length ≤ maxLen
  bb : ∀ b, b ∈ d.blocks → BOk b
  wl : d.waiting.length ≤ maxLen
  wi : ∀ x, x ∈ d.waiting → I64 x.block
  wb : ∀ x, x ∈ d.waiting → BOk x.bytes

def szBs : List (List Nat) → Int
  | [] => 0
  | b :: r => b.length + szBs r
def szWs : List DW → Int
  | [] => 0
  | x :: r => x.bytes.length + szWs r
def DD.sz (d : DD) : Int := (d.blocks.length + szBs d.blocks) + (d.waiting.length + szWs d.waiting)

theorem szBs_nonneg (l : List (List Nat)) : 0 ≤ szBs l := by
  induction l with
  | nil => simp [szBs]
  | cons v r ih => simp only [szBs]; omega
theorem szWs_nonneg (l : List DW) : 0 ≤ szWs l := by
  induction l with
  | nil => simp [szWs]
  | cons v r ih => simp only [szWs]; omega
theorem szBs_append (a b : List (List Nat)) : szBs (a ++ b) = szBs a + szBs b := by
  induction a with
  | nil => simp [szBs]
  | cons v r ih => simp only [List.cons_append, szBs, ih]; omega
theorem szWs_append (a b : List DW) : szWs (a ++ b) = szWs a + szWs b := by
  induction a with
  | nil => simp [szWs]
  | cons v r ih => simp only [List.cons_append, szWs, ih]; omega
theorem szBs_take_succ (l : List (List Nat)) (k : Nat) (h : k < l.length) : szBs (l.take (k + 1)) = szBs (l.take k) + l[k]!.length := by
  rw [take_snoc l k h, szBs_append]; simp [szBs]
theorem szWs_take_succ (l : List DW) (k : Nat) (h : k < l.length) : szWs (l.take (k + 1)) = szWs (l.take k) + l[k]!.bytes.length := by
  rw [take_snoc l k h, szWs_append]; simp [szWs]
theorem szBs_take_le (l : List (List Nat)) (k : Nat) : szBs (l.take k) ≤ szBs l := by
  have h : szBs l = szBs (l.take k) + szBs (l.drop k) := by rw [← szBs_append, List.take_append_drop]
  have := szBs_nonneg (l.drop k); omega
theorem szWs_take_le (l : List DW) (k : Nat) : szWs (l.take k) ≤ szWs l := by
  have h : szWs l = szWs (l.take k) + szWs (l.drop k) := by rw [← szWs_append, List.take_append_drop]
  have := szWs_nonneg (l.drop k); omega
theorem szBs_mem {l : List (List Nat)} {b : List Nat} (h : b ∈ l) : (b.length : Int) ≤ szBs l := by
  induction l with
  | nil => cases h
  | cons x r ih =>
    have := szBs_nonneg r
    simp only [szBs]
    cases List.mem_cons.1 h with
    | inl e => subst e; omega
    | inr e => have := ih e; omega
theorem szWs_mem {l : List DW} {x : DW} (h : x ∈ l) : (x.bytes.length : Int) ≤ szWs l := by
  induction l with
  | nil => cases h
  | cons y r ih =>
    have := szWs_nonneg r
    simp only [szWs]
    cases List.mem_cons.1 h with
    | inl e => subst e; omega
    | inr e => have := ih e; omega

/-- what a size at most so great says of the parts -/
structure DD.Small (d : DD) : Prop where
  bl : d.blocks.length ≤ 1048576
  bb : ∀ b, b ∈ d.blocks → b.length ≤ 1048576
  wl : d.waiting.length ≤ 1048576
  wb : ∀ x, x ∈ d.waiting → x.bytes.length ≤ 1048576
theorem DD.small {d : DD} (h : d.sz ≤ 1048576) : d.Small := by
  have h1 := szBs_nonneg d.blocks
  have h2 := szWs_nonneg d.waiting
  unfold DD.sz at h
  exact ⟨by omega, fun b hb => by have := szBs_mem hb; omega, by omega, fun x hx => by have := szWs_mem hx; omega⟩

/-- lists of bytes at a place -/
def BlksAt (w : World) (a : Option Addr) (ls : List (List Nat)) : Prop :=
  ∀ i, i < ls.length → ∃ b off a' cap, a = some ⟨b, off, none⟩ ∧ w.cell? ⟨b, off + i, none⟩ = some (.slice a' ls[i]!.length cap) ∧ BytesAt w a' ls[i]!
theorem BlksAt.get {w : World} {a : Option Addr} {ls : List (List Nat)} (h : BlksAt w a ls) {k : Nat} (hk : k < ls.length) :
    ∃ l b off a' cap, Hid (l = ls[k]!) ∧ l ∈ ls ∧ a = some ⟨b, off, none⟩ ∧ w.cell? ⟨b, off + k, none⟩ = some (.slice a' l.length cap) ∧ BytesAt w a' l := by
  obtain ⟨b, off, a', cap, ha, hc, hb⟩ := h k hk
  exact ⟨ls[k]!, b, off, a', cap, rfl, mem_at hk, ha, hc, hb⟩
theorem BlksAt.grow {w w' : World} {a : Option Addr} {ls : List (List Nat)} (h : BlksAt w a ls) (hb : Below w.heap.size w w') : BlksAt w' a ls := fun i hi => by
  obtain ⟨b, off, a', cap, ha, hc, hx⟩ := h i hi
  exact ⟨b, off, a', cap, ha, (World.cell?_of_block (w := w) (hb.block b (World.block_lt_of_cell? _ _ hc))).trans hc, hx.grow hb⟩

/-- writes at a place -/
def WrsAt (w : World) (a : Option Addr) (ls : List DW) : Prop :=
  ∀ i, i < ls.length → ∃ b off a' cap, a = some ⟨b, off, none⟩ ∧ w.cell? ⟨b, off + i * 2, none⟩ = some (.int .i64 ls[i]!.block) ∧ w.cell? ⟨b, off + i * 2 + 1, none⟩ = some (.slice a' ls[i]!.bytes.length cap) ∧ BytesAt w a' ls[i]!.bytes
theorem WrsAt.get {w : World} {a : Option Addr} {ls : List DW} (h : WrsAt w a ls) {k : Nat} (hk : k < ls.length) :
    ∃ x b off a' cap, Hid (x = ls[k]!) ∧ x ∈ ls ∧ a = some ⟨b, off, none⟩ ∧ w.cell? ⟨b, off + k * 2, none⟩ = some (.int .i64 x.block) ∧ w.cell? ⟨b, off + k * 2 + 1, none⟩ = some (.slice a' x.bytes.length cap) ∧ BytesAt w a' x.bytes := by
  obtain ⟨b, off, a', cap, ha, hc, hc2, hb⟩ := h k hk
  exact ⟨ls[k]!, b, off, a', cap, rfl, mem_at hk, ha, hc, hc2, hb⟩
theorem WrsAt.grow {w w' : World} {a : Option Addr} {ls : List DW} (h : WrsAt w a ls) (hb : Below w.heap.size w w') : WrsAt w' a ls := fun i hi => by
  obtain ⟨b, off, a', cap, ha, hc, hc2, hx⟩ := h i hi
  exact ⟨b, off, a', cap, ha, (World.cell?_of_block (w := w) (hb.block b (World.block_lt_of_cell? _ _ hc))).trans hc, (World.cell?_of_block (w := w) (hb.block b (World.block_lt_of_cell? _ _ hc2))).trans hc2, hx.grow hb⟩

/-- a disk, and where it lies -/
structure DL where
  ba : Option Addr
  bc : Nat
  wa : Option Addr
  wc : Nat
abbrev DD.val (d : DD) (l : DL) : Value := .agg #[.slice l.ba d.blocks.length l.bc, .slice l.wa d.waiting.length l.wc]
abbrev DW.val (x : DW) (a : Option Addr) (cap : Nat) : Value := .agg #[.int .i64 x.block, .slice a x.bytes.length cap]
structure DAt (w : World) (l : DL) (d : DD) : Prop where
  b : BlksAt w l.ba d.blocks
  w : WrsAt w l.wa d.waiting
theorem DAt.grow {w w' : World} {l : DL} {d : DD} (h : DAt w l d) (hb : Below w.heap.size w w') : DAt w' l d := ⟨h.b.grow hb, h.w.grow hb⟩

/-- a disk's own variable -/
structure DBox (w : World) (p : Nat) (d : DD) (l : DL) : Prop where
  lt : p < w.heap.size
  c0 : w.cell? ⟨p, 0, none⟩ = some (.slice l.ba d.blocks.length l.bc)
  c1 : w.cell? ⟨p, 1, none⟩ = some (.slice l.wa d.waiting.length l.wc)
theorem DBox.same {w w' : World} {p : Nat} {d : DD} {l : DL} (h : DBox w p d l) (e : w'.heap[p]? = w.heap[p]?) (hs : p < w'.heap.size) : DBox w' p d l :=
  ⟨hs, (World.cell?_of_block (w := w) e).trans h.c0, (World.cell?_of_block (w := w) e).trans h.c1⟩
theorem DBox.grow {w w' : World} {p : Nat} {d : DD} {l : DL} (h : DBox w p d l) (hb : Below w.heap.size w w') : DBox w' p d l := h.same (hb.block p h.lt) (Nat.lt_of_lt_of_le h.lt hb.size)
theorem DBox.kept {q : Nat → Prop} {w w' : World} {p : Nat} {d : DD} {l : DL} (h : DBox w p d l) (k : Kept q w w') (hn : ¬ q p) : DBox w' p d l := h.same (k.block p h.lt hn) (Nat.lt_of_lt_of_le h.lt k.size)
theorem DBox.new (w : World) (d : DD) (l : DL) (t : TypeId) : DBox (w.alloc (.cells #[.slice l.ba d.blocks.length l.bc, .slice l.wa d.waiting.length l.wc] t)) w.heap.size d l := ⟨by simp, by simp, by simp⟩

end Go.Proofs.Ythjddpkegooobab
