/-
  BROW: rows of bytes. Own work.
-/
import Derived.Test.YthjddpkegooobaaRows2
namespace Go.Proofs.Ythjddpkegooobaa
open Go.RowKit

theorem hid_ex {α : Type} (x : α) : ∃ y, Hid (y = x) := ⟨x, rfl⟩

set_option maxRecDepth 100000 in
theorem info_u8 : (Try.prog.info? 5).map (fun i => (i.zero, i.size, i.bytes)) = some (some (.int .u8 0), 1, 1) := by kernel_rfl

set_option maxRecDepth 100000 in
theorem rowIs_made_any (w : World) (z : Array Value) (n : Nat) (t : TypeId) : (w.alloc (.cells (madeCells z n) t)).rowIs w.heap.size t n (fun i => z[i % z.size]!) :=
  ⟨_, Deep.blk_alloc_new _ _, size_madeCells _ _, fun i hi => by simp [madeCells, hi]⟩

/-- bytes at a place -/
def BytesAt (w : World) (a : Option Addr) (bs : List Nat) : Prop := ∀ i, i < bs.length → ∃ b off, a = some ⟨b, off, none⟩ ∧ w.cell? ⟨b, off + i, none⟩ = some (.int .u8 ((bs[i]! : Nat) : Int))

set_option maxRecDepth 100000 in
theorem BytesAt.get {w : World} {a : Option Addr} {bs : List Nat} (h : BytesAt w a bs) {k : Nat} (hk : k < bs.length) : ∃ x b off, Hid (x = bs[k]!) ∧ x ∈ bs ∧ a = some ⟨b, off, none⟩ ∧ w.cell? ⟨b, off + k, none⟩ = some (.int .u8 (x : Int)) := by
  obtain ⟨b, off, ha, hc⟩ := h k hk
  exact ⟨bs[k]!, b, off, rfl, mem_at hk, ha, hc⟩
set_option maxRecDepth 100000 in
theorem BytesAt.grow {w w' : World} {a : Option Addr} {bs : List Nat} (h : BytesAt w a bs) (hb : Below w.heap.size w w') : BytesAt w' a bs := fun i hi => by
  obtain ⟨b, off, ha, hc⟩ := h i hi
  exact ⟨b, off, ha, (World.cell?_of_block (w := w) (hb.block b (World.block_lt_of_cell? _ _ hc))).trans hc⟩

/-- the bytes that a row of bytes opens with -/
def BRow (w : World) (a n : Nat) (xs : List Nat) : Prop := ∃ c : Array Value, w.heap[a]? = some (.cells c 5 (0, 0)) ∧ c.size = n ∧ xs.length ≤ n ∧ ∀ i, i < xs.length → c[i]? = some (.int .u8 ((xs[i]! : Nat) : Int))

set_option maxRecDepth 100000 in
theorem BRow.lt {w : World} {a n : Nat} {xs : List Nat} (h : BRow w a n xs) : a < w.heap.size := by
  obtain ⟨c, hc, _⟩ := h
  exact (Array.getElem?_eq_some_iff.1 hc).1
set_option maxRecDepth 100000 in
theorem BRow.of_block {w w' : World} {a n : Nat} {xs : List Nat} (h : BRow w a n xs) (e : w'.heap[a]? = w.heap[a]?) : BRow w' a n xs := by
  obtain ⟨c, hc, r⟩ := h
  exact ⟨c, e.trans hc, r⟩
set_option maxRecDepth 100000 in
theorem BRow.kept {p : Nat → Prop} {w w' : World} {a n : Nat} {xs : List Nat} (h : BRow w a n xs) (k : Kept p w w') (hn : ¬ p a) : BRow w' a n xs := h.of_block (k.block a h.lt hn)
theorem BRow.row {w : World} {a n : Nat} {xs : List Nat} (h : BRow w a n xs) : ∃ f, w.rowIs a 5 n f ∧ ∀ i, i < xs.length → f i = .int .u8 ((xs[i]! : Nat) : Int) := by
  obtain ⟨c, hc, hs, hl, hx⟩ := h
  refine ⟨fun i => c[i]!, ⟨c, hc, hs, fun i hi => ?_⟩, fun i hi => ?_⟩
  · show c[i]? = some c[i]!
    rw [getElem!_pos c i (by omega)]; exact Array.getElem?_eq_getElem (by omega)
  · have h1 := hx i hi
    show c[i]! = _
    rw [getElem!_pos c i (by omega)]
    rw [Array.getElem?_eq_getElem (by omega)] at h1
    exact Option.some.inj h1
set_option maxRecDepth 100000 in
theorem BRow.of_row {w : World} {a n : Nat} {xs : List Nat} {f : Nat → Value} (h : w.rowIs a 5 n f) (hl : xs.length ≤ n) (hx : ∀ i, i < xs.length → f i = .int .u8 ((xs[i]! : Nat) : Int)) : BRow w a n xs := by
  obtain ⟨c, hc, hs, hf⟩ := h
  exact ⟨c, hc, hs, hl, fun i hi => (hf i (by omega)).trans (by rw [hx i hi])⟩
set_option maxRecDepth 100000 in
theorem BRow.any {w : World} {a n : Nat} {xs : List Nat} (h : BRow w a n xs) {i : Nat} (hi : i < n) : ∃ v, w.cell? ⟨a, i, none⟩ = some v := by
  obtain ⟨f, hr, _⟩ := h.row
  exact ⟨_, hr.cell hi⟩
set_option maxRecDepth 100000 in
theorem BRow.cell {w : World} {a n : Nat} {xs : List Nat} (h : BRow w a n xs) {i : Nat} (hi : i < xs.length) : w.cell? ⟨a, i, none⟩ = some (.int .u8 ((xs[i]! : Nat) : Int)) := by
  obtain ⟨f, hr, hx⟩ := h.row
  have hl : xs.length ≤ n := by obtain ⟨c, _, _, hl, _⟩ := h; exact hl
  rw [← hx i hi]
  exact hr.cell (by omega)
set_option maxRecDepth 100000 in
theorem BRow.frozen {w : World} {a n : Nat} {xs : List Nat} (h : BRow w a n xs) (i : Nat) : w.frozen? ⟨a, i, none⟩ = false := by
  obtain ⟨f, hr, _⟩ := h.row
  exact hr.frozen i

set_option maxRecDepth 100000 in
theorem snoc_get {xs : List Nat} {x i : Nat} (hi : i < (xs ++ [x]).length) : (xs ++ [x])[i]! = if i = xs.length then x else xs[i]! := by
  have hi' : i < xs.length + 1 := by simpa using hi
  rw [getElem!_pos _ i hi]
  by_cases h : i = xs.length
  · subst h; simp
  · rw [if_neg h, List.getElem_append_left (by omega), getElem!_pos xs i (by omega)]
set_option maxRecDepth 100000 in
theorem BRow.push {w : World} {a n : Nat} {xs : List Nat} (h : BRow w a n xs) (hl : xs.length < n) (x : Nat) : BRow (w.setCell ⟨a, xs.length, none⟩ (.int .u8 (x : Int))) a n (xs ++ [x]) := by
  obtain ⟨f, hr, hx⟩ := h.row
  refine BRow.of_row (hr.set _ _) (by simp; omega) fun i hi => ?_
  rw [snoc_get hi]
  split
  · rfl
  · rename_i hne
    exact hx i (by have : i < xs.length + 1 := (by simpa using hi); omega)
set_option maxRecDepth 100000 in
theorem app_get {xs ys : List Nat} {i : Nat} (hi : i < (xs ++ ys).length) : (xs ++ ys)[i]! = if i < xs.length then xs[i]! else ys[i - xs.length]! := by
  have hi' : i < xs.length + ys.length := by simpa using hi
  rw [getElem!_pos _ i hi]
  split
  · rename_i h
    rw [List.getElem_append_left h, getElem!_pos xs i h]
  · rename_i h
    rw [List.getElem_append_right (by omega), getElem!_pos ys (i - xs.length) (by omega)]
/-- bytes that lie in memory of their own, and may be written -/
def MB (w : World) (lo : Nat) (oa : Option Addr) (ys : List Nat) : Prop := ys = [] ∨ ∃ G n, oa = some ⟨G, 0, none⟩ ∧ lo ≤ G ∧ BRow w G n ys

set_option maxRecDepth 100000 in
theorem brow_bytes {w : World} {G n : Nat} {ys : List Nat} (h : BRow w G n ys) : BytesAt w (some ⟨G, 0, none⟩) ys := fun i hi => ⟨G, 0, rfl, by rw [Nat.zero_add]; exact h.cell hi⟩

def bcells (xs : List Nat) : List Value := xs.map fun (x : Nat) => Value.int .u8 (x : Int)
set_option maxRecDepth 100000 in
theorem bcells_length (xs : List Nat) : (bcells xs).length = xs.length := by simp [bcells]
theorem bcells_snoc (xs : List Nat) (x : Nat) : bcells (xs ++ [x]) = bcells xs ++ [.int .u8 (x : Int)] := by simp [bcells]
theorem bcells_get {xs : List Nat} {i : Nat} (h : i < xs.length) : (bcells xs)[i]? = some (.int .u8 ((xs[i]! : Nat) : Int)) := by
  rw [getElem!_pos xs i h]; simp [bcells, h]

end Go.Proofs.Ythjddpkegooobaa
