/-
  ROWS3: values and nodes in rows that grow. Own work.
-/
import Derived.Test.YthjddpkegooobaaRows2
namespace Go.Proofs.Ythjddpkegooobaa
open Go.RowKit

theorem flatMap_get {α β : Type} [Inhabited α] {f : α → List β} {c : Nat} (hf : ∀ x, (f x).length = c) : ∀ (l : List α) (i j : Nat), i < l.length → j < c → (l.flatMap f)[i * c + j]? = (f l[i]!)[j]?
  | [], _, _, hi, _ => absurd hi (Nat.not_lt_zero _)
  | x :: r, 0, j, _, hj => by
    rw [List.flatMap_cons, Nat.zero_mul, Nat.zero_add, List.getElem?_append_left (by rw [hf]; exact hj)]
    rfl
  | x :: r, i + 1, j, hi, hj => by
    have hlt : i < r.length := by simpa using hi
    have ih := flatMap_get hf r i j hlt hj
    rw [List.flatMap_cons, List.getElem?_append_right (by rw [hf, Nat.add_mul]; omega), hf, show (i + 1) * c + j - c = i * c + j by rw [Nat.add_mul]; omega, ih]
    rw [getElem!_pos r i hlt, getElem!_pos (x :: r) (i + 1) hi]
    rfl

def GV.four (v : GV) : List Value := [.int .i64 v.kind, .int .i64 v.num, .string v.text, .int .i64 v.node]
theorem GV.four_length (v : GV) : v.four.length = 4 := rfl
def valCells (vs : List GV) : List Value := vs.flatMap GV.four
theorem valCells_snoc (vs : List GV) (v : GV) : valCells (vs ++ [v]) = valCells vs ++ [.int .i64 v.kind, .int .i64 v.num, .string v.text, .int .i64 v.node] := by
  simp [valCells, GV.four]

theorem owns_vals {w : World} {base t n len cap : Nat} {a : Option Addr} {vs : List GV} (ho : w.ownsRow base t 4 (.slice a len cap) n (valCells vs)) {B : Nat} (hB : w.heap.size ≤ B) : ValsAt B w a vs := fun i hi => by
  have hg : ∀ j, j < 4 → (valCells vs)[i * 4 + j]? = (vs[i]!.four)[j]? := fun j hj => flatMap_get GV.four_length vs i j hi hj
  obtain ⟨g, ha, hb, hlt, c0⟩ := owns_cell ho (hg 0 (by decide))
  obtain ⟨g1, ha1, _, _, c1⟩ := owns_cell ho (hg 1 (by decide))
  obtain ⟨g2, ha2, _, _, c2⟩ := owns_cell ho (hg 2 (by decide))
  obtain ⟨g3, ha3, _, _, c3⟩ := owns_cell ho (hg 3 (by decide))
  rw [ha] at ha1 ha2 ha3
  simp at ha1 ha2 ha3
  subst ha1 ha2 ha3
  exact ⟨g, 0, ha, by omega, ⟨by rw [Nat.zero_add]; exact c0, by rw [Nat.zero_add]; exact c1, by rw [Nat.zero_add]; exact c2, by rw [Nat.zero_add]; exact c3⟩⟩

/-- a node, and where its values lie -/
structure NL where
  n : GN
  a : Option Addr
  cap : Nat
  deriving Inhabited
def NL.two (x : NL) : List Value := [.int .i64 x.n.tag, .slice x.a x.n.vals.length x.cap]
theorem NL.two_length (x : NL) : x.two.length = 2 := rfl
def nodeCells (l : List NL) : List Value := l.flatMap NL.two
theorem nodeCells_snoc (l : List NL) (x : NL) : nodeCells (l ++ [x]) = nodeCells l ++ [.int .i64 x.n.tag, .slice x.a x.n.vals.length x.cap] := by
  simp [nodeCells, NL.two]

theorem owns_nodes {w : World} {base t n len cap : Nat} {a : Option Addr} {l : List NL} (ho : w.ownsRow base t 2 (.slice a len cap) n (nodeCells l)) (hv : ∀ x, x ∈ l → ValsAt w.heap.size w x.a x.n.vals) : NodesAt w.heap.size w a (l.map (·.n)) := fun i hi => by
  have hi' : i < l.length := by simpa using hi
  have e : (l.map (·.n))[i]! = (l[i]!).n := by rw [getElem!_pos _ i hi, getElem!_pos l i hi']; simp
  have hg : ∀ j, j < 2 → (nodeCells l)[i * 2 + j]? = (l[i]!.two)[j]? := fun j hj => flatMap_get NL.two_length l i j hi' hj
  obtain ⟨g, ha, hb, hlt, c0⟩ := owns_cell ho (hg 0 (by decide))
  obtain ⟨g1, ha1, _, _, c1⟩ := owns_cell ho (hg 1 (by decide))
  rw [ha] at ha1
  simp at ha1
  subst ha1
  rw [e]
  exact ⟨g, 0, l[i]!.a, l[i]!.cap, ha, hlt, ⟨by rw [Nat.zero_add]; exact c0, by rw [Nat.zero_add]; exact c1, hv _ (mem_at hi')⟩⟩

/-- a node's own variable -/
structure Two (w : World) (b : Nat) (t : Int) (s : Value) : Prop where
  lt : b < w.heap.size
  c0 : w.cell? ⟨b, 0, none⟩ = some (.int .i64 t)
  c1 : w.cell? ⟨b, 1, none⟩ = some s
  f : ∀ o, w.frozen? ⟨b, o, none⟩ = false
  z : ∃ c ty, w.heap[b]? = some (.cells c ty (0, 0))
theorem Two.same {w w' : World} {b : Nat} {t : Int} {s : Value} (h : Two w b t s) (e : w'.heap[b]? = w.heap[b]?) (hlt : b < w'.heap.size) : Two w' b t s :=
  ⟨hlt, (World.cell?_of_block (w := w) e).trans h.c0, (World.cell?_of_block (w := w) e).trans h.c1, fun o => (World.frozen?_of_block (w := w) e).trans (h.f o), let ⟨c, ty, hc⟩ := h.z; ⟨c, ty, e.trans hc⟩⟩
theorem Two.kept {p : Nat → Prop} {w w' : World} {b : Nat} {t : Int} {s : Value} (h : Two w b t s) (k : Kept p w w') (hn : ¬ p b) : Two w' b t s := h.same (k.block b h.lt hn) (Nat.lt_of_lt_of_le h.lt k.size)
theorem Two.new_at (w : World) (t : Int) (s : Value) (ty : TypeId) (b : Nat) (hb : b = w.heap.size) : Two (w.alloc (.cells #[.int .i64 t, s] ty)) b t s := by
  subst hb; exact ⟨by simp, by simp, by simp, fun o => by simp, _, _, blk_new_at _ _ _ rfl⟩
theorem Two.set {w : World} {b : Nat} {t : Int} {s s' : Value} (h : Two w b t s) : Two (w.setCell ⟨b, 1, none⟩ s') b t s' := by
  refine ⟨by have := h.lt; simpa [World.setCell] using this, ?_, ?_, fun o => ?_, ?_⟩
  · rw [World.cell?_setCell_other _ _ _ _ (by simp)]; exact h.c0
  · exact World.cell?_setCell_same _ _ _ h.c1
  · rw [World.frozen?_setCell]; exact h.f o
  · obtain ⟨c, ty, hc⟩ := h.z
    exact ⟨c.setIfInBounds 1 s', ty, by simp [World.setCell, Array.getElem?_modify, hc]⟩

/-- a graph's own variable, written -/
structure Five (w : World) (b : Nat) (v : GV) (s : Value) : Prop where
  lt : b < w.heap.size
  c0 : w.cell? ⟨b, 0, none⟩ = some (.int .i64 v.kind)
  c1 : w.cell? ⟨b, 1, none⟩ = some (.int .i64 v.num)
  c2 : w.cell? ⟨b, 2, none⟩ = some (.string v.text)
  c3 : w.cell? ⟨b, 3, none⟩ = some (.int .i64 v.node)
  c4 : w.cell? ⟨b, 4, none⟩ = some s
  f : ∀ o, w.frozen? ⟨b, o, none⟩ = false
theorem Five.same {w w' : World} {b : Nat} {v : GV} {s : Value} (h : Five w b v s) (e : w'.heap[b]? = w.heap[b]?) (hlt : b < w'.heap.size) : Five w' b v s :=
  ⟨hlt, (World.cell?_of_block (w := w) e).trans h.c0, (World.cell?_of_block (w := w) e).trans h.c1, (World.cell?_of_block (w := w) e).trans h.c2, (World.cell?_of_block (w := w) e).trans h.c3, (World.cell?_of_block (w := w) e).trans h.c4, fun o => (World.frozen?_of_block (w := w) e).trans (h.f o)⟩
theorem Five.kept {p : Nat → Prop} {w w' : World} {b : Nat} {v : GV} {s : Value} (h : Five w b v s) (k : Kept p w w') (hn : ¬ p b) : Five w' b v s := h.same (k.block b h.lt hn) (Nat.lt_of_lt_of_le h.lt k.size)
theorem Five.new_at (w : World) (v : GV) (s : Value) (ty : TypeId) (b : Nat) (hb : b = w.heap.size) : Five (w.alloc (.cells #[.int .i64 v.kind, .int .i64 v.num, .string v.text, .int .i64 v.node, s] ty)) b v s := by
  subst hb; exact ⟨by simp, by simp, by simp, by simp, by simp, by simp, fun o => by simp⟩
theorem Five.set {w : World} {b : Nat} {v : GV} {s s' : Value} (h : Five w b v s) : Five (w.setCell ⟨b, 4, none⟩ s') b v s' := by
  refine ⟨by have := h.lt; simpa [World.setCell] using this, ?_, ?_, ?_, ?_, ?_, fun o => ?_⟩
  · rw [World.cell?_setCell_other _ _ _ _ (by simp)]; exact h.c0
  · rw [World.cell?_setCell_other _ _ _ _ (by simp)]; exact h.c1
  · rw [World.cell?_setCell_other _ _ _ _ (by simp)]; exact h.c2
  · rw [World.cell?_setCell_other _ _ _ _ (by simp)]; exact h.c3
  · exact World.cell?_setCell_same _ _ _ h.c4
  · rw [World.frozen?_setCell]; exact h.f o

/-- a value written into a variable of its own -/
abbrev put4 (w : World) (b : Nat) (v : GV) : World := (((w.setCell ⟨b, 0, none⟩ (.int .i64 v.kind)).setCell ⟨b, 1, none⟩ (.int .i64 v.num)).setCell ⟨b, 2, none⟩ (.string v.text)).setCell ⟨b, 3, none⟩ (.int .i64 v.node)
theorem Kept.put4 (w : World) (b : Nat) (v : GV) : Kept (fun k => k = b) w (put4 w b v) :=
  ((((Kept.refl (fun k => k = b) w).set (fun _ => rfl) _).set (fun _ => rfl) _).set (fun _ => rfl) _).set (fun _ => rfl) _

/-- a value written into a graph's root -/
theorem Five.put {w : World} {b : Nat} {v v' : GV} {s : Value} (h : Five w b v s) :
    Five ((((w.setCell ⟨b, 0, none⟩ (.int .i64 v'.kind)).setCell ⟨b, 1, none⟩ (.int .i64 v'.num)).setCell ⟨b, 2, none⟩ (.string v'.text)).setCell ⟨b, 3, none⟩ (.int .i64 v'.node)) b v' s := by
  have h0 := World.cell?_setCell_same w ⟨b, 0, none⟩ (.int .i64 v'.kind) h.c0
  have h1 : (w.setCell ⟨b, 0, none⟩ (.int .i64 v'.kind)).cell? ⟨b, 1, none⟩ = _ := (World.cell?_setCell_other _ _ _ _ (by simp)).trans h.c1
  have h2 : (w.setCell ⟨b, 0, none⟩ (.int .i64 v'.kind)).cell? ⟨b, 2, none⟩ = _ := (World.cell?_setCell_other _ _ _ _ (by simp)).trans h.c2
  have h3 : (w.setCell ⟨b, 0, none⟩ (.int .i64 v'.kind)).cell? ⟨b, 3, none⟩ = _ := (World.cell?_setCell_other _ _ _ _ (by simp)).trans h.c3
  have h4 : (w.setCell ⟨b, 0, none⟩ (.int .i64 v'.kind)).cell? ⟨b, 4, none⟩ = _ := (World.cell?_setCell_other _ _ _ _ (by simp)).trans h.c4
  refine ⟨by have := h.lt; simpa [World.setCell] using this, ?_, ?_, ?_, ?_, ?_, fun o => ?_⟩
  · rw [World.cell?_setCell_other _ _ _ _ (by simp), World.cell?_setCell_other _ _ _ _ (by simp), World.cell?_setCell_other _ _ _ _ (by simp)]; exact h0
  · rw [World.cell?_setCell_other _ _ _ _ (by simp), World.cell?_setCell_other _ _ _ _ (by simp)]; exact World.cell?_setCell_same _ _ _ h1
  · rw [World.cell?_setCell_other _ _ _ _ (by simp)]
    exact World.cell?_setCell_same _ _ _ (u := .string v.text) (by rw [World.cell?_setCell_other _ _ _ _ (by simp)]; exact h2)
  · exact World.cell?_setCell_same _ _ _ (u := .int .i64 v.node) (by rw [World.cell?_setCell_other _ _ _ _ (by simp), World.cell?_setCell_other _ _ _ _ (by simp)]; exact h3)
  · rw [World.cell?_setCell_other _ _ _ _ (by simp), World.cell?_setCell_other _ _ _ _ (by simp), World.cell?_setCell_other _ _ _ _ (by simp)]; exact h4
  · rw [World.frozen?_setCell, World.frozen?_setCell, World.frozen?_setCell, World.frozen?_setCell]; exact h.f o

end Go.Proofs.Ythjddpkegooobaa
