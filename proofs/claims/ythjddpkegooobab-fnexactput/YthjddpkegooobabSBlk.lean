/-
  SBLK: lists of bytes and writes that the specification appends to. Own work.
-/
import Derived.Test.YthjddpkegooobabSCopy
namespace Go.Proofs.Ythjddpkegooobab
open Go.RowKit

/-- bytes, and where they lie -/
structure LB where
  l : List Nat
  a : Option Addr
  cap : Nat
  deriving Inhabited
def LB.v (y : LB) : Value := .slice y.a y.l.length y.cap

structure SB (base : Nat) (wr : World) (ba : Option Addr) (bc : Nat) (lb : List LB) : Prop where
  own : wr.ownsRow base 28 1 (.slice ba lb.length bc) lb.length (lb.map LB.v)
  byt : ∀ y, y ∈ lb → wr.ownsRow base 5 1 (.slice y.a y.l.length y.cap) y.l.length (bcells y.l)
theorem SB.kept {p : Nat → Prop} {base : Nat} {w w' : World} {ba : Option Addr} {bc : Nat} {lb : List LB} (h : SB base w ba bc lb) (K : Kept p w w') (hp : ∀ z, p z → base ≤ z → ¬ IsS w z ∧ ¬ IsB w z) : SB base w' ba bc lb :=
  ⟨K.owns h.own (fun z hz e => let r := owns_isS h.own hz; (hp z e r.2).1 r.1), fun y hy => K.owns (h.byt y hy) (fun z hz e => let r := owns_isB (h.byt y hy) hz; (hp z e r.2).2 r.1)⟩
theorem SB.grow {base : Nat} {w w' : World} {ba : Option Addr} {bc : Nat} {lb : List LB} (h : SB base w ba bc lb) (hb : Below w.heap.size w w') : SB base w' ba bc lb := h.kept (Kept.of_below hb (fun _ => False)) (fun _ e => e.elim)
theorem SB.nil (base : Nat) (w : World) : SB base w none 0 [] := ⟨owns_none _ _ _ _, fun y hy => by cases hy⟩
theorem SB.push {base : Nat} {w w5 : World} {ba : Option Addr} {bc : Nat} {lb : List LB} (h : SB base w ba bc lb) {y : LB} (hy : w.ownsRow base 5 1 (.slice y.a y.l.length y.cap) y.l.length (bcells y.l)) {gg cc : Nat}
    (hown : w5.ownsRow base 28 1 (.slice (some ⟨gg, 0, none⟩) (lb.length + 1) cc) (lb.length + 1) (lb.map LB.v ++ [y.v])) (hgrow : w.grownBy w5 (Value.slice ba lb.length bc).ownBlock) : SB base w5 (some ⟨gg, 0, none⟩) cc (lb ++ [y]) := by
  have K := Kept.of_grown hgrow
  refine ⟨by rw [List.map_append, List.length_append]; exact hown, fun x hx => ?_⟩
  have hb : ∀ {x : LB}, w.ownsRow base 5 1 (.slice x.a x.l.length x.cap) x.l.length (bcells x.l) → w5.ownsRow base 5 1 (.slice x.a x.l.length x.cap) x.l.length (bcells x.l) := fun hx => K.owns hx (fun z hz e => not_B_of_S (owns_isS h.own e).1 (owns_isB hx hz).1)
  rcases List.mem_append.1 hx with e | e
  · exact hb (h.byt x e)
  · obtain rfl : x = y := by simpa using e
    exact hb hy
theorem LB.get {lb : List LB} {i : Nat} (hi : i < lb.length) : (lb.map LB.v)[i]? = some (lb[i]!.v) := by rw [getElem!_pos lb i hi]; simp [hi]
theorem SB.at_ {base : Nat} {w : World} {ba : Option Addr} {bc : Nat} {lb : List LB} (h : SB base w ba bc lb) : BlksAt w ba (lb.map (·.l)) := fun i hi => by
  have hi' : i < lb.length := by simpa using hi
  obtain ⟨g, ha, _, _, hc⟩ := owns_cell h.own (LB.get hi')
  have e : (lb.map (·.l))[i]! = lb[i]!.l := by rw [getElem!_pos _ i hi, getElem!_pos lb i hi']; simp
  rw [e]
  exact ⟨g, 0, lb[i]!.a, lb[i]!.cap, ha, by rw [Nat.zero_add]; exact hc, owns_bytes (h.byt _ (mem_at hi'))⟩

structure SW (base : Nat) (wr : World) (wa : Option Addr) (wc : Nat) (lw : List LW) : Prop where
  own : wr.ownsRow base 133 2 (.slice wa lw.length wc) lw.length (wCells lw)
  byt : ∀ y, y ∈ lw → wr.ownsRow base 5 1 (.slice y.a y.x.bytes.length y.cap) y.x.bytes.length (bcells y.x.bytes)
theorem SW.kept {p : Nat → Prop} {base : Nat} {w w' : World} {wa : Option Addr} {wc : Nat} {lw : List LW} (h : SW base w wa wc lw) (K : Kept p w w') (hp : ∀ z, p z → base ≤ z → ¬ IsW w z ∧ ¬ IsB w z) : SW base w' wa wc lw :=
  ⟨K.owns h.own (fun z hz e => let r := owns_isW h.own hz; (hp z e r.2).1 r.1), fun y hy => K.owns (h.byt y hy) (fun z hz e => let r := owns_isB (h.byt y hy) hz; (hp z e r.2).2 r.1)⟩
theorem SW.grow {base : Nat} {w w' : World} {wa : Option Addr} {wc : Nat} {lw : List LW} (h : SW base w wa wc lw) (hb : Below w.heap.size w w') : SW base w' wa wc lw := h.kept (Kept.of_below hb (fun _ => False)) (fun _ e => e.elim)
theorem SW.nil (base : Nat) (w : World) : SW base w none 0 [] := ⟨owns_none _ _ _ _, fun y hy => by cases hy⟩
theorem SW.push {base : Nat} {w w5 : World} {wa : Option Addr} {wc : Nat} {lw : List LW} (h : SW base w wa wc lw) {y : LW} (hy : w.ownsRow base 5 1 (.slice y.a y.x.bytes.length y.cap) y.x.bytes.length (bcells y.x.bytes)) {gg cc : Nat}
    (hown : w5.ownsRow base 133 2 (.slice (some ⟨gg, 0, none⟩) (lw.length + 1) cc) (lw.length + 1) (wCells lw ++ [.int .i64 y.x.block, .slice y.a y.x.bytes.length y.cap])) (hgrow : w.grownBy w5 (Value.slice wa lw.length wc).ownBlock) : SW base w5 (some ⟨gg, 0, none⟩) cc (lw ++ [y]) := by
  have K := Kept.of_grown hgrow
  refine ⟨by rw [wCells_snoc, List.length_append]; exact hown, fun x hx => ?_⟩
  have hb : ∀ {x : LW}, w.ownsRow base 5 1 (.slice x.a x.x.bytes.length x.cap) x.x.bytes.length (bcells x.x.bytes) → w5.ownsRow base 5 1 (.slice x.a x.x.bytes.length x.cap) x.x.bytes.length (bcells x.x.bytes) := fun hx => K.owns hx (fun z hz e => not_B_of_W (owns_isW h.own e).1 (owns_isB hx hz).1)
  rcases List.mem_append.1 hx with e | e
  · exact hb (h.byt x e)
  · obtain rfl : x = y := by simpa using e
    exact hb hy
theorem SW.at_ {base : Nat} {w : World} {wa : Option Addr} {wc : Nat} {lw : List LW} (h : SW base w wa wc lw) : WrsAt w wa (lw.map (·.x)) := fun i hi => by
  have hi' : i < lw.length := by simpa using hi
  obtain ⟨g, ha, _, _, hc⟩ := owns_cell h.own ((wCells_get lw i 0 hi' (by omega)).trans rfl)
  obtain ⟨g1, ha1, _, _, hc1⟩ := owns_cell h.own ((wCells_get lw i 1 hi' (by omega)).trans rfl)
  rw [ha] at ha1
  obtain rfl := some_addr ha1
  have e : (lw.map (·.x))[i]! = lw[i]!.x := by rw [getElem!_pos _ i hi, getElem!_pos lw i hi']; simp
  rw [e]
  exact ⟨g, 0, lw[i]!.a, lw[i]!.cap, ha, by rw [Nat.zero_add]; exact hc, by rw [Nat.zero_add]; exact hc1, owns_bytes (h.byt _ (mem_at hi'))⟩

/-- a disk's own variable, written -/
structure VB (wr : World) (V : Nat) (s0 s1 : Value) : Prop where
  v0 : wr.cell? ⟨V, 0, none⟩ = some s0
  v1 : wr.cell? ⟨V, 1, none⟩ = some s1
  vf : ∀ o, wr.frozen? ⟨V, o, none⟩ = false
theorem VB.lt {w : World} {V : Nat} {s0 s1 : Value} (h : VB w V s0 s1) : V < w.heap.size := World.block_lt_of_cell? w ⟨V, 0, none⟩ h.v0
theorem VB.kept {p : Nat → Prop} {w w' : World} {V : Nat} {s0 s1 : Value} (h : VB w V s0 s1) (K : Kept p w w') (hn : ¬ p V) : VB w' V s0 s1 :=
  ⟨K.cell h.v0 hn, K.cell h.v1 hn, fun o => (World.frozen?_of_block (w := w) (a := ⟨V, o, none⟩) (K.block V h.lt hn)).trans (h.vf o)⟩
theorem VB.grow {w w' : World} {V : Nat} {s0 s1 : Value} (h : VB w V s0 s1) (hb : Below w.heap.size w w') : VB w' V s0 s1 := h.kept (Kept.of_below hb (fun _ => False)) (fun e => e)
theorem VB.set0 {w : World} {V : Nat} {s0 s1 : Value} (h : VB w V s0 s1) (s : Value) : VB (w.setCell ⟨V, 0, none⟩ s) V s s1 :=
  ⟨World.cell?_setCell_same _ _ _ h.v0, (World.cell?_setCell_other _ _ _ _ (by simp)).trans h.v1, fun o => by rw [World.frozen?_setCell]; exact h.vf o⟩
theorem VB.set1 {w : World} {V : Nat} {s0 s1 : Value} (h : VB w V s0 s1) (s : Value) : VB (w.setCell ⟨V, 1, none⟩ s) V s0 s :=
  ⟨(World.cell?_setCell_other _ _ _ _ (by simp)).trans h.v0, World.cell?_setCell_same _ _ _ h.v1, fun o => by rw [World.frozen?_setCell]; exact h.vf o⟩
theorem VB.new (w : World) (s0 s1 : Value) (t : TypeId) : VB (w.alloc (.cells #[s0, s1] t)) w.heap.size s0 s1 := ⟨by simp, by simp, fun o => by simp⟩
theorem VB.new_at (w : World) (s0 s1 : Value) (t : TypeId) (V : Nat) (hV : V = w.heap.size) : VB (w.alloc (.cells #[s0, s1] t)) V s0 s1 := by subst hV; exact VB.new w s0 s1 t
theorem Kept.one (w : World) (V o : Nat) (s : Value) : Kept (fun b => b = V) w (w.setCell ⟨V, o, none⟩ s) := (Kept.refl (fun b => b = V) w).set (a := ⟨V, o, none⟩) (fun _ => rfl) s
theorem SB.set {base : Nat} {w : World} {ba : Option Addr} {bc : Nat} {lb : List LB} (h : SB base w ba bc lb) {V : Nat} (hV : V < base) (o : Nat) (s : Value) : SB base (w.setCell ⟨V, o, none⟩ s) ba bc lb := h.kept (Kept.one w V o s) (fun z e hz => by omega)
theorem SW.set {base : Nat} {w : World} {wa : Option Addr} {wc : Nat} {lw : List LW} (h : SW base w wa wc lw) {V : Nat} (hV : V < base) (o : Nat) (s : Value) : SW base (w.setCell ⟨V, o, none⟩ s) wa wc lw := h.kept (Kept.one w V o s) (fun z e hz => by omega)

end Go.Proofs.Ythjddpkegooobab
