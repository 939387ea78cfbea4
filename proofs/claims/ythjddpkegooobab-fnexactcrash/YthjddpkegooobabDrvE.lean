/-
  DRVE: what a drive's disk is made of. Own work.
-/
import Derived.Test.YthjddpkegooobabDrvD
import Derived.Test.YthjddpkegooobabCloneB
namespace Go.Proofs.Ythjddpkegooobab
open Go.RowKit

/-- all blocks' cells -/
def blCells (bl : List (List Nat)) : List Value := bl.flatMap bcells
theorem blCells_get : ∀ (bl : List (List Nat)) (i j : Nat), (∀ x, x ∈ bl → x.length = 64) → i < bl.length → j < 64 → (blCells bl)[i * 64 + j]? = (bcells bl[i]!)[j]?
  | [], _, _, _, hi, _ => absurd hi (Nat.not_lt_zero _)
  | x :: r, 0, j, hw, _, hj => by
    have : (bcells x).length = 64 := by rw [bcells_length]; exact hw x (List.mem_cons_self ..)
    rw [blCells, List.flatMap_cons, Nat.zero_mul, Nat.zero_add, List.getElem?_append_left (by omega)]
    rfl
  | x :: r, i + 1, j, hw, hi, hj => by
    have hx : (bcells x).length = 64 := by rw [bcells_length]; exact hw x (List.mem_cons_self ..)
    have hlt : i < r.length := by simpa using hi
    have ih := blCells_get r i j (fun y hy => hw y (List.mem_cons_of_mem _ hy)) hlt hj
    rw [blCells, List.flatMap_cons, List.getElem?_append_right (by rw [hx, Nat.add_mul]; omega), hx, show (i + 1) * 64 + j - 64 = i * 64 + j by rw [Nat.add_mul]; omega]
    rw [blCells] at ih
    rw [ih, getElem!_pos r i hlt, getElem!_pos (x :: r) (i + 1) hi]
    rfl
theorem blCells_length : ∀ (bl : List (List Nat)), (∀ x, x ∈ bl → x.length = 64) → (blCells bl).length = bl.length * 64
  | [], _ => rfl
  | x :: r, hw => by
    have hx : (bcells x).length = 64 := by rw [bcells_length]; exact hw x (List.mem_cons_self ..)
    have ih := blCells_length r (fun y hy => hw y (List.mem_cons_of_mem _ hy))
    rw [blCells] at ih
    rw [blCells, List.flatMap_cons, List.length_append, hx, ih, List.length_cons]
    omega
theorem Drv.all64 {w : World} {p : Nat} {bl : List (List Nat)} {s k : Value} (h : Drv w p bl s k) : ∀ x, x ∈ bl → x.length = 64 := fun x hx => by
  obtain ⟨i, hi, e⟩ := List.getElem_of_mem hx
  have := h.bb i (by have := h.len; omega)
  rwa [getElem!_pos bl i hi, e] at this
theorem Drv.whole {w : World} {p : Nat} {bl : List (List Nat)} {s k : Value} (h : Drv w p bl s k) : w.rangeAt p 0 (blCells bl) := fun m v hm => by
  have hlen := blCells_length bl h.all64
  have hb := h.len
  have hm1 : m < 8320 := by have := (List.getElem?_eq_some_iff.1 hm).1; omega
  have e : m / 64 * 64 + m % 64 = m := by omega
  have hg := blCells_get bl (m / 64) (m % 64) h.all64 (by omega) (by omega)
  rw [e, hm] at hg
  have := h.rng (m / 64) (by omega) (m % 64) v hg.symm
  rw [Nat.zero_add, ← this, e]
theorem blCells_part (bl : List (List Nat)) (hw : ∀ x, x ∈ bl → x.length = 64) (k : Nat) (hk : k < bl.length) : (blCells bl).toArray.extract (k * 64) (k * 64 + 64) = (bcells bl[k]!).toArray := by
  have hlen := blCells_length bl hw
  have hb : (bcells bl[k]!).length = 64 := by rw [bcells_length]; exact hw _ (mem_at hk)
  apply Array.ext_getElem?
  intro j
  by_cases hj : j < 64
  · rw [Array.getElem?_extract, if_pos (by simp only [List.size_toArray, hlen]; omega), List.getElem?_toArray, List.getElem?_toArray, blCells_get bl k j hw hk hj]
  · rw [Array.getElem?_eq_none (by simp only [Array.size_extract, List.size_toArray, hlen]; omega), Array.getElem?_eq_none (by simp only [List.size_toArray, hb]; omega)]

set_option maxRecDepth 100000 in
theorem run_index_contents (u : World) (cs : List Value) (k : Nat) (hk : k < 130) : (Instr.index 122 (.agg cs.toArray) (.int .i64 k)).run Try.prog u = .ok (.agg (cs.toArray.extract (k * 64) (k * 64 + 64))) u := by
  have h1 : (isAgg 121).run Try.prog u = .ok true u := by
    unfold isAgg
    rw [Sem.run_bind, run_underlying Try.underlying121]
    rfl
  have h2 : (sizeOf 121).run Try.prog u = .ok 64 u := by
    have := size_content
    cases hq : Try.prog.info? 121 with
    | none => simp [hq] at this
    | some i => simp [hq] at this; simp [sizeOf, typeInfo, hq, this]
  have h3 : 0 ≤ (k : Int) ∧ (k : Int) < (130 : Nat) := by omega
  simp only [Instr.index, asIntOf, Sem.run_bind, Sem.run_pure, Result.andThen_ok, run_underlying Try.underlying122, if_pos h3, h2, part, h1, if_true, Int.toNat_natCast]

theorem wpList_index_contents {ops : Array Oper} {rest : List Oper} {op : Oper} {a : Act} {w : World} {Q : Exit → Act → World → Prop} (hgd : op.guard = none) (x y : Operand) (ho : op.op = .index 122 x y) (bl : List (List Nat)) (k : Nat) (hx : a.eval x = .agg (blCells bl).toArray) (hy : a.eval y = .int .i64 k) (hk : k < 130) (hbl : bl.length = 130) (hw : ∀ x, x ∈ bl → x.length = 64)
    (h : wpList Try.prog ops Q rest (a.put op.dst (.agg (bcells bl[k]!).toArray)) w) : wpList Try.prog ops Q (op :: rest) a w :=
  wpList_plain hgd fun K hK => by
    unfold Oper.wp execOp
    simp only [ho, hx, hy, Sem.run_bind, run_index_contents w _ k hk, Result.andThen_ok]
    rw [blCells_part bl hw k (by omega)]
    exact hK _ _ h

set_option maxRecDepth 100000 in
theorem run_slice_content (u : World) (b o : Nat) : (Instr.sliceAt 121 (.pointer (some ⟨b, o, none⟩)) none none none).run Try.prog u = .ok (.slice (some ⟨b, o, none⟩) 64 64) u := by
  simp [Instr.sliceAt, run_underlying Try.underlying121, Instr.sureAddr, Instr.sliceBounds, go_sem, Addr.add]

/-- where the disk's blocks stand -/
structure DkB (w wr : World) (N V : Nat) (s : Value) (bl : List (List Nat)) (k : Nat) (f : Nat → Value) (bs cs : Nat → Nat) : Prop where
  row : wr.rowIs N 28 130 f
  fs : ∀ i, i < k → f i = .slice (some ⟨bs i, 0, none⟩) 64 (cs i) ∧ BRow wr (bs i) (cs i) bl[i]! ∧ V < bs i ∧ ∀ j, j < i → bs j < bs i
  v0 : wr.cell? ⟨V, 0, none⟩ = some (.slice (some ⟨N, 0, none⟩) 130 130)
  v1 : wr.cell? ⟨V, 1, none⟩ = some s
  vf : ∀ o, wr.frozen? ⟨V, o, none⟩ = false
  bel : Below w.heap.size w wr
  lo : w.heap.size ≤ N
  nv : N < V
theorem DkB.grow {w wr w' : World} {N V : Nat} {s : Value} {bl : List (List Nat)} {k : Nat} {f : Nat → Value} {bs cs : Nat → Nat} (h : DkB w wr N V s bl k f bs cs) (hb : Below wr.heap.size wr w') : DkB w w' N V s bl k f bs cs :=
  ⟨h.row.of_block (hb.block _ h.row.lt), fun i hi => let ⟨h1, h2, h3⟩ := h.fs i hi; ⟨h1, h2.of_block (hb.block _ h2.lt), h3⟩, cell_later hb h.v0, cell_later hb h.v1, fun o => (hb.frozen (p := ⟨V, o, none⟩) (World.block_lt_of_cell? wr ⟨V, 0, none⟩ h.v0)).trans (h.vf o), gca h.bel hb, h.lo, h.nv⟩
theorem DkB.step {w wr : World} {N V : Nat} {s : Value} {bl : List (List Nat)} {k : Nat} {f : Nat → Value} {bs cs : Nat → Nat} (h : DkB w wr N V s bl k f bs cs) {G cap : Nat} (hG : BRow wr G cap bl[k]!) (hV : V < G) (hbs : ∀ j, j < k → bs j < G) :
    DkB w (wr.setCell ⟨N, k, none⟩ (.slice (some ⟨G, 0, none⟩) 64 cap)) N V s bl (k + 1) (fun j => if j = k then .slice (some ⟨G, 0, none⟩) 64 cap else f j) (fun j => if j = k then G else bs j) (fun j => if j = k then cap else cs j) := by
  have hnv := h.nv
  have hlo := h.lo
  refine ⟨h.row.set _ _, fun i hi => ?_, (World.cell?_setCell_other _ _ _ _ (by simp <;> omega)).trans h.v0, (World.cell?_setCell_other _ _ _ _ (by simp <;> omega)).trans h.v1, fun o => by rw [World.frozen?_setCell]; exact h.vf o, gse h.bel hlo _, hlo, hnv⟩
  by_cases e : i = k
  · subst e
    simp only [if_true]
    refine ⟨trivial, hG.of_block (Deep.blk_setCell_other _ _ _ _ (by simp; omega)), hV, fun j hj => ?_⟩
    rw [if_neg (by omega)]; exact hbs j hj
  · obtain ⟨h1, h2, h3, h4⟩ := h.fs i (by omega)
    simp only [if_neg e]
    refine ⟨h1, h2.of_block (Deep.blk_setCell_other _ _ _ _ (by simp; omega)), h3, fun j hj => ?_⟩
    rw [if_neg (by omega)]; exact h4 j hj

end Go.Proofs.Ythjddpkegooobab
