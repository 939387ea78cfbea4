/-
  DRVA: long arrays, and a drive in memory. Own work.
-/
import Derived.Test.YthjddpkegooobabDSem
import Derived.Test.YthjddpkegooobabDMarkS
import Derived.Deep.MidRow
import Derived.Deep.WholeRow
namespace Go.Proofs.Ythjddpkegooobab
open Go.RowKit

section
variable {P : Program}
/-- a variable of many cells is made -/
theorem wpList_alloc_big {ops : Array Oper} {rest : List Oper} {op : Oper} {a : Act} {w : World} {Q : Exit → Act → World → Prop} (hgd : op.guard = none) (ty : TypeId) (ho : op.op = .alloc ty) (Z : Array Value) (hz : ∀ u, (zeroValue ty).run P u = .ok (.agg Z) u)
    (h : wpList P ops Q rest (a.put op.dst (.pointer (some ⟨w.heap.size, 0, none⟩))) (w.alloc (.cells Z ty))) : wpList P ops Q (op :: rest) a w :=
  wpList_plain hgd fun K hK => by
    unfold Oper.wp execOp
    simp only [ho, Instr.alloc, Sem.run_bind, hz, Result.andThen_ok]
    exact hK _ _ h
/-- a whole value goes into the variable that was made last -/
theorem wpList_store_new {ops : Array Oper} {rest : List Oper} {op : Oper} {a : Act} {w : World} {Q : Exit → Act → World → Prop} (hgd : op.guard = none) (ty : TypeId) (x y : Operand) (ho : op.op = .store ty x y)
    (Z C : Array Value) (hx : a.eval x = .pointer (some ⟨w.heap.size, 0, none⟩)) (hy : a.eval y = .agg C) (hi : (P.info? ty).map (·.size) = some C.size) (hs : Z.size = C.size) (h1 : C.all (·.oneCell') = true)
    (h : wpList P ops Q rest (a.put op.dst undef) (w.alloc (.cells C ty))) : wpList P ops Q (op :: rest) a (w.alloc (.cells Z ty)) :=
  wpList_plain hgd fun K hK => by
    unfold Oper.wp execOp
    simp only [ho, hx, hy, Sem.run_bind, run_storeAt_new (P := P) w ty Z C hi hs h1, Result.andThen_ok]
    exact hK _ _ h
end

set_option maxRecDepth 100000 in
theorem size_content : (Try.prog.info? 121).map (·.size) = some 64 := by kernel_rfl
set_option maxRecDepth 100000 in
theorem size_contents : (Try.prog.info? 122).map (·.size) = some 8320 := by kernel_rfl
set_option maxRecDepth 100000 in
theorem size_pending : (Try.prog.info? 184).map (·.size) = some 65 := by kernel_rfl
set_option maxRecDepth 100000 in
theorem size_drive : (Try.prog.info? 126).map (·.size) = some 8322 := by kernel_rfl

/-- zeros -/
def zeros (n : Nat) : List Value := List.replicate n (.int .u8 0)
set_option maxRecDepth 100000 in
theorem zero_content : (Try.prog.info? 121).map (fun i => (i.zero, i.size)) = some (some (.agg (zeros 64).toArray), 64) := by kernel_rfl
set_option maxRecDepth 100000 in
theorem zero_pending : (Try.prog.info? 184).map (fun i => (i.zero, i.size)) = some (some (.agg (.int .i64 0 :: zeros 64).toArray), 65) := by kernel_rfl
set_option maxRecDepth 100000 in
theorem info_pending : (Try.prog.info? 184).map (fun i => (i.zero, i.size, i.bytes)) = some (some (.agg (.int .i64 0 :: zeros 64).toArray), 65, 72) := by kernel_rfl
set_option maxRecDepth 100000 in
theorem zero_drive : (Try.prog.info? 126).map (fun i => (i.zero, i.size)) = some (some (.agg (zeros 8320 ++ [Value.slice none 0 0, Value.nilFunc]).toArray), 8322) := by kernel_rfl

theorem cells_u8 {bs : List Nat} : ∀ v, v ∈ bcells bs → v.oneCell' = true := fun v hv => by obtain ⟨x, _, rfl⟩ := List.mem_map.1 hv; rfl
theorem bytes_range {w : World} {b off : Nat} {bs : List Nat} (h : w.rangeAt b off (bcells bs)) : BytesAt w (some ⟨b, off, none⟩) bs := fun i hi => ⟨b, off, rfl, h i _ (bcells_get hi)⟩
theorem range_bytes {w : World} {b off : Nat} {bs : List Nat} (h : BytesAt w (some ⟨b, off, none⟩) bs) : w.rangeAt b off (bcells bs) := fun j v hj => by
  have hjl : j < bs.length := by have := (List.getElem?_eq_some_iff.1 hj).1; rwa [bcells_length] at this
  obtain ⟨b', off', e, hc⟩ := h j hjl
  have e' : b' = b ∧ off' = off := by
    have := Option.some.inj e
    exact ⟨(congrArg Addr.block this).symm, (congrArg Addr.off this).symm⟩
  obtain ⟨rfl, rfl⟩ := e'
  rw [hc, ← bcells_get hjl, hj]
theorem range_same {w w' : World} {b o : Nat} {cs : List Value} (h : w.rangeAt b o cs) (e : w'.heap[b]? = w.heap[b]?) : w'.rangeAt b o cs := fun j v hj => (World.cell?_of_block (w := w) e).trans (h j v hj)
theorem there_same {w w' : World} {b o n : Nat} (h : w.there b o n) (e : w'.heap[b]? = w.heap[b]?) : w'.there b o n := fun j hj => ⟨by rw [World.cell?_of_block (w := w) e]; exact (h j hj).1, (World.frozen?_of_block (w := w) e).trans (h j hj).2⟩
theorem range_new (w : World) (cs : List Value) (t : TypeId) : (w.alloc (.cells cs.toArray t)).rangeAt w.heap.size 0 cs := fun j v hj => by
  rw [cell_of_row _ _ _ _ _ _ (heap_alloc_last w (.cells cs.toArray t)), Nat.zero_add]
  simpa using hj
theorem there_new (w : World) (cs : List Value) (t : TypeId) : (w.alloc (.cells cs.toArray t)).there w.heap.size 0 cs.length := fun j hj => by
  refine ⟨?_, ?_⟩
  · rw [cell_of_row _ _ _ _ _ _ (heap_alloc_last w (.cells cs.toArray t)), Nat.zero_add]
    simp [hj]
  · simp
theorem range_drop {w : World} {b o : Nat} {cs ds : List Value} (h : w.rangeAt b o (cs ++ ds)) : w.rangeAt b (o + cs.length) ds := fun j v hj => by
  have := h (cs.length + j) v (by rw [List.getElem?_append_right (by omega)]; simpa using hj)
  rwa [← Nat.add_assoc] at this
theorem range_take {w : World} {b o : Nat} {cs ds : List Value} (h : w.rangeAt b o (cs ++ ds)) : w.rangeAt b o cs := fun j v hj => h j v (by rw [List.getElem?_append_left ((List.getElem?_eq_some_iff.1 hj).1)]; exact hj)
theorem there_part {w : World} {b o n o' n' : Nat} (h : w.there b o n) (h1 : o ≤ o') (h2 : o' + n' ≤ o + n) : w.there b o' n' := fun j hj => by
  have := h (o' - o + j) (by omega)
  rwa [show o + (o' - o + j) = o' + j by omega] at this
theorem Kept.setCells {p : Nat → Prop} {b : Nat} : ∀ (vs : List Value) (o : Nat) {w w' : World}, Kept p w w' → (b < w.heap.size → p b) → Kept p w (w'.setCells b o vs)
  | [], _, _, _, h, _ => h
  | v :: r, o, _w, _w', h, hb => Kept.setCells r (o + 1) (h.set (a := ⟨b, o, none⟩) hb v) hb

/-- a drive in memory: its blocks, its writes' slice, its function -/
structure Drv (w : World) (p : Nat) (bl : List (List Nat)) (s k : Value) : Prop where
  lt : p < w.heap.size
  len : bl.length = 130
  bb : ∀ i, i < 130 → bl[i]!.length = 64
  rng : ∀ i, i < 130 → w.rangeAt p (i * 64) (bcells bl[i]!)
  th : w.there p 0 8322
  ws : w.cell? ⟨p, 8320, none⟩ = some s
  kf : w.cell? ⟨p, 8321, none⟩ = some k
theorem Drv.same {w w' : World} {p : Nat} {bl : List (List Nat)} {s k : Value} (h : Drv w p bl s k) (e : w'.heap[p]? = w.heap[p]?) (hl : p < w'.heap.size) : Drv w' p bl s k :=
  ⟨hl, h.len, h.bb, fun i hi => range_same (h.rng i hi) e, there_same h.th e, (World.cell?_of_block (w := w) e).trans h.ws, (World.cell?_of_block (w := w) e).trans h.kf⟩
theorem Drv.kept {q : Nat → Prop} {w w' : World} {p : Nat} {bl : List (List Nat)} {s k : Value} (h : Drv w p bl s k) (K : Kept q w w') (hn : ¬ q p) : Drv w' p bl s k := h.same (K.block p h.lt hn) (Nat.lt_of_lt_of_le h.lt K.size)
theorem Drv.grow {w w' : World} {p : Nat} {bl : List (List Nat)} {s k : Value} (h : Drv w p bl s k) (hb : Below w.heap.size w w') : Drv w' p bl s k := h.same (hb.block p h.lt) (Nat.lt_of_lt_of_le h.lt hb.size)
theorem Drv.frozen {w : World} {p : Nat} {bl : List (List Nat)} {s k : Value} (h : Drv w p bl s k) {o : Nat} (ho : o < 8322) : w.frozen? ⟨p, o, none⟩ = false := by
  have := (h.th o ho).2
  rwa [Nat.zero_add] at this
/-- a block is written -/
theorem Drv.setB {w : World} {p : Nat} {bl : List (List Nat)} {s k : Value} (h : Drv w p bl s k) {x : DW} (h0 : 0 ≤ x.block) (h1 : x.block < 130) (hl : x.bytes.length = 64) : Drv (w.setCells p (x.block.toNat * 64) (bcells x.bytes)) p (setB bl x) s k := by
  have hi0 : x.block.toNat < 130 := by omega
  have hth := there_part h.th (Nat.zero_le (x.block.toNat * 64)) (n' := 64) (by omega)
  have hlen : (bcells x.bytes).length = 64 := by rw [bcells_length, hl]
  have hout : ∀ o, x.block.toNat * 64 + 64 ≤ o → (w.setCells p (x.block.toNat * 64) (bcells x.bytes)).cell? ⟨p, o, none⟩ = w.cell? ⟨p, o, none⟩ := fun o ho =>
    World.cell?_setCells_out p _ _ w ⟨p, o, none⟩ (fun _ _ => Or.inr (by rw [hlen]; exact ho))
  refine ⟨by have := (Kept.setCells (bcells x.bytes) (x.block.toNat * 64) (Kept.refl (fun b => b = p) w) (fun _ => rfl)).size; have := h.lt; omega, by rw [setB_length]; exact h.len, fun i hi => ?_, fun i hi => ?_, World.there_setCells h.th _ _ _, (hout _ (by omega)).trans h.ws, (hout _ (by omega)).trans h.kf⟩
  · rw [setB_get (by rw [h.len]; exact hi)]
    split
    · exact hl
    · exact h.bb i hi
  · rw [setB_get (by rw [h.len]; exact hi)]
    split
    · rename_i e; subst e
      exact World.rangeAt_setCells_same _ _ _ _ (by rw [hlen]; exact hth)
    · rename_i e
      refine World.rangeAt_setCells_apart (h.rng i hi) _ _ _ (Or.inr ?_)
      rw [bcells_length, h.bb i hi, hlen]
      omega
/-- its writes' slice is written -/
theorem Drv.setW {w : World} {p : Nat} {bl : List (List Nat)} {s k : Value} (h : Drv w p bl s k) (s' : Value) : Drv (w.setCell ⟨p, 8320, none⟩ s') p bl s' k := by
  refine ⟨by have := h.lt; simpa [World.setCell] using this, h.len, h.bb, fun i hi => ?_, ?_, World.cell?_setCell_same _ _ _ h.ws, (World.cell?_setCell_other _ _ _ _ (by simp)).trans h.kf⟩
  · exact World.rangeAt_setCells_apart (h.rng i hi) p 8320 [s'] (Or.inr (Or.inl (by rw [bcells_length, h.bb i hi]; omega)))
  · exact World.there_setCells h.th p 8320 [s']
theorem Drv.setK {w : World} {p : Nat} {bl : List (List Nat)} {s k : Value} (h : Drv w p bl s k) (k' : Value) : Drv (w.setCell ⟨p, 8321, none⟩ k') p bl s k' := by
  refine ⟨by have := h.lt; simpa [World.setCell] using this, h.len, h.bb, fun i hi => ?_, ?_, (World.cell?_setCell_other _ _ _ _ (by simp)).trans h.ws, World.cell?_setCell_same _ _ _ h.kf⟩
  · exact World.rangeAt_setCells_apart (h.rng i hi) p 8321 [k'] (Or.inr (Or.inl (by rw [bcells_length, h.bb i hi]; omega)))
  · exact World.there_setCells h.th p 8321 [k']

/-- a waiting write, as the drive has it -/
def DW.pc (x : DW) : List Value := .int .i64 x.block :: bcells x.bytes
def pCells (ws : List DW) : List Value := ws.flatMap DW.pc
theorem pCells_snoc (ws : List DW) (x : DW) : pCells (ws ++ [x]) = pCells ws ++ x.pc := by simp [pCells]
theorem pc_length {x : DW} (h : x.bytes.length = 64) : x.pc.length = 65 := by simp [DW.pc, bcells_length, h]
theorem pc_one {x : DW} : ∀ v, v ∈ x.pc → v.oneCell' = true := fun v hv => by
  rcases List.mem_cons.1 hv with e | e
  · subst e; rfl
  · exact cells_u8 v e
theorem pCells_get : ∀ (ws : List DW) (i j : Nat), (∀ x, x ∈ ws → x.bytes.length = 64) → i < ws.length → j < 65 → (pCells ws)[i * 65 + j]? = (ws[i]!.pc)[j]?
  | [], _, _, _, hi, _ => absurd hi (Nat.not_lt_zero _)
  | x :: r, 0, j, hw, _, hj => by
    have := pc_length (hw x (List.mem_cons_self ..))
    rw [pCells, List.flatMap_cons, Nat.zero_mul, Nat.zero_add, List.getElem?_append_left (by omega)]
    rfl
  | x :: r, i + 1, j, hw, hi, hj => by
    have hx := pc_length (hw x (List.mem_cons_self ..))
    have hlt : i < r.length := by simpa using hi
    have ih := pCells_get r i j (fun y hy => hw y (List.mem_cons_of_mem _ hy)) hlt hj
    rw [pCells, List.flatMap_cons, List.getElem?_append_right (by rw [hx, Nat.add_mul]; omega), hx, show (i + 1) * 65 + j - 65 = i * 65 + j by rw [Nat.add_mul]; omega]
    rw [pCells] at ih
    rw [ih, getElem!_pos r i hlt, getElem!_pos (x :: r) (i + 1) hi]
    rfl
theorem owns_pend {w : World} {base t n cap : Nat} {a : Option Addr} {ws : List DW} (ho : w.ownsRow base t 65 (.slice a n cap) n (pCells ws)) (hw : ∀ x, x ∈ ws → x.bytes.length = 64) {k : Nat} (hk : k < ws.length) : ∃ g, a = some ⟨g, 0, none⟩ ∧ base ≤ g ∧ g < w.heap.size ∧ w.rangeAt g (k * 65) (ws[k]!.pc) := by
  have hpl : (ws[k]!.pc).length = 65 := pc_length (hw _ (mem_at hk))
  have h0 : (pCells ws)[k * 65 + 0]? = some (.int .i64 ws[k]!.block) := (pCells_get ws k 0 hw hk (by omega)).trans rfl
  obtain ⟨g, ha, hb, hlt, _⟩ := owns_cell ho h0
  refine ⟨g, ha, hb, hlt, fun j v hj => ?_⟩
  have hj65 : j < 65 := by have := (List.getElem?_eq_some_iff.1 hj).1; omega
  obtain ⟨g', ha', _, _, hc⟩ := owns_cell ho ((pCells_get ws k j hw hk hj65).trans hj)
  rw [ha] at ha'
  obtain rfl := some_addr ha'
  exact hc

end Go.Proofs.Ythjddpkegooobab
