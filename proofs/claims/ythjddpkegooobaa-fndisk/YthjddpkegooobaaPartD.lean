import Derived.Test.YthjddpkegooobaaPartC

/-
  DRVE: what a drive's disk is made of. Own work.
-/
namespace Go.Proofs.Ythjddpkegooobaa
open Go.RowKit

/-- all blocks' cells -/
def blCells (bl : List (List Nat)) : List Value := bl.flatMap bcells
theorem blCells_get : ∀ (bl : List (List Nat)) (i j : Nat), (∀ x, x ∈ bl → x.length = 64) → i < bl.length → j < 64 → (blCells bl)[i * 64 + j]? = (bcells bl[i]!)[j]?
  | [], _, _, _, hi, _ => absurd hi (Nat.not_lt_zero _)
  | x :: r, 0, j, hw, _, hj => by
    have : (bcells x).length = 64 := by rw [bcells_length]; exact hw x (List.mem_cons_self ..)
    rw [blCells, List.flatMap_cons, Nat.zero_mul, Nat.zero_add, List.getElem?_append_left (by omega)]
    rfl
  | x :: r, i + 1, j, hw, hi, hj => by
    have hx : (bcells x).length = 64 := by rw [bcells_length]; exact hw x (List.mem_cons_self ..)
    have hlt : i < r.length := by simpa using hi
    have ih := blCells_get r i j (fun y hy => hw y (List.mem_cons_of_mem _ hy)) hlt hj
    rw [blCells, List.flatMap_cons, List.getElem?_append_right (by rw [hx, Nat.add_mul]; omega), hx, show (i + 1) * 64 + j - 64 = i * 64 + j by rw [Nat.add_mul]; omega]
    rw [blCells] at ih
    rw [ih, getElem!_pos r i hlt, getElem!_pos (x :: r) (i + 1) hi]
    rfl
theorem blCells_length : ∀ (bl : List (List Nat)), (∀ x, x ∈ bl → x.length = 64) → (blCells bl).length = bl.length * 64
  | [], _ => rfl
  | x :: r, hw => by
    have hx : (bcells x).length = 64 := by rw [bcells_length]; exact hw x (List.mem_cons_self ..)
    have ih := blCells_length r (fun y hy => hw y (List.mem_cons_of_mem _ hy))
    rw [blCells] at ih
    rw [blCells, List.flatMap_cons, List.length_append, hx, ih, List.length_cons]
    omega
theorem Drv.all64 {w : World} {p : Nat} {bl : List (List Nat)} {s k : Value} (h : Drv w p bl s k) : ∀ x, x ∈ bl → x.length = 64 := fun x hx => by
  obtain ⟨i, hi, e⟩ := List.getElem_of_mem hx
  have := h.bb i (by have := h.len; omega)
  rwa [getElem!_pos bl i hi, e] at this
theorem Drv.whole {w : World} {p : Nat} {bl : List (List Nat)} {s k : Value} (h : Drv w p bl s k) : w.rangeAt p 0 (blCells bl) := fun m v hm => by
  have hlen := blCells_length bl h.all64
  have hb := h.len
  have hm1 : m < 8320 := by have := (List.getElem?_eq_some_iff.1 hm).1; omega
  have e : m / 64 * 64 + m % 64 = m := by omega
  have hg := blCells_get bl (m / 64) (m % 64) h.all64 (by omega) (by omega)
  rw [e, hm] at hg
  have := h.rng (m / 64) (by omega) (m % 64) v hg.symm
  rw [Nat.zero_add, ← this, e]
theorem blCells_part (bl : List (List Nat)) (hw : ∀ x, x ∈ bl → x.length = 64) (k : Nat) (hk : k < bl.length) : (blCells bl).toArray.extract (k * 64) (k * 64 + 64) = (bcells bl[k]!).toArray := by
  have hlen := blCells_length bl hw
  have hb : (bcells bl[k]!).length = 64 := by rw [bcells_length]; exact hw _ (mem_at hk)
  apply Array.ext_getElem?
  intro j
  by_cases hj : j < 64
  · rw [Array.getElem?_extract, if_pos (by simp only [List.size_toArray, hlen]; omega), List.getElem?_toArray, List.getElem?_toArray, blCells_get bl k j hw hk hj]
  · rw [Array.getElem?_eq_none (by simp only [Array.size_extract, List.size_toArray, hlen]; omega), Array.getElem?_eq_none (by simp only [List.size_toArray, hb]; omega)]

set_option maxRecDepth 100000 in
theorem run_index_contents (u : World) (cs : List Value) (k : Nat) (hk : k < 130) : (Instr.index 112 (.agg cs.toArray) (.int .i64 k)).run Try.prog u = .ok (.agg (cs.toArray.extract (k * 64) (k * 64 + 64))) u := by
  have h1 : (isAgg 110).run Try.prog u = .ok true u := by
    unfold isAgg
    rw [Sem.run_bind, run_underlying Try.underlying110]
    rfl
  have h2 : (sizeOf 110).run Try.prog u = .ok 64 u := by
    have := size_content
    cases hq : Try.prog.info? 110 with
    | none => simp [hq] at this
    | some i => simp [hq] at this; simp [sizeOf, typeInfo, hq, this]
  have h3 : 0 ≤ (k : Int) ∧ (k : Int) < (130 : Nat) := by omega
  simp only [Instr.index, asIntOf, Sem.run_bind, Sem.run_pure, Result.andThen_ok, run_underlying Try.underlying112, if_pos h3, h2, part, h1, if_true, Int.toNat_natCast]

theorem wpList_index_contents {ops : Array Oper} {rest : List Oper} {op : Oper} {a : Act} {w : World} {Q : Exit → Act → World → Prop} (hgd : op.guard = none) (x y : Operand) (ho : op.op = .index 112 x y) (bl : List (List Nat)) (k : Nat) (hx : a.eval x = .agg (blCells bl).toArray) (hy : a.eval y = .int .i64 k) (hk : k < 130) (hbl : bl.length = 130) (hw : ∀ x, x ∈ bl → x.length = 64)
    (h : wpList Try.prog ops Q rest (a.put op.dst (.agg (bcells bl[k]!).toArray)) w) : wpList Try.prog ops Q (op :: rest) a w :=
  wpList_plain hgd fun K hK => by
    unfold Oper.wp execOp
    simp only [ho, hx, hy, Sem.run_bind, run_index_contents w _ k hk, Result.andThen_ok]
    rw [blCells_part bl hw k (by omega)]
    exact hK _ _ h

set_option maxRecDepth 100000 in
theorem run_slice_content (u : World) (b o : Nat) : (Instr.sliceAt 110 (.pointer (some ⟨b, o, none⟩)) none none none).run Try.prog u = .ok (.slice (some ⟨b, o, none⟩) 64 64) u := by
  simp [Instr.sliceAt, run_underlying Try.underlying110, Instr.sureAddr, Instr.sliceBounds, go_sem, Addr.add]

/-- where the disk's blocks stand -/
structure DkB (w wr : World) (N V : Nat) (s : Value) (bl : List (List Nat)) (k : Nat) (f : Nat → Value) (bs cs : Nat → Nat) : Prop where
  row : wr.rowIs N 22 130 f
  fs : ∀ i, i < k → f i = .slice (some ⟨bs i, 0, none⟩) 64 (cs i) ∧ BRow wr (bs i) (cs i) bl[i]! ∧ V < bs i ∧ ∀ j, j < i → bs j < bs i
  v0 : wr.cell? ⟨V, 0, none⟩ = some (.slice (some ⟨N, 0, none⟩) 130 130)
  v1 : wr.cell? ⟨V, 1, none⟩ = some s
  vf : ∀ o, wr.frozen? ⟨V, o, none⟩ = false
  bel : Below w.heap.size w wr
  lo : w.heap.size ≤ N
  nv : N < V
theorem DkB.grow {w wr w' : World} {N V : Nat} {s : Value} {bl : List (List Nat)} {k : Nat} {f : Nat → Value} {bs cs : Nat → Nat} (h : DkB w wr N V s bl k f bs cs) (hb : Below wr.heap.size wr w') : DkB w w' N V s bl k f bs cs :=
  ⟨h.row.of_block (hb.block _ h.row.lt), fun i hi => let ⟨h1, h2, h3⟩ := h.fs i hi; ⟨h1, h2.of_block (hb.block _ h2.lt), h3⟩, cell_later hb h.v0, cell_later hb h.v1, fun o => (hb.frozen (p := ⟨V, o, none⟩) (World.block_lt_of_cell? wr ⟨V, 0, none⟩ h.v0)).trans (h.vf o), gca h.bel hb, h.lo, h.nv⟩
theorem DkB.step {w wr : World} {N V : Nat} {s : Value} {bl : List (List Nat)} {k : Nat} {f : Nat → Value} {bs cs : Nat → Nat} (h : DkB w wr N V s bl k f bs cs) {G cap : Nat} (hG : BRow wr G cap bl[k]!) (hV : V < G) (hbs : ∀ j, j < k → bs j < G) :
    DkB w (wr.setCell ⟨N, k, none⟩ (.slice (some ⟨G, 0, none⟩) 64 cap)) N V s bl (k + 1) (fun j => if j = k then .slice (some ⟨G, 0, none⟩) 64 cap else f j) (fun j => if j = k then G else bs j) (fun j => if j = k then cap else cs j) := by
  have hnv := h.nv
  have hlo := h.lo
  refine ⟨h.row.set _ _, fun i hi => ?_, (World.cell?_setCell_other _ _ _ _ (by simp <;> omega)).trans h.v0, (World.cell?_setCell_other _ _ _ _ (by simp <;> omega)).trans h.v1, fun o => by rw [World.frozen?_setCell]; exact h.vf o, gse h.bel hlo _, hlo, hnv⟩
  by_cases e : i = k
  · subst e
    simp only [if_true]
    refine ⟨trivial, hG.of_block (Deep.blk_setCell_other _ _ _ _ (by simp; omega)), hV, fun j hj => ?_⟩
    rw [if_neg (by omega)]; exact hbs j hj
  · obtain ⟨h1, h2, h3, h4⟩ := h.fs i (by omega)
    simp only [if_neg e]
    refine ⟨h1, h2.of_block (Deep.blk_setCell_other _ _ _ _ (by simp; omega)), h3, fun j hj => ?_⟩
    rw [if_neg (by omega)]; exact h4 j hj

end Go.Proofs.Ythjddpkegooobaa

/-
  DRVG: where the disk's writes stand. Own work.
-/
namespace Go.Proofs.Ythjddpkegooobaa
open Go.RowKit

/-- a write, and where its bytes lie -/
structure LW where
  x : DW
  a : Option Addr
  cap : Nat
  deriving Inhabited
def LW.two (y : LW) : List Value := [.int .i64 y.x.block, .slice y.a y.x.bytes.length y.cap]
theorem LW.two_length (y : LW) : y.two.length = 2 := rfl
def wCells (l : List LW) : List Value := l.flatMap LW.two
theorem wCells_snoc (l : List LW) (y : LW) : wCells (l ++ [y]) = wCells l ++ [.int .i64 y.x.block, .slice y.a y.x.bytes.length y.cap] := by simp [wCells, LW.two]
theorem wCells_get : ∀ (l : List LW) (i j : Nat), i < l.length → j < 2 → (wCells l)[i * 2 + j]? = (l[i]!.two)[j]?
  | [], _, _, hi, _ => absurd hi (Nat.not_lt_zero _)
  | x :: r, 0, j, _, hj => by
    rw [wCells, List.flatMap_cons, Nat.zero_mul, Nat.zero_add, List.getElem?_append_left (by rw [LW.two_length]; exact hj)]
    rfl
  | x :: r, i + 1, j, hi, hj => by
    have hlt : i < r.length := by simpa using hi
    have ih := wCells_get r i j hlt hj
    rw [wCells, List.flatMap_cons, List.getElem?_append_right (by rw [LW.two_length, Nat.add_mul]; omega), LW.two_length, show (i + 1) * 2 + j - 2 = i * 2 + j by rw [Nat.add_mul]; omega]
    rw [wCells] at ih
    rw [ih, getElem!_pos r i hlt, getElem!_pos (x :: r) (i + 1) hi]
    rfl

theorem owns_isW {w : World} {base size n cap : Nat} {a : Option Addr} {xs : List Value} (h : w.ownsRow base 104 size (.slice a n cap) n xs) {z : Nat} (hz : (Value.slice a n cap).ownBlock = some z) : IsW w z ∧ base ≤ z := by
  have ha := owns_addr h hz
  rcases h.2 with ⟨e, _⟩ | ⟨g, cap', cur, hv, hb, hg, _⟩
  · simp at e
    rw [e.1] at ha
    cases ha
  · simp only [Value.slice.injEq] at hv
    rw [ha] at hv
    obtain rfl := some_addr hv.1
    exact ⟨⟨cur, hg⟩, hb⟩
theorem owns_row {w : World} {base t size n cap : Nat} {a : Option Addr} {xs : List Value} (h : w.ownsRow base t size (.slice a n cap) n xs) (hn : 0 < n) : ∃ g f, a = some ⟨g, 0, none⟩ ∧ base ≤ g ∧ g < w.heap.size ∧ w.rowIs g t (cap * size) f ∧ n ≤ cap ∧ ∀ i u, xs[i]? = some u → f i = u := by
  have hc0 := h
  rcases h.2 with ⟨_, e⟩ | ⟨g, cap', cur, hv, hb, hg, h1, h2, h3, h4⟩
  · omega
  · simp only [Value.slice.injEq] at hv
    obtain ⟨rfl, _, rfl⟩ := hv
    refine ⟨g, fun i => cur[i]!, rfl, hb, (Array.getElem?_eq_some_iff.1 hg).1, ⟨cur, hg, h3, fun i hi => ?_⟩, h1, fun i u hu => ?_⟩
    · show cur[i]? = some cur[i]!
      rw [getElem!_pos cur i (by omega)]; exact Array.getElem?_eq_getElem (by omega)
    · obtain ⟨g', ha', _, _, hc⟩ := owns_cell hc0 hu
      obtain rfl := some_addr ha'
      have hc' : cur[i]? = some u := by simpa [World.cell?, hg] using hc
      show cur[i]! = u
      have hlt := (Array.getElem?_eq_some_iff.1 hc').1
      rw [getElem!_pos cur i hlt]
      rw [Array.getElem?_eq_getElem hlt] at hc'
      exact Option.some.inj hc'

/-- where the disk's writes stand -/
structure DkW (w wr : World) (N V : Nat) (bl : List (List Nat)) (f : Nat → Value) (bs cs : Nat → Nat) (va : Option Addr) (vc : Nat) (lw : List LW) (gs : Nat → Nat) : Prop where
  dk : DkB w wr N V (.slice va lw.length vc) bl 130 f bs cs
  own : wr.ownsRow (V + 1) 104 2 (.slice va lw.length vc) lw.length (wCells lw)
  byt : ∀ i, i < lw.length → lw[i]!.a = some ⟨gs i, 0, none⟩ ∧ BRow wr (gs i) lw[i]!.cap lw[i]!.x.bytes ∧ V < gs i ∧ (∀ j, j < 130 → bs j < gs i) ∧ ∀ j, j < i → gs j < gs i
theorem DkW.grow {w wr w' : World} {N V : Nat} {bl : List (List Nat)} {f : Nat → Value} {bs cs : Nat → Nat} {va : Option Addr} {vc : Nat} {lw : List LW} {gs : Nat → Nat} (h : DkW w wr N V bl f bs cs va vc lw gs) (hb : Below wr.heap.size wr w') : DkW w w' N V bl f bs cs va vc lw gs :=
  ⟨h.dk.grow hb, (Kept.of_below hb (fun _ => False)).owns h.own (fun _ _ e => e), fun i hi => let ⟨h1, h2, h3⟩ := h.byt i hi; ⟨h1, h2.of_block (hb.block _ h2.lt), h3⟩⟩
theorem snoc_at {α : Type} [Inhabited α] (l : List α) (y : α) (i : Nat) (hi : i < (l ++ [y]).length) : (l ++ [y])[i]! = if i = l.length then y else l[i]! := by
  have hi' : i < l.length + 1 := by simpa using hi
  rw [getElem!_pos _ i hi]
  by_cases h : i = l.length
  · subst h; simp
  · rw [if_neg h, List.getElem_append_left (by omega), getElem!_pos l i (by omega)]
theorem DkW.step {w wr w5 : World} {N V : Nat} {bl : List (List Nat)} {f : Nat → Value} {bs cs : Nat → Nat} {va : Option Addr} {vc : Nat} {lw : List LW} {gs : Nat → Nat} (h : DkW w wr N V bl f bs cs va vc lw gs)
    {G gcap gg cc : Nat} {x : DW} (hG : BRow wr G gcap x.bytes) (hVG : V < G) (hbs : ∀ j, j < 130 → bs j < G) (hgs : ∀ j, j < lw.length → gs j < G)
    (hown : w5.ownsRow (V + 1) 104 2 (.slice (some ⟨gg, 0, none⟩) (lw.length + 1) cc) (lw.length + 1) (wCells lw ++ [.int .i64 x.block, .slice (some ⟨G, 0, none⟩) x.bytes.length gcap])) (hgrow : wr.grownBy w5 (Value.slice va lw.length vc).ownBlock) :
    DkW w (w5.setCell ⟨V, 1, none⟩ (.slice (some ⟨gg, 0, none⟩) (lw.length + 1) cc)) N V bl f bs cs (some ⟨gg, 0, none⟩) cc (lw ++ [⟨x, some ⟨G, 0, none⟩, gcap⟩]) (fun i => if i = lw.length then G else gs i) := by
  have K1 := Kept.of_grown hgrow
  have hz : ∀ z, (Value.slice va lw.length vc).ownBlock = some z → IsW wr z ∧ V + 1 ≤ z := fun z hz => owns_isW h.own hz
  have hnv := h.dk.nv
  have hlo := h.dk.lo
  have K2 := (Kept.refl (fun b => b = V) w5).set (a := ⟨V, 1, none⟩) (fun _ => rfl) (.slice (some ⟨gg, 0, none⟩) (lw.length + 1) cc)
  have hB : ∀ {G' n' : Nat} {ys : List Nat}, BRow wr G' n' ys → V < G' → BRow (w5.setCell ⟨V, 1, none⟩ (.slice (some ⟨gg, 0, none⟩) (lw.length + 1) cc)) G' n' ys := fun hb hv => (hb.kept K1 (fun e => not_B_of_W (hz _ e).1 hb.isB)).kept K2 (fun e => by omega)
  have hVz : ¬ (Value.slice va lw.length vc).ownBlock = some V := fun e => by have := (hz V e).2; omega
  have hNz : ¬ (Value.slice va lw.length vc).ownBlock = some N := fun e => by have := (hz N e).2; omega
  have c1 := K1.cell h.dk.v1 hVz
  refine ⟨⟨K2.rowIs (K1.rowIs h.dk.row hNz) (by omega), fun i hi => ?_, (World.cell?_setCell_other _ _ _ _ (by simp)).trans (K1.cell h.dk.v0 hVz), ?_, fun o => ?_, ?_, hlo, hnv⟩, ?_, fun i hi => ?_⟩
  · obtain ⟨h1, h2, h3, h4⟩ := h.dk.fs i hi
    exact ⟨h1, hB h2 h3, h3, h4⟩
  · rw [List.length_append]; exact World.cell?_setCell_same _ _ _ c1
  · rw [World.frozen?_setCell]
    exact (World.frozen?_of_block (w := wr) (a := ⟨V, o, none⟩) (K1.block V (World.block_lt_of_cell? wr ⟨V, 0, none⟩ h.dk.v0) hVz)).trans (h.dk.vf o)
  · exact (h.dk.bel.trans (K1.below (Nat.le_trans h.dk.bel.size (Nat.le_refl _)) (fun k hk e => by have := (hz k e).2; omega))).trans (K2.below (by have := h.dk.bel.size; have := K1.size; omega) (fun k hk e => by omega))
  · rw [wCells_snoc, List.length_append]
    exact K2.owns hown (fun z hz2 e => by have := (hown.lt z hz2).1; omega)
  · rw [List.length_append] at hi
    rw [snoc_at _ _ _ (by rw [List.length_append]; exact hi)]
    by_cases e : i = lw.length
    · subst e
      simp only [if_true]
      refine ⟨trivial, hB hG hVG, hVG, hbs, fun j hj => ?_⟩
      rw [if_neg (by omega)]; exact hgs j hj
    · simp only [if_neg e]
      obtain ⟨h1, h2, h3, h4, h5⟩ := h.byt i (by simp at hi; omega)
      refine ⟨h1, hB h2 h3, h3, h4, fun j hj => ?_⟩
      rw [if_neg (by simp at hi; omega)]; exact h5 j hj

/-- the disk is done -/
theorem DkW.md {w wr : World} {N V : Nat} {bl : List (List Nat)} {f : Nat → Value} {bs cs : Nat → Nat} {va : Option Addr} {vc : Nat} {lw : List LW} {gs : Nat → Nat} (h : DkW w wr N V bl f bs cs va vc lw gs) (hlen : bl.length = 130) (h64 : ∀ x, x ∈ bl → x.length = 64) :
    MD wr w.heap.size wr.heap.size ⟨some ⟨N, 0, none⟩, 130, va, vc⟩ ⟨bl, lw.map (·.x)⟩ (fun i => some ⟨bs i, 0, none⟩) (fun i => lw[i]!.a) cs (fun i => lw[i]!.cap) := by
  have hnv := h.dk.nv
  have hlo := h.dk.lo
  have hmap : ∀ i, i < lw.length → (lw.map (·.x))[i]! = lw[i]!.x := fun i hi => by
    rw [getElem!_pos _ i (by simpa using hi), getElem!_pos lw i hi]; simp
  refine ⟨⟨fun _ => ⟨N, 130, f, rfl, hlo, h.dk.row.lt, h.dk.row, by show bl.length ≤ 130; omega, fun i hi => ?_⟩, fun i hi => ?_, fun i j hij hj => ?_⟩, ⟨fun hn => ?_, fun i hi => ?_, fun i j hij hj => ?_⟩, fun i j hi hj => ?_⟩
  · have hi' : i < bl.length := hi
    rw [(h.dk.fs i (by omega)).1, h64 _ (mem_at hi')]
  · have hi' : i < bl.length := hi
    obtain ⟨_, h2, h3, _⟩ := h.dk.fs i (by omega)
    exact Or.inr ⟨bs i, cs i, rfl, by omega, h2.lt, h2⟩
  · intro b e1 e2
    have hj' : j < bl.length := hj
    have := (h.dk.fs j (by omega)).2.2.2 i hij
    have := some_addr e1
    have := some_addr e2
    omega
  · have hn' : 0 < lw.length := by simpa using hn
    obtain ⟨g, f', h1, h2, h3, h4, h5, h6⟩ := owns_row h.own hn'
    refine ⟨g, vc * 2, f', h1, by omega, h3, h4, by simp; omega, fun i hi => ?_⟩
    have hi' : i < lw.length := by simpa using hi
    simp only [hmap i hi']
    exact ⟨h6 _ _ ((wCells_get lw i 0 hi' (by omega)).trans rfl), h6 _ _ ((wCells_get lw i 1 hi' (by omega)).trans rfl)⟩
  · have hi' : i < lw.length := by simpa using hi
    simp only [hmap i hi']
    obtain ⟨h1, h2, h3, _⟩ := h.byt i hi'
    exact Or.inr ⟨gs i, _, h1, by omega, h2.lt, h2⟩
  · have hj' : j < lw.length := by simpa using hj
    intro b e1 e2
    rw [(h.byt i (by omega)).1] at e1
    rw [(h.byt j hj').1] at e2
    have := (h.byt j hj').2.2.2.2 i hij
    have := some_addr e1
    have := some_addr e2
    omega
  · have hi' : i < bl.length := hi
    have hj' : j < lw.length := by simpa using hj
    intro b e1 e2
    rw [(h.byt j hj').1] at e2
    have := (h.byt j hj').2.2.2.1 i (by omega)
    have := some_addr e1
    have := some_addr e2
    omega

/-- the round of the writes -/
def GWInv (w wr : World) (N V : Nat) (bl : List (List Nat)) (f : Nat → Value) (bs cs : Nat → Nat) (ws : List DW) (k : Nat) : Prop :=
  ∃ (va : Option Addr) (vc : Nat) (lw : List LW) (gs : Nat → Nat), Hid (lw.length = k) ∧ Hid (lw.map (·.x) = ws.take k) ∧ DkW w wr N V bl f bs cs va vc lw gs

theorem MBs.mono {w : World} {lo hi lo' hi' : Nat} {a : Option Addr} {n : Nat} {F : Nat → List Nat} {fa : Nat → Option Addr} {fc : Nat → Nat} (h : MBs w lo hi a n F fa fc) (h1 : lo' ≤ lo) (h2 : hi ≤ hi') : MBs w lo' hi' a n F fa fc :=
  ⟨fun h0 => let ⟨g, m, f, a1, a2, a3, a4⟩ := h.row h0; ⟨g, m, f, a1, by omega, by omega, a4⟩, fun i hi => (h.byt i hi).mono h1 h2, h.far⟩
theorem MWs.mono {w : World} {lo hi lo' hi' : Nat} {a : Option Addr} {n : Nat} {B : Nat → Int} {F : Nat → List Nat} {fa : Nat → Option Addr} {fc : Nat → Nat} (h : MWs w lo hi a n B F fa fc) (h1 : lo' ≤ lo) (h2 : hi ≤ hi') : MWs w lo' hi' a n B F fa fc :=
  ⟨fun h0 => let ⟨g, m, f, a1, a2, a3, a4⟩ := h.row h0; ⟨g, m, f, a1, by omega, by omega, a4⟩, fun i hi => (h.byt i hi).mono h1 h2, h.far⟩
theorem MD.mono {w : World} {lo hi lo' hi' : Nat} {l : DL} {d : DD} {fa ga : Nat → Option Addr} {fc gc : Nat → Nat} (h : MD w lo hi l d fa ga fc gc) (h1 : lo' ≤ lo) (h2 : hi ≤ hi') : MD w lo' hi' l d fa ga fc gc := ⟨h.b.mono h1 h2, h.w.mono h1 h2, h.far⟩

end Go.Proofs.Ythjddpkegooobaa

/-
  SCOPY: the specification's copy of bytes. Own work.
-/
namespace Go.Proofs.Ythjddpkegooobaa
open Go.RowKit

theorem owns_bytes {w : World} {base t cap : Nat} {a : Option Addr} {bs : List Nat} (h : w.ownsRow base t 1 (.slice a bs.length cap) bs.length (bcells bs)) : BytesAt w a bs := fun i hi => by
  obtain ⟨g, ha, _, _, hc⟩ := owns_cell h (bcells_get hi)
  exact ⟨g, 0, ha, by rw [Nat.zero_add]; exact hc⟩
theorem owns_isB {w : World} {base size n cap : Nat} {a : Option Addr} {xs : List Value} (h : w.ownsRow base 5 size (.slice a n cap) n xs) {z : Nat} (hz : (Value.slice a n cap).ownBlock = some z) : IsB w z ∧ base ≤ z := by
  have ha := owns_addr h hz
  rcases h.2 with ⟨e, _⟩ | ⟨g, cap', cur, hv, hb, hg, _⟩
  · simp at e
    rw [e.1] at ha
    cases ha
  · simp only [Value.slice.injEq] at hv
    rw [ha] at hv
    obtain rfl := some_addr hv.1
    exact ⟨⟨cur, hg⟩, hb⟩
/-- a block of lists of bytes -/
def IsS (w : World) (b : Nat) : Prop := ∃ c, w.heap[b]? = some (.cells c 22 (0, 0))
theorem owns_isS {w : World} {base size n cap : Nat} {a : Option Addr} {xs : List Value} (h : w.ownsRow base 22 size (.slice a n cap) n xs) {z : Nat} (hz : (Value.slice a n cap).ownBlock = some z) : IsS w z ∧ base ≤ z := by
  have ha := owns_addr h hz
  rcases h.2 with ⟨e, _⟩ | ⟨g, cap', cur, hv, hb, hg, _⟩
  · simp at e
    rw [e.1] at ha
    cases ha
  · simp only [Value.slice.injEq] at hv
    rw [ha] at hv
    obtain rfl := some_addr hv.1
    exact ⟨⟨cur, hg⟩, hb⟩
theorem not_B_of_S {w : World} {b : Nat} (h : IsS w b) : ¬ IsB w b := fun ⟨c, hc⟩ => by
  obtain ⟨c', hc'⟩ := h
  rw [hc] at hc'
  simp at hc'
theorem not_W_of_S {w : World} {b : Nat} (h : IsS w b) : ¬ IsW w b := fun ⟨c, hc⟩ => by
  obtain ⟨c', hc'⟩ := h
  rw [hc] at hc'
  simp at hc'

set_option maxRecDepth 100000 in
theorem l2copy_any (a : Option Addr) (bs : List Nat) (cap : Nat) (w : World) (hl : bs.length ≤ 1048576) (ha : BytesAt w a bs) :
    Calls Try.prog 85 #[.slice a bs.length cap] w fun e w' => ∃ oa c, e = .returned (.slice oa bs.length c) ∧ w'.ownsRow w.heap.size 5 1 (.slice oa bs.length c) bs.length (bcells bs) ∧ Below w.heap.size w w' := by
  obtain ⟨i0, hi, hz0, hz1, hz2⟩ := info_parts info_u8
  go_enter Try.func85, Try.ntmps85
  go_wp2
  go_loopw [3, 8] (fun o i wr => ∃ (k : Nat) (oa : Option Addr) (c : Nat), k ≤ bs.length ∧ i = .int .i64 k ∧ o = .slice oa k c ∧ wr.ownsRow w.heap.size 5 1 (.slice oa k c) k (bcells (bs.take k)) ∧ Below w.heap.size w wr) (fun _ i _ => bs.length - (intOf i).toNat)
  case atStart => exact ⟨0, none, 0, Nat.zero_le _, rfl, rfl, owns_none _ _ _ _, gre _⟩
  case round =>
    obtain ⟨k, oa, c, hk, rfl, rfl, hO, hb⟩ := hrel
    by_cases hlt : k < bs.length
    · obtain ⟨x, b, off, hxk, hxm, rfl, hc⟩ := (ha.grow hb).get hlt
      have hsz := hb.size
      go_wp2_with (at_builtin; refine wpList_append_lies _ rfl (.tmp 12) (.tmp 14) 22 rfl w.heap.size 5 i0 (.int .u8 0) 1 1 Try.underlying22 hi hz0 hz1 hz2 rfl (by decide) _ _ _ rfl (hO.alloc _) ⟨wr.heap.size, 0, none⟩ 1 1 [.int .u8 (x : Int)] rfl rfl (World.news_of_block (cs := #[.int .u8 (x : Int)]) (t := 5) (fr := (0, 0)) (blk_new_at _ _ _ (by simp))) (by simp [Value.oneCell']) (by decide) (by unfold maxLen; omega) (by omega) (by simp; omega) (wr.heap.size + 1) (by simp) ?_; intro g cap2 w1 hown1 hgrow hat hlt2)
      have hK := (Kept.of_grown hgrow).below (B := w.heap.size) (by simp; omega) (fun z hz e => by have := (hO.lt z e).1; omega)
      have e1 : bcells (bs.take (k + 1)) = bcells (bs.take k) ++ [.int .u8 (x : Int)] := by rw [take_snoc _ _ hlt, bcells_snoc, hxk.out]
      go_roundw
      case rel => exact ⟨k + 1, some ⟨g, 0, none⟩, cap2, by omega, by go_num, rfl, by rw [e1]; exact hown1, (gal hb _).trans hK⟩
      case measure => simp [intOf]; omega
    · obtain rfl : k = bs.length := by omega
      rw [List.take_length] at hO
      go_wp2
      go_ret
      exact ⟨oa, c, rfl, hO, hb⟩

end Go.Proofs.Ythjddpkegooobaa

/-
  SBLK: lists of bytes and writes that the specification appends to. Own work.
-/
namespace Go.Proofs.Ythjddpkegooobaa
open Go.RowKit

/-- bytes, and where they lie -/
structure LB where
  l : List Nat
  a : Option Addr
  cap : Nat
  deriving Inhabited
def LB.v (y : LB) : Value := .slice y.a y.l.length y.cap

structure SB (base : Nat) (wr : World) (ba : Option Addr) (bc : Nat) (lb : List LB) : Prop where
  own : wr.ownsRow base 22 1 (.slice ba lb.length bc) lb.length (lb.map LB.v)
  byt : ∀ y, y ∈ lb → wr.ownsRow base 5 1 (.slice y.a y.l.length y.cap) y.l.length (bcells y.l)
theorem SB.kept {p : Nat → Prop} {base : Nat} {w w' : World} {ba : Option Addr} {bc : Nat} {lb : List LB} (h : SB base w ba bc lb) (K : Kept p w w') (hp : ∀ z, p z → base ≤ z → ¬ IsS w z ∧ ¬ IsB w z) : SB base w' ba bc lb :=
  ⟨K.owns h.own (fun z hz e => let r := owns_isS h.own hz; (hp z e r.2).1 r.1), fun y hy => K.owns (h.byt y hy) (fun z hz e => let r := owns_isB (h.byt y hy) hz; (hp z e r.2).2 r.1)⟩
theorem SB.grow {base : Nat} {w w' : World} {ba : Option Addr} {bc : Nat} {lb : List LB} (h : SB base w ba bc lb) (hb : Below w.heap.size w w') : SB base w' ba bc lb := h.kept (Kept.of_below hb (fun _ => False)) (fun _ e => e.elim)
theorem SB.nil (base : Nat) (w : World) : SB base w none 0 [] := ⟨owns_none _ _ _ _, fun y hy => by cases hy⟩
theorem SB.push {base : Nat} {w w5 : World} {ba : Option Addr} {bc : Nat} {lb : List LB} (h : SB base w ba bc lb) {y : LB} (hy : w.ownsRow base 5 1 (.slice y.a y.l.length y.cap) y.l.length (bcells y.l)) {gg cc : Nat}
    (hown : w5.ownsRow base 22 1 (.slice (some ⟨gg, 0, none⟩) (lb.length + 1) cc) (lb.length + 1) (lb.map LB.v ++ [y.v])) (hgrow : w.grownBy w5 (Value.slice ba lb.length bc).ownBlock) : SB base w5 (some ⟨gg, 0, none⟩) cc (lb ++ [y]) := by
  have K := Kept.of_grown hgrow
  refine ⟨by rw [List.map_append, List.length_append]; exact hown, fun x hx => ?_⟩
  have hb : ∀ {x : LB}, w.ownsRow base 5 1 (.slice x.a x.l.length x.cap) x.l.length (bcells x.l) → w5.ownsRow base 5 1 (.slice x.a x.l.length x.cap) x.l.length (bcells x.l) := fun hx => K.owns hx (fun z hz e => not_B_of_S (owns_isS h.own e).1 (owns_isB hx hz).1)
  rcases List.mem_append.1 hx with e | e
  · exact hb (h.byt x e)
  · obtain rfl : x = y := by simpa using e
    exact hb hy
theorem LB.get {lb : List LB} {i : Nat} (hi : i < lb.length) : (lb.map LB.v)[i]? = some (lb[i]!.v) := by rw [getElem!_pos lb i hi]; simp [hi]
theorem SB.at_ {base : Nat} {w : World} {ba : Option Addr} {bc : Nat} {lb : List LB} (h : SB base w ba bc lb) : BlksAt w ba (lb.map (·.l)) := fun i hi => by
  have hi' : i < lb.length := by simpa using hi
  obtain ⟨g, ha, _, _, hc⟩ := owns_cell h.own (LB.get hi')
  have e : (lb.map (·.l))[i]! = lb[i]!.l := by rw [getElem!_pos _ i hi, getElem!_pos lb i hi']; simp
  rw [e]
  exact ⟨g, 0, lb[i]!.a, lb[i]!.cap, ha, by rw [Nat.zero_add]; exact hc, owns_bytes (h.byt _ (mem_at hi'))⟩

structure SW (base : Nat) (wr : World) (wa : Option Addr) (wc : Nat) (lw : List LW) : Prop where
  own : wr.ownsRow base 104 2 (.slice wa lw.length wc) lw.length (wCells lw)
  byt : ∀ y, y ∈ lw → wr.ownsRow base 5 1 (.slice y.a y.x.bytes.length y.cap) y.x.bytes.length (bcells y.x.bytes)
theorem SW.kept {p : Nat → Prop} {base : Nat} {w w' : World} {wa : Option Addr} {wc : Nat} {lw : List LW} (h : SW base w wa wc lw) (K : Kept p w w') (hp : ∀ z, p z → base ≤ z → ¬ IsW w z ∧ ¬ IsB w z) : SW base w' wa wc lw :=
  ⟨K.owns h.own (fun z hz e => let r := owns_isW h.own hz; (hp z e r.2).1 r.1), fun y hy => K.owns (h.byt y hy) (fun z hz e => let r := owns_isB (h.byt y hy) hz; (hp z e r.2).2 r.1)⟩
theorem SW.grow {base : Nat} {w w' : World} {wa : Option Addr} {wc : Nat} {lw : List LW} (h : SW base w wa wc lw) (hb : Below w.heap.size w w') : SW base w' wa wc lw := h.kept (Kept.of_below hb (fun _ => False)) (fun _ e => e.elim)
theorem SW.nil (base : Nat) (w : World) : SW base w none 0 [] := ⟨owns_none _ _ _ _, fun y hy => by cases hy⟩
theorem SW.push {base : Nat} {w w5 : World} {wa : Option Addr} {wc : Nat} {lw : List LW} (h : SW base w wa wc lw) {y : LW} (hy : w.ownsRow base 5 1 (.slice y.a y.x.bytes.length y.cap) y.x.bytes.length (bcells y.x.bytes)) {gg cc : Nat}
    (hown : w5.ownsRow base 104 2 (.slice (some ⟨gg, 0, none⟩) (lw.length + 1) cc) (lw.length + 1) (wCells lw ++ [.int .i64 y.x.block, .slice y.a y.x.bytes.length y.cap])) (hgrow : w.grownBy w5 (Value.slice wa lw.length wc).ownBlock) : SW base w5 (some ⟨gg, 0, none⟩) cc (lw ++ [y]) := by
  have K := Kept.of_grown hgrow
  refine ⟨by rw [wCells_snoc, List.length_append]; exact hown, fun x hx => ?_⟩
  have hb : ∀ {x : LW}, w.ownsRow base 5 1 (.slice x.a x.x.bytes.length x.cap) x.x.bytes.length (bcells x.x.bytes) → w5.ownsRow base 5 1 (.slice x.a x.x.bytes.length x.cap) x.x.bytes.length (bcells x.x.bytes) := fun hx => K.owns hx (fun z hz e => not_B_of_W (owns_isW h.own e).1 (owns_isB hx hz).1)
  rcases List.mem_append.1 hx with e | e
  · exact hb (h.byt x e)
  · obtain rfl : x = y := by simpa using e
    exact hb hy
theorem SW.at_ {base : Nat} {w : World} {wa : Option Addr} {wc : Nat} {lw : List LW} (h : SW base w wa wc lw) : WrsAt w wa (lw.map (·.x)) := fun i hi => by
  have hi' : i < lw.length := by simpa using hi
  obtain ⟨g, ha, _, _, hc⟩ := owns_cell h.own ((wCells_get lw i 0 hi' (by omega)).trans rfl)
  obtain ⟨g1, ha1, _, _, hc1⟩ := owns_cell h.own ((wCells_get lw i 1 hi' (by omega)).trans rfl)
  rw [ha] at ha1
  obtain rfl := some_addr ha1
  have e : (lw.map (·.x))[i]! = lw[i]!.x := by rw [getElem!_pos _ i hi, getElem!_pos lw i hi']; simp
  rw [e]
  exact ⟨g, 0, lw[i]!.a, lw[i]!.cap, ha, by rw [Nat.zero_add]; exact hc, by rw [Nat.zero_add]; exact hc1, owns_bytes (h.byt _ (mem_at hi'))⟩

/-- a disk's own variable, written -/
structure VB (wr : World) (V : Nat) (s0 s1 : Value) : Prop where
  v0 : wr.cell? ⟨V, 0, none⟩ = some s0
  v1 : wr.cell? ⟨V, 1, none⟩ = some s1
  vf : ∀ o, wr.frozen? ⟨V, o, none⟩ = false
theorem VB.lt {w : World} {V : Nat} {s0 s1 : Value} (h : VB w V s0 s1) : V < w.heap.size := World.block_lt_of_cell? w ⟨V, 0, none⟩ h.v0
theorem VB.kept {p : Nat → Prop} {w w' : World} {V : Nat} {s0 s1 : Value} (h : VB w V s0 s1) (K : Kept p w w') (hn : ¬ p V) : VB w' V s0 s1 :=
  ⟨K.cell h.v0 hn, K.cell h.v1 hn, fun o => (World.frozen?_of_block (w := w) (a := ⟨V, o, none⟩) (K.block V h.lt hn)).trans (h.vf o)⟩
theorem VB.grow {w w' : World} {V : Nat} {s0 s1 : Value} (h : VB w V s0 s1) (hb : Below w.heap.size w w') : VB w' V s0 s1 := h.kept (Kept.of_below hb (fun _ => False)) (fun e => e)
theorem VB.set0 {w : World} {V : Nat} {s0 s1 : Value} (h : VB w V s0 s1) (s : Value) : VB (w.setCell ⟨V, 0, none⟩ s) V s s1 :=
  ⟨World.cell?_setCell_same _ _ _ h.v0, (World.cell?_setCell_other _ _ _ _ (by simp)).trans h.v1, fun o => by rw [World.frozen?_setCell]; exact h.vf o⟩
theorem VB.set1 {w : World} {V : Nat} {s0 s1 : Value} (h : VB w V s0 s1) (s : Value) : VB (w.setCell ⟨V, 1, none⟩ s) V s0 s :=
  ⟨(World.cell?_setCell_other _ _ _ _ (by simp)).trans h.v0, World.cell?_setCell_same _ _ _ h.v1, fun o => by rw [World.frozen?_setCell]; exact h.vf o⟩
theorem VB.new (w : World) (s0 s1 : Value) (t : TypeId) : VB (w.alloc (.cells #[s0, s1] t)) w.heap.size s0 s1 := ⟨by simp, by simp, fun o => by simp⟩
theorem VB.new_at (w : World) (s0 s1 : Value) (t : TypeId) (V : Nat) (hV : V = w.heap.size) : VB (w.alloc (.cells #[s0, s1] t)) V s0 s1 := by subst hV; exact VB.new w s0 s1 t
theorem Kept.one (w : World) (V o : Nat) (s : Value) : Kept (fun b => b = V) w (w.setCell ⟨V, o, none⟩ s) := (Kept.refl (fun b => b = V) w).set (a := ⟨V, o, none⟩) (fun _ => rfl) s
theorem SB.set {base : Nat} {w : World} {ba : Option Addr} {bc : Nat} {lb : List LB} (h : SB base w ba bc lb) {V : Nat} (hV : V < base) (o : Nat) (s : Value) : SB base (w.setCell ⟨V, o, none⟩ s) ba bc lb := h.kept (Kept.one w V o s) (fun z e hz => by omega)
theorem SW.set {base : Nat} {w : World} {wa : Option Addr} {wc : Nat} {lw : List LW} (h : SW base w wa wc lw) {V : Nat} (hV : V < base) (o : Nat) (s : Value) : SW base (w.setCell ⟨V, o, none⟩ s) wa wc lw := h.kept (Kept.one w V o s) (fun z e hz => by omega)

end Go.Proofs.Ythjddpkegooobaa
