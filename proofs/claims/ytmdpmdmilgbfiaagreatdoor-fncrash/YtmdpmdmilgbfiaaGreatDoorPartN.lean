import Derived.RangeFuncBox
import Derived.Laws.CopyRow
import Derived.Deep.AppendLies
import Derived.Test.YtmdpmdmilgbfiaaGreatDoorPartM

/-
  OINV: what holds between two rounds of the program's loop over an image's pieces. Own work.
-/
namespace Go.Proofs.YtmdpmdmilgbfiaaGreatDoor
open Go.RowKit Go.Shelf

def preOps (s : Nat) (im : List Nat) (pre : List Nat) : List OP := (pre.zipIdx 0).map fun y => ⟨false, ((firstOf s + y.2 : Nat) : Int), blkOf im y.1⟩
theorem preOps_snoc (s : Nat) (im pre : List Nat) (x : Nat) : preOps s im (pre ++ [x]) = preOps s im pre ++ [⟨false, ((firstOf s + pre.length : Nat) : Int), blkOf im x⟩] := by
  simp [preOps, List.zipIdx_append]
theorem preOps_len (s : Nat) (im pre : List Nat) : (preOps s im pre).length = pre.length := by simp [preOps]
theorem preOps_range (s : Nat) (im : List Nat) : ∀ m, preOps s im (List.range m) = imgOps s im m
  | 0 => rfl
  | m + 1 => by rw [List.range_succ, preOps_snoc, preOps_range s im m, imgOps_succ, List.length_range]

/-- what holds between two rounds -/
def OI (w : World) (bV P7 P8 B1 B2 n₀ s : Nat) (im hb : List Nat) (oh : Option Addr) (pre : List Nat) (W : World) : Prop :=
  ∃ oa oc lo, Boxed W P8 52 (.slice oa lo.length oc) ∧ lo.map LO.x = preOps s im pre ∧ SO bV W oa oc lo ∧ Boxed W P7 3 (.int .i64 (s : Int)) ∧ MB W w.heap.size oh hb ∧ Below w.heap.size w W ∧ n₀ ≤ W.heap.size ∧ (∃ c, W.heap[B1]? = some (.cells c 22 (0, 0))) ∧ (∃ c, W.heap[B2]? = some (.cells c 3 (0, 0)))

theorem OI.own {w : World} {bV P7 P8 B1 B2 n₀ s : Nat} {im hb : List Nat} {oh : Option Addr} (hn : w.heap.size ≤ n₀) : OwnFrom n₀ (OI w bV P7 P8 B1 B2 n₀ s im hb oh) := by
  rintro pre A B row ⟨oa, oc, lo, h8, hlo, hS, h7, hM, hB, hz, ⟨d1, k1⟩, ⟨d2, k2⟩⟩ hg hrow
  have hK := Kept.of_grown hg
  have hne : ∀ z c t, A.heap[z]? = some (.cells c t (0, 0)) → row ≠ some z := fun z c t hz e => by
    obtain ⟨_, o, ho, hc⟩ := hrow z e
    rw [hz] at ho
    cases ho
    cases hc
  refine ⟨oa, oc, lo, h8.kept hg (fun e => hne P8 _ _ h8 e.symm), hlo, hS.kept hK (fun z e _ => ⟨fun ⟨c, hc⟩ => hne z _ _ hc e, fun ⟨c, hc⟩ => hne z _ _ hc e⟩), h7.kept hg (fun e => hne P7 _ _ h7 e.symm), hM.keptO hK (fun z _ ⟨c, hc⟩ e => hne z _ _ hc e), ?_, Nat.le_trans hz hg.size, ⟨d1, (hg.block B1 (Array.getElem?_eq_some_iff.1 k1).1 (fun e => hne B1 _ _ k1 e.symm)).trans k1⟩, ⟨d2, (hg.block B2 (Array.getElem?_eq_some_iff.1 k2).1 (fun e => hne B2 _ _ k2 e.symm)).trans k2⟩⟩
  exact hB.trans (hK.below (B := w.heap.size) hB.size (fun z hz2 e => by have := (hrow z e).1; omega))

theorem four_new (w : World) (a b c : Value) (t1 t2 t3 t4 : TypeId) :
    ((((w.alloc (.cells #[] t1)).alloc (.cells #[a] t2)).alloc (.cells #[b] t3)).alloc (.cells #[c] t4)).heap[w.heap.size]? = some (.cells #[] t1 (0, 0)) ∧
    Boxed ((((w.alloc (.cells #[] t1)).alloc (.cells #[a] t2)).alloc (.cells #[b] t3)).alloc (.cells #[c] t4)) (w.heap.size + 1) t2 a ∧
    Boxed ((((w.alloc (.cells #[] t1)).alloc (.cells #[a] t2)).alloc (.cells #[b] t3)).alloc (.cells #[c] t4)) (w.heap.size + 1 + 1) t3 b ∧
    Boxed ((((w.alloc (.cells #[] t1)).alloc (.cells #[a] t2)).alloc (.cells #[b] t3)).alloc (.cells #[c] t4)) (w.heap.size + 1 + 1 + 1) t4 c ∧
    ((((w.alloc (.cells #[] t1)).alloc (.cells #[a] t2)).alloc (.cells #[b] t3)).alloc (.cells #[c] t4)).heap.size = w.heap.size + 1 + 1 + 1 + 1 ∧
    Below w.heap.size w ((((w.alloc (.cells #[] t1)).alloc (.cells #[a] t2)).alloc (.cells #[b] t3)).alloc (.cells #[c] t4)) := by
  have e1 := World.alloc_heap_new w (.cells #[] t1)
  have h2 := Boxed.new (w.alloc (.cells #[] t1)) t2 a
  have h3 := Boxed.new ((w.alloc (.cells #[] t1)).alloc (.cells #[a] t2)) t3 b
  have h4 := Boxed.new (((w.alloc (.cells #[] t1)).alloc (.cells #[a] t2)).alloc (.cells #[b] t3)) t4 c
  simp only [World.size_alloc] at h2 h3 h4
  refine ⟨?_, (h2.alloc _).alloc _, h3.alloc _, h4, by simp, gal (gal (gal (gal (gre _) _) _) _) _⟩
  exact (Below.heap_alloc _ _ _ (by simp; omega)).trans ((Below.heap_alloc _ _ _ (by simp; omega)).trans ((Below.heap_alloc _ _ _ (by simp)).trans e1))

theorem SO.empty {w : World} {base g : Nat} (h : w.heap[g]? = some (.cells #[] 101 (0, 0))) (hb : base ≤ g) : SO base w (some ⟨g, 0, none⟩) 0 [] :=
  ⟨⟨rfl, Or.inr ⟨g, 0, #[], rfl, hb, h, Nat.le_refl _, Nat.zero_le _, rfl, rfl⟩⟩, fun y hy => (by cases hy), List.Pairwise.nil⟩

theorem KpC.putObj {n₀ : Nat} {q : Nat → Prop} (W : World) (l : Nat) (o' : Obj) (hl : n₀ ≤ l) : KpC n₀ q W (W.putObj l o') := (Kept.of_grown (grownBy_putObj' W l o')).mono (fun z _ e => Or.inr (by cases e; exact hl))
theorem keptPut (W : World) (l : Nat) (o' : Obj) : Kept (fun z => z = l) W (W.putObj l o') := (Kept.of_grown (grownBy_putObj' W l o')).mono (fun z _ e => by cases e; rfl)

theorem zrow_copy {w : World} {a : Nat} {cur : Array Value} (hc : w.heap[a]? = some (.cells cur 5 (0, 0))) (h : ZRow w a 64 []) (c : List Nat) (hl : c.length ≤ 64) :
    ZRow (w.setRow a (cur.toList.take 0 ++ bcells c ++ cur.toList.drop (0 + (bcells c).length)).toArray) a 64 c := by
  obtain ⟨_, c', hc', hs, hx⟩ := h
  rw [hc] at hc'
  obtain rfl : cur = c' := by simpa using hc'
  have e2 := bcells_length c
  refine ⟨hl, _, setRow_heap _ _ _ _ _ _ hc, ?_, fun i hi => ?_⟩
  · simp only [List.size_toArray, List.length_append, e2, List.length_drop, Array.length_toList, List.take_zero, List.length_nil]; omega
  · rw [List.getElem?_toArray, List.take_zero, List.nil_append, Nat.zero_add, e2]
    by_cases h : i < c.length
    · rw [List.getElem?_append_left (by omega)]
      exact bcells_get h
    · rw [List.getElem?_append_right (by omega), e2, List.getElem?_drop, Array.getElem?_toList, show c.length + (i - c.length) = i by omega, hx i hi]
      show some (Value.int .u8 ((([] : List Nat)[i]! : Nat) : Int)) = some (Value.int .u8 ((c[i]! : Nat) : Int))
      rw [getElem!_neg c i h, getElem!_neg ([] : List Nat) i (by simp)]
theorem keptRow (w : World) (a : Nat) (c : Array Value) : Kept (fun k => k = a) w (w.setRow a c) := ⟨rfl, rfl, rfl, by simp, fun k _ hn => setRow_other _ _ _ _ hn⟩
/-- what is cells alone is turned -/
theorem keepsFrom_of {p : Nat → Prop} {W W' : World} (B : Nat) (K : Kept p W W') (hp : ∀ z, p z → ∀ o, W.heap[z]? = some o → o.isCells = true) : KeepsFrom B W W' :=
  ⟨K.size, fun k o _ hk ho => (K.block k (Array.getElem?_eq_some_iff.1 hk).1 (fun e => by rw [hp k e o hk] at ho; cases ho)).trans hk⟩

theorem stepIn_append_own {F : Fence} {n : Nat} {P : Program} {o : Oper} {a : Act} {w : World} {K : Act → World → Prop} {Q : Exit → Act → World → Prop} {X : Prop} {ops : Array Oper} {y : Array Value}
    (hg : o.guard = none) (s x : Operand) (t : TypeId) (hop : o.op = Op.call { callee := Callee.builtin Builtin.append, args := #[s, x], argTypes := #[t, t] })
    (base : Nat) (e : TypeId) (i : TypeInfo) (z : Value) (size bytes : Nat) (h1 : P.underlying t = some (.slice e)) (h2 : P.info? e = some i) (h3 : i.zero = some z) (h4 : i.size = size) (h5 : i.bytes = bytes) (h6 : z.cells.size = size) (h7 : 0 < size)
    (v : Value) (k : Nat) (xs : List Value) (hs : a.eval s = v) (hown : w.ownsRow base e size v k xs) (ad : Addr) (m c : Nat) (news : List Value) (hx : a.eval x = .slice (some ad) m c) (hn : news.length = m * size)
    (hc : ∀ j u, news[j]? = some u → w.cell? (ad.add j) = some u) (h1c : ∀ u ∈ news, u.oneCell' = true) (b1 : k + m ≤ maxLen) (b2 : (k + m) * bytes ≤ 140737488355328) (b3 : base ≤ w.heap.size)
    (hK : ∀ v' w', w'.ownsRow base e size v' (k + m) (xs ++ news) → w.grownBy w' v.ownBlock → K (a.put o.dst v') w') :
    if Region.wanted o (yielded ops y) = true then Oper.wpIn F n P o a w K Q else X := by
  rw [if_pos (by simp [Region.wanted, hg])]
  obtain ⟨v', w', hrun, r1, r2, r3⟩ := run_append_own (P := P) w base t o.type e i z size bytes h1 h2 h3 h4 h5 h6 h7 v k xs hown ad m c news hn hc h1c b1 b2 b3
  unfold Oper.wpIn
  refine ⟨?_, ?_⟩
  · simp [Oper.about, hop, resolve, Target.leads, Sem.run_pure]
  · rw [Oper.semAt_plain F _ _ (by rw [hop]; intro c hc'; cases hc')]
    simp [execOp, hop, resolve, invoke, builtin, hs, hx, hrun, Result.andThen]
    exact hK v' w' r1 r2

/-- what each operation leaves in its slot -/
def oL (Bb s F : Nat) (oa : Option Addr) (oc n : Nat) (v : Nat → Value) : Nat → Prop
  | 0 => v 47 = .slice oa n oc
  | 1 => v 48 = .int .i64 (s : Int)
  | 2 => v 49 = .int .i64 ((firstOf s : Nat) : Int)
  | 3 => v 50 = .slice oa n oc
  | 4 => v 51 = .int .i64 (n : Int)
  | 5 => v 52 = .int .i64 (F : Int)
  | 6 => v 53 = .slice (some ⟨Bb, 0, none⟩) 64 64
  | 7 => v 54 = .agg #[.bool false, .int .i64 (F : Int), .slice (some ⟨Bb, 0, none⟩) 64 64]
  | _ => True
def updO (v : Nat → Value) (s : Nat) (x : Value) : Nat → Value := fun k => if k = s then x else v k
theorem updO_other (v : Nat → Value) {s k : Nat} (x : Value) (h : k ≠ s) : updO v s x k = v k := if_neg h
theorem oL_upd {Bb s F : Nat} {oa : Option Addr} {oc n : Nat} {v : Nat → Value} (t : Nat) (x : Value) : ∀ k, k + 47 ≠ t → oL Bb s F oa oc n v k → oL Bb s F oa oc n (updO v t x) k
  | 0, e, h | 1, e, h | 2, e, h | 3, e, h | 4, e, h | 5, e, h | 6, e, h | 7, e, h => by
    simp only [oL, updO_other v x e]
    exact h
  | _ + 8, _, _ => trivial
/-- the new op's own cells -/
def ONew (Bb F : Nat) (v : Nat → Value) (u : World) : Prop := ∃ g, v 55 = .slice (some ⟨g, 0, none⟩) 1 1 ∧ u.heap[g]? = some (.cells #[.bool false, .int .i64 (F : Int), .slice (some ⟨Bb, 0, none⟩) 64 64] 101 (0, 0))
/-- the row behind the append -/
def ORow (W1 : World) (G0 P8 Bb F : Nat) (oa : Option Addr) (oc : Nat) (lo : List LO) (bl : List Nat) (v : Nat → Value) (g cc : Nat) (u : World) : Prop :=
  v 56 = .slice (some ⟨g, 0, none⟩) (lo.length + 1) cc ∧ SO G0 u (some ⟨g, 0, none⟩) cc (lo ++ [⟨⟨false, (F : Int), bl⟩, some ⟨Bb, 0, none⟩, 64⟩]) ∧ Kept (fun z => (Value.slice oa lo.length oc).ownBlock = some z ∨ z = P8) W1 u
/-- what holds while the loop's last region comes up -/
structure OJ (W1 : World) (G0 P7 P8 Bb s F : Nat) (oa : Option Addr) (oc : Nat) (lo : List LO) (bl : List Nat) (D : Nat → Prop) (v : Nat → Value) (u : World) : Prop where
  pa : ¬ D 9 → Below W1.heap.size W1 u
  done : ∀ k, D k → oL Bb s F oa oc lo.length v k
  new : D 8 → ¬ D 9 → ONew Bb F v u
  app : D 9 → ¬ D 10 → ∃ g cc, ORow W1 G0 P8 Bb F oa oc lo bl v g cc u ∧ Boxed u P8 52 (.slice oa lo.length oc)
  fin : D 10 → ∃ g cc, ORow W1 G0 P8 Bb F oa oc lo bl v g cc u ∧ Boxed u P8 52 (.slice (some ⟨g, 0, none⟩) (lo.length + 1) cc)
/-- an operation ahead of the append -/
theorem OJ.next {W1 : World} {G0 P7 P8 Bb s F : Nat} {oa : Option Addr} {oc : Nat} {lo : List LO} {bl : List Nat} {D : Nat → Prop} {v : Nat → Value} {u u' : World} (h : OJ W1 G0 P7 P8 Bb s F oa oc lo bl D v u) (i t : Nat) (x : Value) (ht : i + 47 = t) (hi : i < 8) (n9 : ¬ D 9) (n10 : ¬ D 10) (hB : Below u.heap.size u u') (hx : oL Bb s F oa oc lo.length (updO v t x) i) : OJ W1 G0 P7 P8 Bb s F oa oc lo bl (fun j => j = i ∨ D j) (updO v t x) u' := by
  have hpa := h.pa n9
  refine ⟨fun _ => hpa.trans (hB.mono hpa.size), fun k hk => ?_, fun h8 _ => ?_, fun h9 => absurd (h9.resolve_left (by omega)) n9, fun h10 => absurd (h10.resolve_left (by omega)) n10⟩
  · by_cases e : k = i
    · subst e; exact hx
    · exact oL_upd t x k (by omega) (h.done k (hk.resolve_left e))
  · obtain ⟨g, h1, h2⟩ := h.new (h8.resolve_left (by omega)) n9
    exact ⟨g, by rw [updO_other v x (by omega)]; exact h1, (hB.block g (Array.getElem?_eq_some_iff.1 h2).1).trans h2⟩

end Go.Proofs.YtmdpmdmilgbfiaaGreatDoor

/-
  REGIONV: the end of a region that draws its order. Own work.
-/
namespace Go.Proofs.YtmdpmdmilgbfiaaGreatDoor
open Go.RowKit

/-- none may come up any more -/
theorem anyU_done {P : Program} {ops : Array Oper} {Q : Exit → Act → World → Prop} {md : Region.Mode} {S : World → Prop} {lst : Nat} {fuel : Nat} {listed : Array Bool} {a : Act} {w : World} (hd : Region.ready md ops listed = []) (hQ : Q .normal a w) : anyU P md ops Q S lst fuel listed a w := by
  cases fuel with
  | zero => exact ⟨hd, hQ⟩
  | succ f => exact ⟨fun _ => hQ, fun i hi => by rw [hd] at hi; cases hi⟩

end Go.Proofs.YtmdpmdmilgbfiaaGreatDoor

/-
  SIMAGE: the specification's slots. Own work.
-/
namespace Go.Proofs.YtmdpmdmilgbfiaaGreatDoor
open Go.RowKit

/-- a struct of four cells, that may be written -/
structure V4 (w : World) (R : Nat) (a b c d : Value) : Prop where
  lt : R < w.heap.size
  c0 : w.cell? ⟨R, 0, none⟩ = some a
  c1 : w.cell? ⟨R, 1, none⟩ = some b
  c2 : w.cell? ⟨R, 2, none⟩ = some c
  c3 : w.cell? ⟨R, 3, none⟩ = some d
  f : ∀ o, w.frozen? ⟨R, o, none⟩ = false
theorem V4.kept {p : Nat → Prop} {w w' : World} {R : Nat} {a b c d : Value} (h : V4 w R a b c d) (k : Kept p w w') (hn : ¬ p R) : V4 w' R a b c d :=
  ⟨Nat.lt_of_lt_of_le h.lt k.size, k.cell h.c0 hn, k.cell h.c1 hn, k.cell h.c2 hn, k.cell h.c3 hn, fun o => (World.frozen?_of_block (w := w) (a := ⟨R, o, none⟩) (k.block R h.lt hn)).trans (h.f o)⟩
theorem V4.grow {w w' : World} {R : Nat} {a b c d : Value} (h : V4 w R a b c d) (k : Below w.heap.size w w') : V4 w' R a b c d := h.kept (Kept.of_below k (fun _ => False)) (fun e => e)
theorem V4.new_at (w : World) (a b c d : Value) (t : TypeId) (R : Nat) (hR : R = w.heap.size) : V4 (w.alloc (.cells #[a, b, c, d] t)) R a b c d := by
  subst hR
  exact ⟨by simp, by simp, by simp, by simp, by simp, fun o => by simp⟩
theorem retV4 {w : World} {R : Nat} {a b c d : Value} (hv : V4 w R a b c d) (A B C D : Value) :
    (w.setCell ⟨R, 0, none⟩ A).cell? ⟨R, 0, none⟩ = some A ∧ ((w.setCell ⟨R, 0, none⟩ A).setCell ⟨R, 1, none⟩ B).cell? ⟨R, 1, none⟩ = some B ∧ (((w.setCell ⟨R, 0, none⟩ A).setCell ⟨R, 1, none⟩ B).setCell ⟨R, 2, none⟩ C).cell? ⟨R, 2, none⟩ = some C ∧ ((((w.setCell ⟨R, 0, none⟩ A).setCell ⟨R, 1, none⟩ B).setCell ⟨R, 2, none⟩ C).setCell ⟨R, 3, none⟩ D).cell? ⟨R, 3, none⟩ = some D ∧
      Kept (fun b => b = R) w ((((w.setCell ⟨R, 0, none⟩ A).setCell ⟨R, 1, none⟩ B).setCell ⟨R, 2, none⟩ C).setCell ⟨R, 3, none⟩ D) := by
  refine ⟨World.cell?_setCell_same _ _ _ hv.c0, World.cell?_setCell_same _ _ _ ((World.cell?_setCell_other _ _ _ _ (by simp)).trans hv.c1), World.cell?_setCell_same _ _ _ (((World.cell?_setCell_other _ _ _ _ (by simp)).trans (World.cell?_setCell_other _ _ _ _ (by simp))).trans hv.c2), World.cell?_setCell_same _ _ _ ((((World.cell?_setCell_other _ _ _ _ (by simp)).trans (World.cell?_setCell_other _ _ _ _ (by simp))).trans (World.cell?_setCell_other _ _ _ _ (by simp))).trans hv.c3), ?_⟩
  exact ((((Kept.refl (fun b => b = R) w).set (a := ⟨R, 0, none⟩) (fun _ => rfl) A).set (a := ⟨R, 1, none⟩) (fun _ => rfl) B).set (a := ⟨R, 2, none⟩) (fun _ => rfl) C).set (a := ⟨R, 3, none⟩) (fun _ => rfl) D

theorem add_plainH (g off j : Nat) : Addr.add ⟨g, off, none⟩ j = ⟨g, off + j, none⟩ := by simp [Addr.add]
theorem bytes_news {w : World} {g off : Nat} {bs : List Nat} (h : BytesAt w (some ⟨g, off, none⟩) bs) : ∀ j u, (bcells bs)[j]? = some u → w.cell? (Addr.add ⟨g, off, none⟩ j) = some u := fun j u hu => by
  have hj : j < bs.length := by
    have := (List.getElem?_eq_some_iff.1 hu).1
    rwa [bcells_length] at this
  obtain ⟨b', off', e, hc⟩ := h j hj
  injection e with e
  injection e with e1 e2
  subst e1
  subst e2
  rw [bcells_get hj] at hu
  injection hu with hu
  rw [← hu, add_plainH]
  exact hc
theorem bcells_append (a b : List Nat) : bcells (a ++ b) = bcells a ++ bcells b := by simp [bcells]
theorem bytes_some {w : World} {oa : Option Addr} {bs : List Nat} (h : BytesAt w oa bs) (hl : 0 < bs.length) : ∃ g off, oa = some ⟨g, off, none⟩ ∧ g < w.heap.size := by
  obtain ⟨b, off, e, hc⟩ := h 0 hl
  exact ⟨b, off, e, World.block_lt_of_cell? _ _ hc⟩

theorem ownsRow_nilH (w : World) (base : Nat) (e : TypeId) : w.ownsRow base e 1 (.slice none 0 0) 0 (bcells []) := ⟨rfl, Or.inl ⟨rfl, rfl⟩⟩

/-- what is kept in a slot, as it is handed back -/
def KPost (k : KK) (w : World) (e : Ending) (w' : World) : Prop := ∃ oa c, e = .returned (k.val oa c) ∧ Hid (k.bytes.length ≤ c) ∧ BytesAt w' oa k.bytes ∧ (∀ g off, oa = some ⟨g, off, none⟩ → w.heap.size ≤ g) ∧ Below w.heap.size w w'
theorem KPost.no {w w' : World} (h : Below w.heap.size w w') : KPost noK w (.returned (.agg #[.bool false, .int .i64 0, .int .i64 0, .slice none 0 0])) w' := ⟨none, 0, rfl, Nat.le_refl _, fun i hi => absurd hi (Nat.not_lt_zero _), fun _ _ e => (by cases e), h⟩

theorem BytesAt.keptH {p : Nat → Prop} {w w' : World} {a : Option Addr} {bs : List Nat} (h : BytesAt w a bs) (k : Kept p w w') (hn : ∀ g off, a = some ⟨g, off, none⟩ → ¬ p g) : BytesAt w' a bs := fun i hi => by
  obtain ⟨b, off, ha, hc⟩ := h i hi
  exact ⟨b, off, ha, k.cell hc (hn b off ha)⟩
theorem BytesAt.takeH {w : World} {oa : Option Addr} {xs : List Nat} (h : BytesAt w oa xs) (n : Nat) : BytesAt w oa (xs.take n) := fun i hi => by
  have h1 : i < n ∧ i < xs.length := by rw [List.length_take] at hi; omega
  obtain ⟨b, off, e, hc⟩ := h i h1.2
  refine ⟨b, off, e, ?_⟩
  rw [getElem!_pos _ i hi, List.getElem_take, ← getElem!_pos xs i h1.2]
  exact hc
theorem calls_argsS {P : Program} {f : Nat} {a b : Array Value} {w : World} {Q : Ending → World → Prop} (h : Calls P f a w Q) (e : a = b) : Calls P f b w Q := by subst e; exact h

set_option maxRecDepth 100000 in
theorem l4first_any (m : Nat) (w : World) (hm : m < 2) : Calls Tryz.prog 111 #[.int .i64 (m : Int)] w fun e w' => e = .returned (.int .i64 (firstOf m : Nat)) ∧ Below w.heap.size w w' := by
  go_enter Tryz.func111, Tryz.ntmps111
  go_wp2
  go_ret
  exact ⟨congrArg (fun z => Ending.returned (.int .i64 z)) (by simp only [firstOf]; first | omega | (unfold wrap64; omega)), gre _⟩

set_option maxHeartbeats 2000000 in
set_option maxRecDepth 100000 in
theorem l4image_any (d : DD) (l : DL) (m : Nat) (w : World) (hf : d.Fit) (ho : d.Ok) (ha : DAt w l d) (hm : m < 2) :
    Calls Tryz.prog 101 #[d.val l, .int .i64 (m : Int)] w (KPost (d.slotOf m) w) := by
  have hA := gal (gal (gre w) (.cells #[.slice l.ba d.blocks.length l.bc, .slice l.wa d.waiting.length l.wc] 46)) (.cells #[.bool false, .int .i64 0, .int .i64 0, .slice none 0 0] 62)
  have hX0 := (DBox.new w d l 46).grow (gal (gre _) (.cells #[.bool false, .int .i64 0, .int .i64 0, .slice none 0 0] 62))
  have hR0 := V4.new_at (w.alloc (.cells #[.slice l.ba d.blocks.length l.bc, .slice l.wa d.waiting.length l.wc] 46)) (.bool false) (.int .i64 0) (.int .i64 0) (.slice none 0 0) 62 (w.heap.size + 1) (by simp)
  obtain ⟨h, hh⟩ := hid_ex (headOf (d.rd m))
  rcases headOf_cases (d.rd m) with hi | hi
  · rw [← hh.out] at hi
    obtain ⟨ok, gen, len, sum⟩ := h
    obtain ⟨rfl, hrng, hsum, heq⟩ := hi
    have hr := rng_i64 hrng
    simp only at hr
    obtain ⟨n, rfl⟩ : ∃ n : Nat, len = (n : Int) := ⟨len.toNat, by omega⟩
    clear hrng heq
    obtain ⟨img, himg⟩ := hid_ex (d.img m n)
    have hsl : Hid (d.slotOf m = if wrap64 (sumN img : Int) = sum then ⟨true, gen, (m : Int), img⟩ else noK) := by
      show _ = _
      unfold DD.slotOf
      rw [← hh.out, himg.out]
      simp
    obtain ⟨i0, hi0, hz0, hz1, hz2⟩ := info_parts info_u8
    go_enter Tryz.func101, Tryz.ntmps101
    go_wp2_with (go_at_call 133; refine (l4head_any d l m _ hf ho (ha.grow hA) (by omega)).mono ?_; rw [← hh.out]; rintro e w1 ⟨rfl, hb1⟩)
    have hHb := HBox.new w1 true gen (n : Int) sum 65
    have hb2 := gal hb1 (.cells #[.bool true, .int .i64 gen, .int .i64 (n : Int), .int .i64 sum] 65)
    have hX2 := hX0.grow hb2
    have hR2 := hR0.grow hb2
    have hA2 := gca hA hb2
    have hRl := (hR0.grow hb1).lt
    generalize w1.alloc (.cells #[.bool true, .int .i64 gen, .int .i64 (n : Int), .int .i64 sum] 65) = wH at hHb hb2 hX2 hR2 hA2 ⊢
    generalize w1.heap.size = H at hHb hRl ⊢
    clear hb1 hb2 hX0 hR0 hA
    have hHl := hHb.lt
    go_loopw [6, 7] (fun a k wr => ∃ (j : Nat) (oa : Option Addr) (c : Nat), a = .slice oa (64 * j) c ∧ k = .int .i64 (j : Int) ∧ j ≤ 64 ∧ 64 * j < n + 64 ∧ wr.ownsRow wH.heap.size 5 1 (.slice oa (64 * j) c) (64 * j) (bcells (d.cat (firstOf m) j)) ∧ Below wH.heap.size wH wr) (fun _ k _ => 64 - (intOf k).toNat)
    case atStart => exact ⟨0, none, 0, rfl, rfl, by omega, by omega, ownsRow_nilH _ _ _, gre _⟩
    case round =>
      obtain ⟨j, oa, c, rfl, rfl, hj, hjn, hO, hb⟩ := hrel
      obtain ⟨_, p0, p1, p2, p3⟩ := hHb.kept (Kept.of_below hb (fun _ => False)) (fun e => e)
      have hXr := hX2.grow hb
      obtain ⟨_, z0, z1, z2, z3, zf⟩ := hR2.grow hb
      by_cases hlt : 64 * j < n
      · have hd : ((64 * j : Nat) : Int) < (n : Int) := by omega
        have hd2 : (64 : Int) * (j : Int) < (n : Int) := by omega
        go_wp2_with (go_quiet (fail))
        have hB : Below wr.heap.size wr wr.drew := gdr (gre _)
        refine wp_regionU (fun u => DBox u w.heap.size d l) 99 (by kernel_rfl) (hXr.grow hB) (fun _ => ?_)
        refine anyU_take (i := 0) (v := ?_) rfl (by kernel_rfl) (by kernel_rfl) (by kernel_rfl) (by kernel_rfl) (fun _ _ _ h => h) (Or.inl ⟨by rfl, ?_⟩) (hXr.grow hB) ?_
        rotate_left
        · intro u hSu; (try dsimp only at hSu); go_simp <;> with_reducible rfl
        simp only [Act.put, List.getElem_toArray, List.getElem_cons_zero, List.setIfInBounds_toArray, List.set_cons_zero, List.set_cons_succ]
        refine anyU_take (i := 1) (v := ?_) rfl (by kernel_rfl) (by kernel_rfl) (by kernel_rfl) (by kernel_rfl) (fun _ _ _ h => h) (Or.inl ⟨by rfl, ?_⟩) (hXr.grow hB) ?_
        rotate_left
        · intro u hSu; obtain ⟨_, s0, s1⟩ := hSu; go_simp <;> with_reducible rfl
        simp only [Act.put, List.getElem_toArray, List.getElem_cons_zero, List.getElem_cons_succ, List.setIfInBounds_toArray, List.set_cons_zero, List.set_cons_succ]
        refine anyU_take (i := 2) (v := ?_) rfl (by kernel_rfl) (by kernel_rfl) (by kernel_rfl) (by kernel_rfl) (fun _ _ _ h => h) (Or.inl ⟨by rfl, ?_⟩) (hXr.grow hB) ?_
        rotate_left
        · intro u hSu; (try dsimp only at hSu); go_simp <;> with_reducible rfl
        simp only [Act.put, List.getElem_toArray, List.getElem_cons_zero, List.getElem_cons_succ, List.setIfInBounds_toArray, List.set_cons_zero, List.set_cons_succ]
        refine anyU_take (i := 4) (v := ?_) rfl (by kernel_rfl) (by kernel_rfl) (by kernel_rfl) (by kernel_rfl) (fun _ _ _ h => h) (Or.inl ⟨by rfl, ?_⟩) (hXr.grow hB) ?_
        rotate_left
        · intro u hSu; (try dsimp only at hSu); go_simp <;> with_reducible rfl
        simp only [Act.put, List.getElem_toArray, List.getElem_cons_zero, List.getElem_cons_succ, List.setIfInBounds_toArray, List.set_cons_zero, List.set_cons_succ]
        refine anyU_one (i := 3) (by kernel_rfl) rfl (fun K hK => ?_)
        go_simp
        refine (l4first_any m _ hm).mono ?_
        rintro e w3 ⟨rfl, hb3⟩
        have hB := gca hB hb3
        refine hK.out _ _ (hXr.grow hB) ?_
        clear hK
        refine anyU_one (i := 5) (by kernel_rfl) rfl (fun K hK => ?_)
        go_simp
        refine hK.out _ _ (hXr.grow hB) ?_
        clear hK
        have hrd := DD.rd_len hf (m := firstOf m + j) (by unfold firstOf; omega)
        obtain ⟨bs, hbs⟩ := hid_ex (d.rd (firstOf m + j))
        have hwr : IntKind.i64.wrap ((firstOf m : Nat) + (j : Int)) = ((firstOf m + j : Nat) : Int) := by rw [IntKind.wrap_i64]; unfold firstOf; omega
        have hbl : Hid (bs.length = 64) := by show _ = _; rw [hbs.out]; exact hrd
        refine anyU_one (i := 6) (by kernel_rfl) rfl (fun K hK => ?_)
        go_simp
        refine (calls_argsS (l3read_own d l (firstOf m + j) w3 hf (ha.grow (gca (gca hA2 hb) hB)) (by unfold firstOf; omega)) (by first | (rw [Int.natCast_add]; done) | (rw [Int.natCast_add]; rfl) | rw [hwr])).mono ?_
        rw [show readN d.blocks d.waiting ((firstOf m + j : Nat) : Int) d.waiting.length = bs from hbs.out.symm]
        rintro e w4 ⟨oa4, c4, rfl, hO4, hb4⟩
        have hB := gca hB hb4
        refine hK.out _ _ (hXr.grow hB) ?_
        clear hK
        have hO5 := (Kept.of_below hB (fun _ => False)).owns hO (fun _ _ e => e)
        obtain ⟨g4, off4, rfl, hg4⟩ := bytes_some (owns_bytes hO4) (by rw [hbl.out]; decide)
        have hn5 := bytes_news (owns_bytes hO4)
        have hs5 := hB.size
        have hsH := hb.size
        refine anyU_one (i := 7) (by kernel_rfl) rfl (fun K hK => ?_)
        refine step_append_lies _ (by rfl) (.tmp 22) (.tmp 28) 22 rfl wH.heap.size 5 i0 (.int .u8 0) 1 1 Tryz.underlying22 hi0 hz0 hz1 hz2 rfl (by decide) (.slice oa (64 * j) c) (64 * j) (bcells (d.cat (firstOf m) j)) (by rfl) hO5 ⟨g4, off4, none⟩ bs.length c4 (bcells bs) (by rfl) (by rw [bcells_length, Nat.mul_one]) hn5 cells_u8 (by rw [hbl.out]; decide) (by rw [hbl.out]; unfold maxLen; omega) (by rw [hbl.out]; omega) (by omega) w4.heap.size rfl ?_
        intro gg cc w6 hown6 hgrow6 hat6 hlt6
        have K6 := Kept.of_grown hgrow6
        have hX6 := (hXr.grow hB).kept K6 (fun e => by have := (hO5.lt _ e).1; have := hX2.lt; omega)
        refine hK.out _ _ hX6 ?_
        clear hK
        simp only [Act.put, List.getElem_toArray, List.getElem_cons_zero, List.getElem_cons_succ, List.setIfInBounds_toArray, List.set_cons_zero, List.set_cons_succ]
        refine anyU_one (i := 8) (by kernel_rfl) rfl (fun K hK => ?_)
        go_simp
        refine hK.out _ _ hX6 ?_
        clear hK
        refine anyU_done (by kernel_rfl) ?_
        have hb6 : Below wH.heap.size wH w6 := (hb.trans (hB.mono hsH)).trans (K6.below (B := wH.heap.size) (by omega) (fun k hk e => by have := (hO5.lt _ e).1; omega))
        rw [← bcells_append, hbl.out] at hown6
        have hcat : d.cat (firstOf m) j ++ bs = d.cat (firstOf m) (j + 1) := by rw [hbs.out]; rfl
        rw [hcat, show 64 * j + 64 = 64 * (j + 1) by omega] at hown6
        rw [hbl.out, show 64 * j + 64 = 64 * (j + 1) by omega]
        go_wp2
        go_roundw
        case rel => exact ⟨j + 1, some ⟨gg, 0, none⟩, cc, rfl, by go_num, by omega, by omega, hown6, hb6⟩
        case measure => simp [intOf]; omega
      · have hd : ¬ ((64 : Int) * (j : Int) < (n : Int)) := by omega
        have hcl := DD.cat_len hf (f := firstOf m) (j := j) (by unfold firstOf; omega)
        have hcap := owns_capH hO
        have himg' : (d.cat (firstOf m) j).take n = img := by rw [himg.out]; exact DD.img_part hf hm hj (by omega)
        have hil : Hid (img.length = n) := by show _ = _; rw [himg.out]; exact DD.img_len hf hm (by omega)
        have hib : ∀ x, x ∈ img → x < 256 := by rw [himg.out]; exact DD.img_byte hf ho hm
        have hbt : BytesAt wr oa img := by
          rw [← himg']
          rw [← hcl] at hO
          exact (owns_bytes hO).takeH n
        have hHr := hHb.kept (Kept.of_below hb (fun _ => False)) (fun e => e)
        have hRr := hR2.grow hb
        have q0 : (0 : Int) ≤ (n : Int) := by omega
        have q1 : (n : Int) ≤ (c : Int) := by omega
        clear himg' hO hcl hcap
        go_upto_region 10 with (go_quiet (fail))
        by_cases t : wrap64 (sumN img : Int) = sum
        · have t' : (IntKind.i64.wrap (sumN img : Int) != sum) = false := by rw [← wrap64_eq, t]; simp
          have hsl2 : Hid (d.slotOf m = ⟨true, gen, (m : Int), img⟩) := hsl.out.trans (if_pos t)
          clear t
          have hB : Below wr.heap.size wr wr.drew := gdr (gre _)
          refine wp_regionU (fun u => HBox u H true gen (n : Int) sum) 99 (by kernel_rfl) (hHr.kept (Kept.of_below hB (fun _ => False)) (fun e => e)) (fun _ => ?_)
          refine anyU_take (i := 0) (v := ?_) rfl (by kernel_rfl) (by kernel_rfl) (by kernel_rfl) (by kernel_rfl) (fun _ _ _ h => h) (Or.inl ⟨by rfl, ?_⟩) (hHr.kept (Kept.of_below hB (fun _ => False)) (fun e => e)) ?_
          rotate_left
          · intro u hSu; (try dsimp only at hSu); go_simp <;> with_reducible rfl
          simp only [Act.put, List.getElem_toArray, List.getElem_cons_zero, List.setIfInBounds_toArray, List.set_cons_zero, List.set_cons_succ]
          refine anyU_take (i := 3) (v := ?_) rfl (by kernel_rfl) (by kernel_rfl) (by kernel_rfl) (by kernel_rfl) (fun _ _ _ h => h) (Or.inl ⟨by rfl, ?_⟩) (hHr.kept (Kept.of_below hB (fun _ => False)) (fun e => e)) ?_
          rotate_left
          · intro u hSu; (try dsimp only at hSu); go_simp <;> with_reducible rfl
          simp only [Act.put, List.getElem_toArray, List.getElem_cons_zero, List.getElem_cons_succ, List.setIfInBounds_toArray, List.set_cons_zero, List.set_cons_succ]
          refine anyU_take (i := 4) (v := ?_) rfl (by kernel_rfl) (by kernel_rfl) (by kernel_rfl) (by kernel_rfl) (fun _ _ _ h => h) (Or.inl ⟨by rfl, ?_⟩) (hHr.kept (Kept.of_below hB (fun _ => False)) (fun e => e)) ?_
          rotate_left
          · intro u hSu; obtain ⟨_, s0, s1, s2, s3⟩ := hSu; go_simp <;> with_reducible rfl
          simp only [Act.put, List.getElem_toArray, List.getElem_cons_zero, List.getElem_cons_succ, List.setIfInBounds_toArray, List.set_cons_zero, List.set_cons_succ]
          refine anyU_one (i := 1) (by kernel_rfl) rfl (fun K hK => ?_)
          go_simp
          refine (calls_argsS (l2sum_any oa img c _ (hbt.grow hB) (by rw [hil.out]; unfold maxLen; omega) hib) (by rw [hil.out])).mono ?_
          rintro e w3 ⟨rfl, hb3⟩
          have hB := gca hB hb3
          refine hK.out _ _ (hHr.kept (Kept.of_below hB (fun _ => False)) (fun e => e)) ?_
          clear hK
          refine anyU_one (i := 2) (by kernel_rfl) rfl (fun K hK => ?_)
          go_simp
          refine hK.out _ _ (hHr.kept (Kept.of_below hB (fun _ => False)) (fun e => e)) ?_
          clear hK
          refine anyU_one (i := 5) (by kernel_rfl) rfl (fun K hK => ?_)
          go_simp
          refine hK.out _ _ (hHr.kept (Kept.of_below hB (fun _ => False)) (fun e => e)) ?_
          clear hK
          refine anyU_done (by kernel_rfl) ?_
          have hRf := hRr.grow hB
          have hBf := gca (gca hA2 hb) hB
          obtain ⟨_, z0, z1, z2, z3, zf⟩ := id hRf
          have hH3 := hHr.kept (Kept.of_below hB (fun _ => False)) (fun e => e)
          have hb3t := hbt.grow hB
          go_upto_region 12 with fail
          have hB2 : Below w3.heap.size w3 w3.drew := gdr (gre _)
          refine wp_regionU (fun u => HBox u H true gen (n : Int) sum) 6 (by kernel_rfl) (hH3.kept (Kept.of_below hB2 (fun _ => False)) (fun e => e)) (fun _ => ?_)
          refine anyU_take (i := 0) (v := ?_) rfl (by kernel_rfl) (by kernel_rfl) (by kernel_rfl) (by kernel_rfl) (fun _ _ _ h => h) (Or.inl ⟨by rfl, ?_⟩) (hH3.kept (Kept.of_below hB2 (fun _ => False)) (fun e => e)) ?_
          rotate_left
          · intro u hSu; (try dsimp only at hSu); go_simp <;> with_reducible rfl
          simp only [Act.put, List.getElem_toArray, List.getElem_cons_zero, List.setIfInBounds_toArray, List.set_cons_zero, List.set_cons_succ]
          refine anyU_take (i := 1) (v := ?_) rfl (by kernel_rfl) (by kernel_rfl) (by kernel_rfl) (by kernel_rfl) (fun _ _ _ h => h) (Or.inl ⟨by rfl, ?_⟩) (hH3.kept (Kept.of_below hB2 (fun _ => False)) (fun e => e)) ?_
          rotate_left
          · intro u hSu; obtain ⟨_, s0, s1, s2, s3⟩ := hSu; go_simp <;> with_reducible rfl
          simp only [Act.put, List.getElem_toArray, List.getElem_cons_zero, List.getElem_cons_succ, List.setIfInBounds_toArray, List.set_cons_zero, List.set_cons_succ]
          refine anyU_take (i := 2) (v := ?_) rfl (by kernel_rfl) (by kernel_rfl) (by kernel_rfl) (by kernel_rfl) (fun _ _ _ h => h) (Or.inl ⟨by rfl, ?_⟩) (hH3.kept (Kept.of_below hB2 (fun _ => False)) (fun e => e)) ?_
          rotate_left
          · intro u hSu; (try dsimp only at hSu); go_simp <;> with_reducible rfl
          simp only [Act.put, List.getElem_toArray, List.getElem_cons_zero, List.getElem_cons_succ, List.setIfInBounds_toArray, List.set_cons_zero, List.set_cons_succ]
          refine anyU_take (i := 3) (v := ?_) rfl (by kernel_rfl) (by kernel_rfl) (by kernel_rfl) (by kernel_rfl) (fun _ _ _ h => h) (Or.inl ⟨by rfl, ?_⟩) (hH3.kept (Kept.of_below hB2 (fun _ => False)) (fun e => e)) ?_
          rotate_left
          · intro u hSu; (try dsimp only at hSu); go_simp <;> with_reducible rfl
          simp only [Act.put, List.getElem_toArray, List.getElem_cons_zero, List.getElem_cons_succ, List.setIfInBounds_toArray, List.set_cons_zero, List.set_cons_succ]
          refine anyU_one (i := 4) (by kernel_rfl) rfl (fun K hK => ?_)
          go_simp
          refine (calls_argsS (l2copy_any oa img c _ (by rw [hil.out]; omega) (hb3t.grow hB2)) (by rw [hil.out])).mono ?_
          rintro e w5 ⟨oa5, c5, rfl, hO5, hb5⟩
          have hB2 := gca hB2 hb5
          refine hK.out _ _ (hH3.kept (Kept.of_below hB2 (fun _ => False)) (fun e => e)) ?_
          clear hK
          refine anyU_one (i := 5) (by kernel_rfl) rfl (fun K hK => ?_)
          go_simp
          refine hK.out _ _ (hH3.kept (Kept.of_below hB2 (fun _ => False)) (fun e => e)) ?_
          clear hK
          have hRg := hRf.grow hB2
          obtain ⟨_, z0, z1, z2, z3, zf⟩ := id hRg
          refine anyU_last (by kernel_rfl) rfl (by kernel_rfl) (fun K hK => ?_)
          go_simp
          refine hK.out _ _ ?_
          clear hK
          have hBg := gca hBf hB2
          go_wp2
          obtain ⟨c0, c1, c2, c3, K⟩ := retV4 hRg (.bool true) (.int .i64 gen) (.int .i64 (m : Int)) (.slice oa5 img.length c5)
          refine bodyPost_ret (v := .agg #[.bool true, .int .i64 gen, .int .i64 (m : Int), .slice oa5 img.length c5]) (by simp [results, Tryz.results101, go_sem, c0, c1, c2, c3]) rfl ⟨oa5, c5, by rw [hsl2.out], (by show _ ≤ c5; rw [hsl2.out]; exact owns_capH hO5), ?_, fun g off e => (by have h5 := hO5.lt g (by rw [e]; rfl); have := hH3.lt; have : w3.drew.heap.size = w3.heap.size := rfl; omega), hBg.trans (K.below (B := w.heap.size) hBg.size (fun k hk e => by omega))⟩
          rw [hsl2.out]
          exact (owns_bytes hO5).keptH K (fun g off e hp => by
            have h5 := hO5.lt g (by rw [e]; rfl)
            have := hH3.lt
            have := hB.size
            have : w3.drew.heap.size = w3.heap.size := rfl
            omega)
        · have t' : (IntKind.i64.wrap (sumN img : Int) != sum) = true := by rw [← wrap64_eq]; simpa using t
          have hsl2 : Hid (d.slotOf m = noK) := hsl.out.trans (if_neg t)
          clear t
          have hB : Below wr.heap.size wr wr.drew := gdr (gre _)
          refine wp_regionU (fun u => HBox u H true gen (n : Int) sum) 99 (by kernel_rfl) (hHr.kept (Kept.of_below hB (fun _ => False)) (fun e => e)) (fun _ => ?_)
          refine anyU_take (i := 0) (v := ?_) rfl (by kernel_rfl) (by kernel_rfl) (by kernel_rfl) (by kernel_rfl) (fun _ _ _ h => h) (Or.inl ⟨by rfl, ?_⟩) (hHr.kept (Kept.of_below hB (fun _ => False)) (fun e => e)) ?_
          rotate_left
          · intro u hSu; (try dsimp only at hSu); go_simp <;> with_reducible rfl
          simp only [Act.put, List.getElem_toArray, List.getElem_cons_zero, List.setIfInBounds_toArray, List.set_cons_zero, List.set_cons_succ]
          refine anyU_take (i := 3) (v := ?_) rfl (by kernel_rfl) (by kernel_rfl) (by kernel_rfl) (by kernel_rfl) (fun _ _ _ h => h) (Or.inl ⟨by rfl, ?_⟩) (hHr.kept (Kept.of_below hB (fun _ => False)) (fun e => e)) ?_
          rotate_left
          · intro u hSu; (try dsimp only at hSu); go_simp <;> with_reducible rfl
          simp only [Act.put, List.getElem_toArray, List.getElem_cons_zero, List.getElem_cons_succ, List.setIfInBounds_toArray, List.set_cons_zero, List.set_cons_succ]
          refine anyU_take (i := 4) (v := ?_) rfl (by kernel_rfl) (by kernel_rfl) (by kernel_rfl) (by kernel_rfl) (fun _ _ _ h => h) (Or.inl ⟨by rfl, ?_⟩) (hHr.kept (Kept.of_below hB (fun _ => False)) (fun e => e)) ?_
          rotate_left
          · intro u hSu; obtain ⟨_, s0, s1, s2, s3⟩ := hSu; go_simp <;> with_reducible rfl
          simp only [Act.put, List.getElem_toArray, List.getElem_cons_zero, List.getElem_cons_succ, List.setIfInBounds_toArray, List.set_cons_zero, List.set_cons_succ]
          refine anyU_one (i := 1) (by kernel_rfl) rfl (fun K hK => ?_)
          go_simp
          refine (calls_argsS (l2sum_any oa img c _ (hbt.grow hB) (by rw [hil.out]; unfold maxLen; omega) hib) (by rw [hil.out])).mono ?_
          rintro e w3 ⟨rfl, hb3⟩
          have hB := gca hB hb3
          refine hK.out _ _ (hHr.kept (Kept.of_below hB (fun _ => False)) (fun e => e)) ?_
          clear hK
          refine anyU_one (i := 2) (by kernel_rfl) rfl (fun K hK => ?_)
          go_simp
          refine hK.out _ _ (hHr.kept (Kept.of_below hB (fun _ => False)) (fun e => e)) ?_
          clear hK
          refine anyU_one (i := 5) (by kernel_rfl) rfl (fun K hK => ?_)
          go_simp
          refine hK.out _ _ (hHr.kept (Kept.of_below hB (fun _ => False)) (fun e => e)) ?_
          clear hK
          refine anyU_done (by kernel_rfl) ?_
          have hRf := hRr.grow hB
          have hBf := gca (gca hA2 hb) hB
          obtain ⟨_, z0, z1, z2, z3, zf⟩ := id hRf
          go_upto_region 99 with fail
          obtain ⟨c0, c1, c2, c3, K⟩ := retV4 hRf (.bool false) (.int .i64 0) (.int .i64 0) (.slice none 0 0)
          exact bodyPost_ret (v := noK.val none 0) (by simp [results, Tryz.results101, go_sem, c0, c1, c2, c3, noK]) rfl (by rw [hsl2.out]; exact KPost.no (hBf.trans (K.below (B := w.heap.size) hBf.size (fun k hk e => by omega))))
  · rw [show d.slotOf m = noK from if_neg (fun e => by rw [hi] at e; cases e.1)]
    go_enter Tryz.func101, Tryz.ntmps101
    go_upto_region 99 with (go_at_call 133; refine (l4head_any d l m _ hf ho (ha.grow hA) (by omega)).mono ?_; rw [hi]; rintro e w1 ⟨rfl, hb1⟩; have hR1 := (hR0.grow hb1).grow (gal (gre _) (.cells #[.bool false, .int .i64 0, .int .i64 0, .int .i64 0] 65)); obtain ⟨_, z0, z1, z2, z3, zf⟩ := id hR1)
    obtain ⟨c0, c1, c2, c3, K⟩ := retV4 hR1 (.bool false) (.int .i64 0) (.int .i64 0) (.slice none 0 0)
    have hB := gal (gca hA hb1) (.cells #[.bool false, .int .i64 0, .int .i64 0, .int .i64 0] 65)
    exact bodyPost_ret (v := noK.val none 0) (by simp [results, Tryz.results101, go_sem, c0, c1, c2, c3, noK]) rfl (KPost.no (hB.trans (K.below (B := w.heap.size) hB.size (fun k hk e => by omega))))

end Go.Proofs.YtmdpmdmilgbfiaaGreatDoor
