import Derived.RangeFuncBox
import Derived.Laws.CopyRow
import Derived.Deep.AppendLies
import Derived.Test.YtmdpmdmilgbfiaaGreatDoorPartL
namespace Go.Proofs.YtmdpmdmilgbfiaaGreatDoor
open Go.RowKit
set_option maxRecDepth 100000
set_option maxHeartbeats 8000000
open Go.RowKit Go.Shelf
def preOps (s : Nat) (im : List Nat) (pre : List Nat) : List OP := (pre.zipIdx 0).map fun y => ⟨false, ((firstOf s + y.2 : Nat) : Int), blkOf im y.1⟩
theorem preOps_snoc (s : Nat) (im pre : List Nat) (x : Nat) : preOps s im (pre ++ [x]) = preOps s im pre ++ [⟨false, ((firstOf s + pre.length : Nat) : Int), blkOf im x⟩] := by
 simp [preOps, List.zipIdx_append]
theorem preOps_len (s : Nat) (im pre : List Nat) : (preOps s im pre).length = pre.length := by simp [preOps]
theorem preOps_range (s : Nat) (im : List Nat) : ∀ m, preOps s im (List.range m) = imgOps s im m
 | 0 => rfl
 | m + 1 => by rw [List.range_succ, preOps_snoc, preOps_range s im m, imgOps_succ, List.length_range]
def OI (w : World) (bV P7 P8 B1 B2 n₀ s : Nat) (im hb : List Nat) (oh : Option Addr) (pre : List Nat) (W : World) : Prop :=
 ∃ oa oc lo, Boxed W P8 52 (.slice oa lo.length oc) ∧ lo.map LO.x = preOps s im pre ∧ SO bV W oa oc lo ∧ Boxed W P7 3 (.int .i64 (s : Int)) ∧ MB W w.heap.size oh hb ∧ Below w.heap.size w W ∧ n₀ ≤ W.heap.size ∧ (∃ c, W.heap[B1]? = some (.cells c 22 (0, 0))) ∧ (∃ c, W.heap[B2]? = some (.cells c 3 (0, 0)))
theorem OI.own {w : World} {bV P7 P8 B1 B2 n₀ s : Nat} {im hb : List Nat} {oh : Option Addr} (hn : w.heap.size ≤ n₀) : OwnFrom n₀ (OI w bV P7 P8 B1 B2 n₀ s im hb oh) := by
 rintro pre A B row ⟨oa, oc, lo, h8, hlo, hS, h7, hM, hB, hz, ⟨d1, k1⟩, ⟨d2, k2⟩⟩ hg hrow
 have hK := Kept.of_grown hg
 have hne : ∀ z c t, A.heap[z]? = some (.cells c t (0, 0)) → row ≠ some z := fun z c t hz e => by
  obtain ⟨_, o, ho, hc⟩ := hrow z e
  rw [hz] at ho
  cases ho
  cases hc
 refine ⟨oa, oc, lo, h8.kept hg (fun e => hne P8 _ _ h8 e.symm), hlo, hS.kept hK (fun z e _ => ⟨fun ⟨c, hc⟩ => hne z _ _ hc e, fun ⟨c, hc⟩ => hne z _ _ hc e⟩), h7.kept hg (fun e => hne P7 _ _ h7 e.symm), hM.keptO hK (fun z _ ⟨c, hc⟩ e => hne z _ _ hc e), ?_, Nat.le_trans hz hg.size, ⟨d1, (hg.block B1 (Array.getElem?_eq_some_iff.1 k1).1 (fun e => hne B1 _ _ k1 e.symm)).trans k1⟩, ⟨d2, (hg.block B2 (Array.getElem?_eq_some_iff.1 k2).1 (fun e => hne B2 _ _ k2 e.symm)).trans k2⟩⟩
 exact hB.trans (hK.below (B := w.heap.size) hB.size (fun z hz2 e => by have := (hrow z e).1; omega))
theorem four_new (w : World) (a b c : Value) (t1 t2 t3 t4 : TypeId) :
  ((((w.alloc (.cells #[] t1)).alloc (.cells #[a] t2)).alloc (.cells #[b] t3)).alloc (.cells #[c] t4)).heap[w.heap.size]? = some (.cells #[] t1 (0, 0)) ∧
  Boxed ((((w.alloc (.cells #[] t1)).alloc (.cells #[a] t2)).alloc (.cells #[b] t3)).alloc (.cells #[c] t4)) (w.heap.size + 1) t2 a ∧
  Boxed ((((w.alloc (.cells #[] t1)).alloc (.cells #[a] t2)).alloc (.cells #[b] t3)).alloc (.cells #[c] t4)) (w.heap.size + 1 + 1) t3 b ∧
  Boxed ((((w.alloc (.cells #[] t1)).alloc (.cells #[a] t2)).alloc (.cells #[b] t3)).alloc (.cells #[c] t4)) (w.heap.size + 1 + 1 + 1) t4 c ∧
  ((((w.alloc (.cells #[] t1)).alloc (.cells #[a] t2)).alloc (.cells #[b] t3)).alloc (.cells #[c] t4)).heap.size = w.heap.size + 1 + 1 + 1 + 1 ∧
  Below w.heap.size w ((((w.alloc (.cells #[] t1)).alloc (.cells #[a] t2)).alloc (.cells #[b] t3)).alloc (.cells #[c] t4)) := by
 have e1 := World.alloc_heap_new w (.cells #[] t1)
 have h2 := Boxed.new (w.alloc (.cells #[] t1)) t2 a
 have h3 := Boxed.new ((w.alloc (.cells #[] t1)).alloc (.cells #[a] t2)) t3 b
 have h4 := Boxed.new (((w.alloc (.cells #[] t1)).alloc (.cells #[a] t2)).alloc (.cells #[b] t3)) t4 c
 simp only [World.size_alloc] at h2 h3 h4
 refine ⟨?_, (h2.alloc _).alloc _, h3.alloc _, h4, by simp, gal (gal (gal (gal (gre _) _) _) _) _⟩
 exact (Below.heap_alloc _ _ _ (by simp; omega)).trans ((Below.heap_alloc _ _ _ (by simp; omega)).trans ((Below.heap_alloc _ _ _ (by simp)).trans e1))
theorem SO.empty {w : World} {base g : Nat} (h : w.heap[g]? = some (.cells #[] 101 (0, 0))) (hb : base ≤ g) : SO base w (some ⟨g, 0, none⟩) 0 [] :=
 ⟨⟨rfl, Or.inr ⟨g, 0, #[], rfl, hb, h, Nat.le_refl _, Nat.zero_le _, rfl, rfl⟩⟩, fun y hy => (by cases hy), List.Pairwise.nil⟩
theorem KpC.putObj {n₀ : Nat} {q : Nat → Prop} (W : World) (l : Nat) (o' : Obj) (hl : n₀ ≤ l) : KpC n₀ q W (W.putObj l o') := (Kept.of_grown (grownBy_putObj' W l o')).mono (fun z _ e => Or.inr (by cases e; exact hl))
theorem keptPut (W : World) (l : Nat) (o' : Obj) : Kept (fun z => z = l) W (W.putObj l o') := (Kept.of_grown (grownBy_putObj' W l o')).mono (fun z _ e => by cases e; rfl)
theorem zrow_copy {w : World} {a : Nat} {cur : Array Value} (hc : w.heap[a]? = some (.cells cur 5 (0, 0))) (h : ZRow w a 64 []) (c : List Nat) (hl : c.length ≤ 64) :
  ZRow (w.setRow a (cur.toList.take 0 ++ bcells c ++ cur.toList.drop (0 + (bcells c).length)).toArray) a 64 c := by
 obtain ⟨_, c', hc', hs, hx⟩ := h
 rw [hc] at hc'
 obtain rfl : cur = c' := by simpa using hc'
 have e2 := bcells_length c
 refine ⟨hl, _, setRow_heap _ _ _ _ _ _ hc, ?_, fun i hi => ?_⟩
 · simp only [List.size_toArray, List.length_append, e2, List.length_drop, Array.length_toList, List.take_zero, List.length_nil]; omega
 ·
  rw [List.getElem?_toArray, List.take_zero, List.nil_append, Nat.zero_add, e2]
  by_cases h : i < c.length
  ·
   rw [List.getElem?_append_left (by omega)]
   exact bcells_get h
  ·
   rw [List.getElem?_append_right (by omega), e2, List.getElem?_drop, Array.getElem?_toList, show c.length + (i - c.length) = i by omega, hx i hi]
   show some (Value.int .u8 ((([] : List Nat)[i]! : Nat) : Int)) = some (Value.int .u8 ((c[i]! : Nat) : Int))
   rw [getElem!_neg c i h, getElem!_neg ([] : List Nat) i (by simp)]
theorem keptRow (w : World) (a : Nat) (c : Array Value) : Kept (fun k => k = a) w (w.setRow a c) := ⟨rfl, rfl, rfl, by simp, fun k _ hn => setRow_other _ _ _ _ hn⟩
theorem keepsFrom_of {p : Nat → Prop} {W W' : World} (B : Nat) (K : Kept p W W') (hp : ∀ z, p z → ∀ o, W.heap[z]? = some o → o.isCells = true) : KeepsFrom B W W' :=
 ⟨K.size, fun k o _ hk ho => (K.block k (Array.getElem?_eq_some_iff.1 hk).1 (fun e => by rw [hp k e o hk] at ho; cases ho)).trans hk⟩
theorem stepIn_append_own {F : Fence} {n : Nat} {P : Program} {o : Oper} {a : Act} {w : World} {K : Act → World → Prop} {Q : Exit → Act → World → Prop} {X : Prop} {ops : Array Oper} {y : Array Value}
  (hg : o.guard = none) (s x : Operand) (t : TypeId) (hop : o.op = Op.call { callee := Callee.builtin Builtin.append, args := #[s, x], argTypes := #[t, t] })
  (base : Nat) (e : TypeId) (i : TypeInfo) (z : Value) (size bytes : Nat) (h1 : P.underlying t = some (.slice e)) (h2 : P.info? e = some i) (h3 : i.zero = some z) (h4 : i.size = size) (h5 : i.bytes = bytes) (h6 : z.cells.size = size) (h7 : 0 < size)
  (v : Value) (k : Nat) (xs : List Value) (hs : a.eval s = v) (hown : w.ownsRow base e size v k xs) (ad : Addr) (m c : Nat) (news : List Value) (hx : a.eval x = .slice (some ad) m c) (hn : news.length = m * size)
  (hc : ∀ j u, news[j]? = some u → w.cell? (ad.add j) = some u) (h1c : ∀ u ∈ news, u.oneCell' = true) (b1 : k + m ≤ maxLen) (b2 : (k + m) * bytes ≤ 140737488355328) (b3 : base ≤ w.heap.size)
  (hK : ∀ v' w', w'.ownsRow base e size v' (k + m) (xs ++ news) → w.grownBy w' v.ownBlock → K (a.put o.dst v') w') :
  if Region.wanted o (yielded ops y) = true then Oper.wpIn F n P o a w K Q else X := by
 rw [if_pos (by simp [Region.wanted, hg])]
 obtain ⟨v', w', hrun, r1, r2, r3⟩ := run_append_own (P := P) w base t o.type e i z size bytes h1 h2 h3 h4 h5 h6 h7 v k xs hown ad m c news hn hc h1c b1 b2 b3
 unfold Oper.wpIn
 refine ⟨?_, ?_⟩
 · simp [Oper.about, hop, resolve, Target.leads, Sem.run_pure]
 ·
  rw [Oper.semAt_plain F _ _ (by rw [hop]; intro c hc'; cases hc')]
  simp [execOp, hop, resolve, invoke, builtin, hs, hx, hrun, Result.andThen]
  exact hK v' w' r1 r2
def oL (Bb s F : Nat) (oa : Option Addr) (oc n : Nat) (v : Nat → Value) : Nat → Prop
 | 0 => v 47 = .slice oa n oc
 | 1 => v 48 = .int .i64 (s : Int)
 | 2 => v 49 = .int .i64 ((firstOf s : Nat) : Int)
 | 3 => v 50 = .slice oa n oc
 | 4 => v 51 = .int .i64 (n : Int)
 | 5 => v 52 = .int .i64 (F : Int)
 | 6 => v 53 = .slice (some ⟨Bb, 0, none⟩) 64 64
 | 7 => v 54 = .agg #[.bool false, .int .i64 (F : Int), .slice (some ⟨Bb, 0, none⟩) 64 64]
 | _ => True
def updO (v : Nat → Value) (s : Nat) (x : Value) : Nat → Value := fun k => if k = s then x else v k
theorem updO_other (v : Nat → Value) {s k : Nat} (x : Value) (h : k ≠ s) : updO v s x k = v k := if_neg h
theorem oL_upd {Bb s F : Nat} {oa : Option Addr} {oc n : Nat} {v : Nat → Value} (t : Nat) (x : Value) : ∀ k, k + 47 ≠ t → oL Bb s F oa oc n v k → oL Bb s F oa oc n (updO v t x) k
 | 0, e, h | 1, e, h | 2, e, h | 3, e, h | 4, e, h | 5, e, h | 6, e, h | 7, e, h => by
  simp only [oL, updO_other v x e]
  exact h
 | _ + 8, _, _ => trivial
def ONew (Bb F : Nat) (v : Nat → Value) (u : World) : Prop := ∃ g, v 55 = .slice (some ⟨g, 0, none⟩) 1 1 ∧ u.heap[g]? = some (.cells #[.bool false, .int .i64 (F : Int), .slice (some ⟨Bb, 0, none⟩) 64 64] 101 (0, 0))
def ORow (W1 : World) (G0 P8 Bb F : Nat) (oa : Option Addr) (oc : Nat) (lo : List LO) (bl : List Nat) (v : Nat → Value) (g cc : Nat) (u : World) : Prop :=
 v 56 = .slice (some ⟨g, 0, none⟩) (lo.length + 1) cc ∧ SO G0 u (some ⟨g, 0, none⟩) cc (lo ++ [⟨⟨false, (F : Int), bl⟩, some ⟨Bb, 0, none⟩, 64⟩]) ∧ Kept (fun z => (Value.slice oa lo.length oc).ownBlock = some z ∨ z = P8) W1 u
structure OJ (W1 : World) (G0 P7 P8 Bb s F : Nat) (oa : Option Addr) (oc : Nat) (lo : List LO) (bl : List Nat) (D : Nat → Prop) (v : Nat → Value) (u : World) : Prop where
 pa : ¬ D 9 → Below W1.heap.size W1 u
 done : ∀ k, D k → oL Bb s F oa oc lo.length v k
 new : D 8 → ¬ D 9 → ONew Bb F v u
 app : D 9 → ¬ D 10 → ∃ g cc, ORow W1 G0 P8 Bb F oa oc lo bl v g cc u ∧ Boxed u P8 52 (.slice oa lo.length oc)
 fin : D 10 → ∃ g cc, ORow W1 G0 P8 Bb F oa oc lo bl v g cc u ∧ Boxed u P8 52 (.slice (some ⟨g, 0, none⟩) (lo.length + 1) cc)
theorem OJ.next {W1 : World} {G0 P7 P8 Bb s F : Nat} {oa : Option Addr} {oc : Nat} {lo : List LO} {bl : List Nat} {D : Nat → Prop} {v : Nat → Value} {u u' : World} (h : OJ W1 G0 P7 P8 Bb s F oa oc lo bl D v u) (i t : Nat) (x : Value) (ht : i + 47 = t) (hi : i < 8) (n9 : ¬ D 9) (n10 : ¬ D 10) (hB : Below u.heap.size u u') (hx : oL Bb s F oa oc lo.length (updO v t x) i) : OJ W1 G0 P7 P8 Bb s F oa oc lo bl (fun j => j = i ∨ D j) (updO v t x) u' := by
 have hpa := h.pa n9
 refine ⟨fun _ => hpa.trans (hB.mono hpa.size), fun k hk => ?_, fun h8 _ => ?_, fun h9 => absurd (h9.resolve_left (by omega)) n9, fun h10 => absurd (h10.resolve_left (by omega)) n10⟩
 ·
  by_cases e : k = i
  · subst e; exact hx
  · exact oL_upd t x k (by omega) (h.done k (hk.resolve_left e))
 ·
  obtain ⟨g, h1, h2⟩ := h.new (h8.resolve_left (by omega)) n9
  exact ⟨g, by rw [updO_other v x (by omega)]; exact h1, (hB.block g (Array.getElem?_eq_some_iff.1 h2).1).trans h2⟩
theorem anyU_done {P : Program} {ops : Array Oper} {Q : Exit → Act → World → Prop} {md : Region.Mode} {S : World → Prop} {lst : Nat} {fuel : Nat} {listed : Array Bool} {a : Act} {w : World} (hd : Region.ready md ops listed = []) (hQ : Q .normal a w) : anyU P md ops Q S lst fuel listed a w := by
 cases fuel with
 | zero => exact ⟨hd, hQ⟩
 | succ f => exact ⟨fun _ => hQ, fun i hi => by rw [hd] at hi; cases hi⟩
structure V4 (w : World) (R : Nat) (a b c d : Value) : Prop where
 lt : R < w.heap.size
 c0 : w.cell? ⟨R, 0, none⟩ = some a
 c1 : w.cell? ⟨R, 1, none⟩ = some b
 c2 : w.cell? ⟨R, 2, none⟩ = some c
 c3 : w.cell? ⟨R, 3, none⟩ = some d
 f : ∀ o, w.frozen? ⟨R, o, none⟩ = false
theorem V4.kept {p : Nat → Prop} {w w' : World} {R : Nat} {a b c d : Value} (h : V4 w R a b c d) (k : Kept p w w') (hn : ¬ p R) : V4 w' R a b c d :=
 ⟨Nat.lt_of_lt_of_le h.lt k.size, k.cell h.c0 hn, k.cell h.c1 hn, k.cell h.c2 hn, k.cell h.c3 hn, fun o => (World.frozen?_of_block (w := w) (a := ⟨R, o, none⟩) (k.block R h.lt hn)).trans (h.f o)⟩
theorem V4.grow {w w' : World} {R : Nat} {a b c d : Value} (h : V4 w R a b c d) (k : Below w.heap.size w w') : V4 w' R a b c d := h.kept (Kept.of_below k (fun _ => False)) (fun e => e)
theorem V4.new_at (w : World) (a b c d : Value) (t : TypeId) (R : Nat) (hR : R = w.heap.size) : V4 (w.alloc (.cells #[a, b, c, d] t)) R a b c d := by
 subst hR
 exact ⟨by simp, by simp, by simp, by simp, by simp, fun o => by simp⟩
theorem retV4 {w : World} {R : Nat} {a b c d : Value} (hv : V4 w R a b c d) (A B C D : Value) :
  (w.setCell ⟨R, 0, none⟩ A).cell? ⟨R, 0, none⟩ = some A ∧ ((w.setCell ⟨R, 0, none⟩ A).setCell ⟨R, 1, none⟩ B).cell? ⟨R, 1, none⟩ = some B ∧ (((w.setCell ⟨R, 0, none⟩ A).setCell ⟨R, 1, none⟩ B).setCell ⟨R, 2, none⟩ C).cell? ⟨R, 2, none⟩ = some C ∧ ((((w.setCell ⟨R, 0, none⟩ A).setCell ⟨R, 1, none⟩ B).setCell ⟨R, 2, none⟩ C).setCell ⟨R, 3, none⟩ D).cell? ⟨R, 3, none⟩ = some D ∧
   Kept (fun b => b = R) w ((((w.setCell ⟨R, 0, none⟩ A).setCell ⟨R, 1, none⟩ B).setCell ⟨R, 2, none⟩ C).setCell ⟨R, 3, none⟩ D) := by
 refine ⟨World.cell?_setCell_same _ _ _ hv.c0, World.cell?_setCell_same _ _ _ ((World.cell?_setCell_other _ _ _ _ (by simp)).trans hv.c1), World.cell?_setCell_same _ _ _ (((World.cell?_setCell_other _ _ _ _ (by simp)).trans (World.cell?_setCell_other _ _ _ _ (by simp))).trans hv.c2), World.cell?_setCell_same _ _ _ ((((World.cell?_setCell_other _ _ _ _ (by simp)).trans (World.cell?_setCell_other _ _ _ _ (by simp))).trans (World.cell?_setCell_other _ _ _ _ (by simp))).trans hv.c3), ?_⟩
 exact ((((Kept.refl (fun b => b = R) w).set (a := ⟨R, 0, none⟩) (fun _ => rfl) A).set (a := ⟨R, 1, none⟩) (fun _ => rfl) B).set (a := ⟨R, 2, none⟩) (fun _ => rfl) C).set (a := ⟨R, 3, none⟩) (fun _ => rfl) D
theorem add_plainH (g off j : Nat) : Addr.add ⟨g, off, none⟩ j = ⟨g, off + j, none⟩ := by simp [Addr.add]
theorem bytes_news {w : World} {g off : Nat} {bs : List Nat} (h : BytesAt w (some ⟨g, off, none⟩) bs) : ∀ j u, (bcells bs)[j]? = some u → w.cell? (Addr.add ⟨g, off, none⟩ j) = some u := fun j u hu => by
 have hj : j < bs.length := by
  have := (List.getElem?_eq_some_iff.1 hu).1
  rwa [bcells_length] at this
 obtain ⟨b', off', e, hc⟩ := h j hj
 injection e with e
 injection e with e1 e2
 subst e1
 subst e2
 rw [bcells_get hj] at hu
 injection hu with hu
 rw [← hu, add_plainH]
 exact hc
theorem bcells_append (a b : List Nat) : bcells (a ++ b) = bcells a ++ bcells b := by simp [bcells]
theorem bytes_some {w : World} {oa : Option Addr} {bs : List Nat} (h : BytesAt w oa bs) (hl : 0 < bs.length) : ∃ g off, oa = some ⟨g, off, none⟩ ∧ g < w.heap.size := by
 obtain ⟨b, off, e, hc⟩ := h 0 hl
 exact ⟨b, off, e, World.block_lt_of_cell? _ _ hc⟩
theorem ownsRow_nilH (w : World) (base : Nat) (e : TypeId) : w.ownsRow base e 1 (.slice none 0 0) 0 (bcells []) := ⟨rfl, Or.inl ⟨rfl, rfl⟩⟩
def KPost (k : KK) (w : World) (e : Ending) (w' : World) : Prop := ∃ oa c, e = .returned (k.val oa c) ∧ Hid (k.bytes.length ≤ c) ∧ BytesAt w' oa k.bytes ∧ (∀ g off, oa = some ⟨g, off, none⟩ → w.heap.size ≤ g) ∧ Below w.heap.size w w'
theorem KPost.no {w w' : World} (h : Below w.heap.size w w') : KPost noK w (.returned (.agg #[.bool false, .int .i64 0, .int .i64 0, .slice none 0 0])) w' := ⟨none, 0, rfl, Nat.le_refl _, fun i hi => absurd hi (Nat.not_lt_zero _), fun _ _ e => (by cases e), h⟩
theorem BytesAt.keptH {p : Nat → Prop} {w w' : World} {a : Option Addr} {bs : List Nat} (h : BytesAt w a bs) (k : Kept p w w') (hn : ∀ g off, a = some ⟨g, off, none⟩ → ¬ p g) : BytesAt w' a bs := fun i hi => by
 obtain ⟨b, off, ha, hc⟩ := h i hi
 exact ⟨b, off, ha, k.cell hc (hn b off ha)⟩
theorem BytesAt.takeH {w : World} {oa : Option Addr} {xs : List Nat} (h : BytesAt w oa xs) (n : Nat) : BytesAt w oa (xs.take n) := fun i hi => by
 have h1 : i < n ∧ i < xs.length := by rw [List.length_take] at hi; omega
 obtain ⟨b, off, e, hc⟩ := h i h1.2
 refine ⟨b, off, e, ?_⟩
 rw [getElem!_pos _ i hi, List.getElem_take, ← getElem!_pos xs i h1.2]
 exact hc
theorem calls_argsS {P : Program} {f : Nat} {a b : Array Value} {w : World} {Q : Ending → World → Prop} (h : Calls P f a w Q) (e : a = b) : Calls P f b w Q := by subst e; exact h
theorem l4first_any (m : Nat) (w : World) (hm : m < 2) : Calls Tryz.prog 111 #[.int .i64 (m : Int)] w fun e w' => e = .returned (.int .i64 (firstOf m : Nat)) ∧ Below w.heap.size w w' := by
 go_enter Tryz.func111, Tryz.ntmps111
 go_wp2
 go_ret
 exact ⟨congrArg (fun z => Ending.returned (.int .i64 z)) (by simp only [firstOf]; first | omega | (unfold wrap64; omega)), gre _⟩
theorem l4image_any (d : DD) (l : DL) (m : Nat) (w : World) (hf : d.Fit) (ho : d.Ok) (ha : DAt w l d) (hm : m < 2) :
  Calls Tryz.prog 101 #[d.val l, .int .i64 (m : Int)] w (KPost (d.slotOf m) w) := by
 have hA := gal (gal (gre w) (.cells #[.slice l.ba d.blocks.length l.bc, .slice l.wa d.waiting.length l.wc] 46)) (.cells #[.bool false, .int .i64 0, .int .i64 0, .slice none 0 0] 62)
 have hX0 := (DBox.new w d l 46).grow (gal (gre _) (.cells #[.bool false, .int .i64 0, .int .i64 0, .slice none 0 0] 62))
 have hR0 := V4.new_at (w.alloc (.cells #[.slice l.ba d.blocks.length l.bc, .slice l.wa d.waiting.length l.wc] 46)) (.bool false) (.int .i64 0) (.int .i64 0) (.slice none 0 0) 62 (w.heap.size + 1) (by simp)
 obtain ⟨h, hh⟩ := hid_ex (headOf (d.rd m))
 rcases headOf_cases (d.rd m) with hi | hi
 ·
  rw [← hh.out] at hi
  obtain ⟨ok, gen, len, sum⟩ := h
  obtain ⟨rfl, hrng, hsum, heq⟩ := hi
  have hr := rng_i64 hrng
  simp only at hr
  obtain ⟨n, rfl⟩ : ∃ n : Nat, len = (n : Int) := ⟨len.toNat, by omega⟩
  clear hrng heq
  obtain ⟨img, himg⟩ := hid_ex (d.img m n)
  have hsl : Hid (d.slotOf m = if wrap64 (sumN img : Int) = sum then ⟨true, gen, (m : Int), img⟩ else noK) := by
   show _ = _
   unfold DD.slotOf
   rw [← hh.out, himg.out]
   simp
  obtain ⟨i0, hi0, hz0, hz1, hz2⟩ := info_parts info_u8
  go_enter Tryz.func101, Tryz.ntmps101
  go_wp2_with (go_at_call 133; refine (l4head_any d l m _ hf ho (ha.grow hA) (by omega)).mono ?_; rw [← hh.out]; rintro e w1 ⟨rfl, hb1⟩)
  have hHb := HBox.new w1 true gen (n : Int) sum 65
  have hb2 := gal hb1 (.cells #[.bool true, .int .i64 gen, .int .i64 (n : Int), .int .i64 sum] 65)
  have hX2 := hX0.grow hb2
  have hR2 := hR0.grow hb2
  have hA2 := gca hA hb2
  have hRl := (hR0.grow hb1).lt
  generalize w1.alloc (.cells #[.bool true, .int .i64 gen, .int .i64 (n : Int), .int .i64 sum] 65) = wH at hHb hb2 hX2 hR2 hA2 ⊢
  generalize w1.heap.size = H at hHb hRl ⊢
  clear hb1 hb2 hX0 hR0 hA
  have hHl := hHb.lt
  go_loopw [6, 7] (fun a k wr => ∃ (j : Nat) (oa : Option Addr) (c : Nat), a = .slice oa (64 * j) c ∧ k = .int .i64 (j : Int) ∧ j ≤ 64 ∧ 64 * j < n + 64 ∧ wr.ownsRow wH.heap.size 5 1 (.slice oa (64 * j) c) (64 * j) (bcells (d.cat (firstOf m) j)) ∧ Below wH.heap.size wH wr) (fun _ k _ => 64 - (intOf k).toNat)
  case atStart => exact ⟨0, none, 0, rfl, rfl, by omega, by omega, ownsRow_nilH _ _ _, gre _⟩
  case round =>
   obtain ⟨j, oa, c, rfl, rfl, hj, hjn, hO, hb⟩ := hrel
   obtain ⟨_, p0, p1, p2, p3⟩ := hHb.kept (Kept.of_below hb (fun _ => False)) (fun e => e)
   have hXr := hX2.grow hb
   obtain ⟨_, z0, z1, z2, z3, zf⟩ := hR2.grow hb
   by_cases hlt : 64 * j < n
   ·
    have hd : ((64 * j : Nat) : Int) < (n : Int) := by omega
    have hd2 : (64 : Int) * (j : Int) < (n : Int) := by omega
    go_wp2_with (go_quiet (fail))
    have hB : Below wr.heap.size wr wr.drew := gdr (gre _)
    refine wp_regionU (fun u => DBox u w.heap.size d l) 99 (by kernel_rfl) (hXr.grow hB) (fun _ => ?_)
    refine anyU_tk (i := 0) rfl (hXr.grow hB) (fun u hSu => by (try dsimp only at hSu); go_simp <;> with_reducible rfl) ?_
    refine anyU_tk (i := 1) rfl (hXr.grow hB) (fun u hSu => by obtain ⟨_, s0, s1⟩ := hSu; go_simp <;> with_reducible rfl) ?_
    refine anyU_tk (i := 2) rfl (hXr.grow hB) (fun u hSu => by (try dsimp only at hSu); go_simp <;> with_reducible rfl) ?_
    refine anyU_tk (i := 4) rfl (hXr.grow hB) (fun u hSu => by (try dsimp only at hSu); go_simp <;> with_reducible rfl) ?_
    simp only [Act.put, List.getElem_toArray, List.getElem_cons_zero, List.getElem_cons_succ, List.setIfInBounds_toArray, List.set_cons_zero, List.set_cons_succ]
    refine anyU_one (i := 3) (by kernel_rfl) rfl (fun K hK => ?_)
    go_simp
    refine (l4first_any m _ hm).mono ?_
    rintro e w3 ⟨rfl, hb3⟩
    have hB := gca hB hb3
    refine hK.out _ _ (hXr.grow hB) ?_
    clear hK
    refine anyU_one (i := 5) (by kernel_rfl) rfl (fun K hK => ?_)
    go_simp
    refine hK.out _ _ (hXr.grow hB) ?_
    clear hK
    have hrd := DD.rd_len hf (m := firstOf m + j) (by unfold firstOf; omega)
    obtain ⟨bs, hbs⟩ := hid_ex (d.rd (firstOf m + j))
    have hwr : IntKind.i64.wrap ((firstOf m : Nat) + (j : Int)) = ((firstOf m + j : Nat) : Int) := by rw [IntKind.wrap_i64]; unfold firstOf; omega
    have hbl : Hid (bs.length = 64) := by show _ = _; rw [hbs.out]; exact hrd
    refine anyU_one (i := 6) (by kernel_rfl) rfl (fun K hK => ?_)
    go_simp
    refine (calls_argsS (l3read_own d l (firstOf m + j) w3 hf (ha.grow (gca (gca hA2 hb) hB)) (by unfold firstOf; omega)) (by first | (rw [Int.natCast_add]; done) | (rw [Int.natCast_add]; rfl) | rw [hwr])).mono ?_
    rw [show readN d.blocks d.waiting ((firstOf m + j : Nat) : Int) d.waiting.length = bs from hbs.out.symm]
    rintro e w4 ⟨oa4, c4, rfl, hO4, hb4⟩
    have hB := gca hB hb4
    refine hK.out _ _ (hXr.grow hB) ?_
    clear hK
    have hO5 := (Kept.of_below hB (fun _ => False)).owns hO (fun _ _ e => e)
    obtain ⟨g4, off4, rfl, hg4⟩ := bytes_some (owns_bytes hO4) (by rw [hbl.out]; decide)
    have hn5 := bytes_news (owns_bytes hO4)
    have hs5 := hB.size
    have hsH := hb.size
    refine anyU_one (i := 7) (by kernel_rfl) rfl (fun K hK => ?_)
    refine step_append_lies _ (by rfl) (.tmp 22) (.tmp 28) 22 rfl wH.heap.size 5 i0 (.int .u8 0) 1 1 Tryz.underlying22 hi0 hz0 hz1 hz2 rfl (by decide) (.slice oa (64 * j) c) (64 * j) (bcells (d.cat (firstOf m) j)) (by rfl) hO5 ⟨g4, off4, none⟩ bs.length c4 (bcells bs) (by rfl) (by rw [bcells_length, Nat.mul_one]) hn5 cells_u8 (by rw [hbl.out]; decide) (by rw [hbl.out]; unfold maxLen; omega) (by rw [hbl.out]; omega) (by omega) w4.heap.size rfl ?_
    intro gg cc w6 hown6 hgrow6 hat6 hlt6
    have K6 := Kept.of_grown hgrow6
    have hX6 := (hXr.grow hB).kept K6 (fun e => by have := (hO5.lt _ e).1; have := hX2.lt; omega)
    refine hK.out _ _ hX6 ?_
    clear hK
    simp only [Act.put, List.getElem_toArray, List.getElem_cons_zero, List.getElem_cons_succ, List.setIfInBounds_toArray, List.set_cons_zero, List.set_cons_succ]
    refine anyU_one (i := 8) (by kernel_rfl) rfl (fun K hK => ?_)
    go_simp
    refine hK.out _ _ hX6 ?_
    clear hK
    refine anyU_done (by kernel_rfl) ?_
    have hb6 : Below wH.heap.size wH w6 := (hb.trans (hB.mono hsH)).trans (K6.below (B := wH.heap.size) (by omega) (fun k hk e => by have := (hO5.lt _ e).1; omega))
    rw [← bcells_append, hbl.out] at hown6
    have hcat : d.cat (firstOf m) j ++ bs = d.cat (firstOf m) (j + 1) := by rw [hbs.out]; rfl
    rw [hcat, show 64 * j + 64 = 64 * (j + 1) by omega] at hown6
    rw [hbl.out, show 64 * j + 64 = 64 * (j + 1) by omega]
    go_wp2
    go_roundw
    case rel => exact ⟨j + 1, some ⟨gg, 0, none⟩, cc, rfl, by go_num, by omega, by omega, hown6, hb6⟩
    case measure => simp [intOf]; omega
   ·
    have hd : ¬ ((64 : Int) * (j : Int) < (n : Int)) := by omega
    have hcl := DD.cat_len hf (f := firstOf m) (j := j) (by unfold firstOf; omega)
    have hcap := owns_capH hO
    have himg' : (d.cat (firstOf m) j).take n = img := by rw [himg.out]; exact DD.img_part hf hm hj (by omega)
    have hil : Hid (img.length = n) := by show _ = _; rw [himg.out]; exact DD.img_len hf hm (by omega)
    have hib : ∀ x, x ∈ img → x < 256 := by rw [himg.out]; exact DD.img_byte hf ho hm
    have hbt : BytesAt wr oa img := by
     rw [← himg']
     rw [← hcl] at hO
     exact (owns_bytes hO).takeH n
    have hHr := hHb.kept (Kept.of_below hb (fun _ => False)) (fun e => e)
    have hRr := hR2.grow hb
    have q0 : (0 : Int) ≤ (n : Int) := by omega
    have q1 : (n : Int) ≤ (c : Int) := by omega
    clear himg' hO hcl hcap
    go_upto_region 10 with (go_quiet (fail))
    by_cases t : wrap64 (sumN img : Int) = sum
    ·
     have t' : (IntKind.i64.wrap (sumN img : Int) != sum) = false := by rw [← wrap64_eq, t]; simp
     have hsl2 : Hid (d.slotOf m = ⟨true, gen, (m : Int), img⟩) := hsl.out.trans (if_pos t)
     clear t
     have hB : Below wr.heap.size wr wr.drew := gdr (gre _)
     refine wp_regionU (fun u => HBox u H true gen (n : Int) sum) 99 (by kernel_rfl) (hHr.kept (Kept.of_below hB (fun _ => False)) (fun e => e)) (fun _ => ?_)
     refine anyU_tk (i := 0) rfl (hHr.kept (Kept.of_below hB (fun _ => False)) (fun e => e)) (fun u hSu => by (try dsimp only at hSu); go_simp <;> with_reducible rfl) ?_
     refine anyU_tk (i := 3) rfl (hHr.kept (Kept.of_below hB (fun _ => False)) (fun e => e)) (fun u hSu => by (try dsimp only at hSu); go_simp <;> with_reducible rfl) ?_
     refine anyU_tk (i := 4) rfl (hHr.kept (Kept.of_below hB (fun _ => False)) (fun e => e)) (fun u hSu => by obtain ⟨_, s0, s1, s2, s3⟩ := hSu; go_simp <;> with_reducible rfl) ?_
     simp only [Act.put, List.getElem_toArray, List.getElem_cons_zero, List.getElem_cons_succ, List.setIfInBounds_toArray, List.set_cons_zero, List.set_cons_succ]
     refine anyU_one (i := 1) (by kernel_rfl) rfl (fun K hK => ?_)
     go_simp
     refine (calls_argsS (l2sum_any oa img c _ (hbt.grow hB) (by rw [hil.out]; unfold maxLen; omega) hib) (by rw [hil.out])).mono ?_
     rintro e w3 ⟨rfl, hb3⟩
     have hB := gca hB hb3
     refine hK.out _ _ (hHr.kept (Kept.of_below hB (fun _ => False)) (fun e => e)) ?_
     clear hK
     refine anyU_one (i := 2) (by kernel_rfl) rfl (fun K hK => ?_)
     go_simp
     refine hK.out _ _ (hHr.kept (Kept.of_below hB (fun _ => False)) (fun e => e)) ?_
     clear hK
     refine anyU_one (i := 5) (by kernel_rfl) rfl (fun K hK => ?_)
     go_simp
     refine hK.out _ _ (hHr.kept (Kept.of_below hB (fun _ => False)) (fun e => e)) ?_
     clear hK
     refine anyU_done (by kernel_rfl) ?_
     have hRf := hRr.grow hB
     have hBf := gca (gca hA2 hb) hB
     obtain ⟨_, z0, z1, z2, z3, zf⟩ := id hRf
     have hH3 := hHr.kept (Kept.of_below hB (fun _ => False)) (fun e => e)
     have hb3t := hbt.grow hB
     go_upto_region 12 with fail
     have hB2 : Below w3.heap.size w3 w3.drew := gdr (gre _)
     refine wp_regionU (fun u => HBox u H true gen (n : Int) sum) 6 (by kernel_rfl) (hH3.kept (Kept.of_below hB2 (fun _ => False)) (fun e => e)) (fun _ => ?_)
     refine anyU_tk (i := 0) rfl (hH3.kept (Kept.of_below hB2 (fun _ => False)) (fun e => e)) (fun u hSu => by (try dsimp only at hSu); go_simp <;> with_reducible rfl) ?_
     refine anyU_tk (i := 1) rfl (hH3.kept (Kept.of_below hB2 (fun _ => False)) (fun e => e)) (fun u hSu => by obtain ⟨_, s0, s1, s2, s3⟩ := hSu; go_simp <;> with_reducible rfl) ?_
     refine anyU_tk (i := 2) rfl (hH3.kept (Kept.of_below hB2 (fun _ => False)) (fun e => e)) (fun u hSu => by (try dsimp only at hSu); go_simp <;> with_reducible rfl) ?_
     refine anyU_tk (i := 3) rfl (hH3.kept (Kept.of_below hB2 (fun _ => False)) (fun e => e)) (fun u hSu => by (try dsimp only at hSu); go_simp <;> with_reducible rfl) ?_
     simp only [Act.put, List.getElem_toArray, List.getElem_cons_zero, List.getElem_cons_succ, List.setIfInBounds_toArray, List.set_cons_zero, List.set_cons_succ]
     refine anyU_one (i := 4) (by kernel_rfl) rfl (fun K hK => ?_)
     go_simp
     refine (calls_argsS (l2copy_any oa img c _ (by rw [hil.out]; omega) (hb3t.grow hB2)) (by rw [hil.out])).mono ?_
     rintro e w5 ⟨oa5, c5, rfl, hO5, hb5⟩
     have hB2 := gca hB2 hb5
     refine hK.out _ _ (hH3.kept (Kept.of_below hB2 (fun _ => False)) (fun e => e)) ?_
     clear hK
     refine anyU_one (i := 5) (by kernel_rfl) rfl (fun K hK => ?_)
     go_simp
     refine hK.out _ _ (hH3.kept (Kept.of_below hB2 (fun _ => False)) (fun e => e)) ?_
     clear hK
     have hRg := hRf.grow hB2
     obtain ⟨_, z0, z1, z2, z3, zf⟩ := id hRg
     refine anyU_last (by kernel_rfl) rfl (by kernel_rfl) (fun K hK => ?_)
     go_simp
     refine hK.out _ _ ?_
     clear hK
     have hBg := gca hBf hB2
     go_wp2
     obtain ⟨c0, c1, c2, c3, K⟩ := retV4 hRg (.bool true) (.int .i64 gen) (.int .i64 (m : Int)) (.slice oa5 img.length c5)
     refine bodyPost_ret (v := .agg #[.bool true, .int .i64 gen, .int .i64 (m : Int), .slice oa5 img.length c5]) (by simp [results, Tryz.results101, go_sem, c0, c1, c2, c3]) rfl ⟨oa5, c5, by rw [hsl2.out], (by show _ ≤ c5; rw [hsl2.out]; exact owns_capH hO5), ?_, fun g off e => (by have h5 := hO5.lt g (by rw [e]; rfl); have := hH3.lt; have : w3.drew.heap.size = w3.heap.size := rfl; omega), hBg.trans (K.below (B := w.heap.size) hBg.size (fun k hk e => by omega))⟩
     rw [hsl2.out]
     exact (owns_bytes hO5).keptH K (fun g off e hp => by
      have h5 := hO5.lt g (by rw [e]; rfl)
      have := hH3.lt
      have := hB.size
      have : w3.drew.heap.size = w3.heap.size := rfl
      omega)
    ·
     have t' : (IntKind.i64.wrap (sumN img : Int) != sum) = true := by rw [← wrap64_eq]; simpa using t
     have hsl2 : Hid (d.slotOf m = noK) := hsl.out.trans (if_neg t)
     clear t
     have hB : Below wr.heap.size wr wr.drew := gdr (gre _)
     refine wp_regionU (fun u => HBox u H true gen (n : Int) sum) 99 (by kernel_rfl) (hHr.kept (Kept.of_below hB (fun _ => False)) (fun e => e)) (fun _ => ?_)
     refine anyU_tk (i := 0) rfl (hHr.kept (Kept.of_below hB (fun _ => False)) (fun e => e)) (fun u hSu => by (try dsimp only at hSu); go_simp <;> with_reducible rfl) ?_
     refine anyU_tk (i := 3) rfl (hHr.kept (Kept.of_below hB (fun _ => False)) (fun e => e)) (fun u hSu => by (try dsimp only at hSu); go_simp <;> with_reducible rfl) ?_
     refine anyU_tk (i := 4) rfl (hHr.kept (Kept.of_below hB (fun _ => False)) (fun e => e)) (fun u hSu => by obtain ⟨_, s0, s1, s2, s3⟩ := hSu; go_simp <;> with_reducible rfl) ?_
     simp only [Act.put, List.getElem_toArray, List.getElem_cons_zero, List.getElem_cons_succ, List.setIfInBounds_toArray, List.set_cons_zero, List.set_cons_succ]
     refine anyU_one (i := 1) (by kernel_rfl) rfl (fun K hK => ?_)
     go_simp
     refine (calls_argsS (l2sum_any oa img c _ (hbt.grow hB) (by rw [hil.out]; unfold maxLen; omega) hib) (by rw [hil.out])).mono ?_
     rintro e w3 ⟨rfl, hb3⟩
     have hB := gca hB hb3
     refine hK.out _ _ (hHr.kept (Kept.of_below hB (fun _ => False)) (fun e => e)) ?_
     clear hK
     refine anyU_one (i := 2) (by kernel_rfl) rfl (fun K hK => ?_)
     go_simp
     refine hK.out _ _ (hHr.kept (Kept.of_below hB (fun _ => False)) (fun e => e)) ?_
     clear hK
     refine anyU_one (i := 5) (by kernel_rfl) rfl (fun K hK => ?_)
     go_simp
     refine hK.out _ _ (hHr.kept (Kept.of_below hB (fun _ => False)) (fun e => e)) ?_
     clear hK
     refine anyU_done (by kernel_rfl) ?_
     have hRf := hRr.grow hB
     have hBf := gca (gca hA2 hb) hB
     obtain ⟨_, z0, z1, z2, z3, zf⟩ := id hRf
     go_upto_region 99 with fail
     obtain ⟨c0, c1, c2, c3, K⟩ := retV4 hRf (.bool false) (.int .i64 0) (.int .i64 0) (.slice none 0 0)
     exact bodyPost_ret (v := noK.val none 0) (by simp [results, Tryz.results101, go_sem, c0, c1, c2, c3, noK]) rfl (by rw [hsl2.out]; exact KPost.no (hBf.trans (K.below (B := w.heap.size) hBf.size (fun k hk e => by omega))))
 ·
  rw [show d.slotOf m = noK from if_neg (fun e => by rw [hi] at e; cases e.1)]
  go_enter Tryz.func101, Tryz.ntmps101
  go_upto_region 99 with (go_at_call 133; refine (l4head_any d l m _ hf ho (ha.grow hA) (by omega)).mono ?_; rw [hi]; rintro e w1 ⟨rfl, hb1⟩; have hR1 := (hR0.grow hb1).grow (gal (gre _) (.cells #[.bool false, .int .i64 0, .int .i64 0, .int .i64 0] 65)); obtain ⟨_, z0, z1, z2, z3, zf⟩ := id hR1)
  obtain ⟨c0, c1, c2, c3, K⟩ := retV4 hR1 (.bool false) (.int .i64 0) (.int .i64 0) (.slice none 0 0)
  have hB := gal (gca hA hb1) (.cells #[.bool false, .int .i64 0, .int .i64 0, .int .i64 0] 65)
  exact bodyPost_ret (v := noK.val none 0) (by simp [results, Tryz.results101, go_sem, c0, c1, c2, c3, noK]) rfl (KPost.no (hB.trans (K.below (B := w.heap.size) hB.size (fun k hk e => by omega))))
theorem l4newest_any (d : DD) (l : DL) (w : World) (hf : d.Fit) (ho : d.Ok) (ha : DAt w l d) :
    Calls Tryz.prog 62 #[d.val l] w (KPost d.newestOf w) := by
  have hA := gal (gal (gre w) (.cells #[.slice l.ba d.blocks.length l.bc, .slice l.wa d.waiting.length l.wc] 46)) (.cells #[.bool false, .int .i64 0, .int .i64 0, .slice none 0 0] 62)
  have hX0 := (DBox.new w d l 46).grow (gal (gre _) (.cells #[.bool false, .int .i64 0, .int .i64 0, .slice none 0 0] 62))
  have hR0 := V4.new_at (w.alloc (.cells #[.slice l.ba d.blocks.length l.bc, .slice l.wa d.waiting.length l.wc] 46)) (.bool false) (.int .i64 0) (.int .i64 0) (.slice none 0 0) 62 (w.heap.size + 1) (by simp)
  obtain ⟨a, hka⟩ := hid_ex (d.slotOf 0)
  obtain ⟨b, hkb⟩ := hid_ex (d.slotOf 1)
  have hn : Hid (d.newestOf = if b.ok = true ∧ (a.ok = false ∨ a.gen < b.gen) then b else a) := by
    show _ = _
    unfold DD.newestOf
    rw [← hka.out, ← hkb.out]
  go_enter Tryz.func62, Tryz.ntmps62
  go_upto_region 2 with (go_at_call 101; refine (l4image_any d l 0 _ hf ho (ha.grow hA) (by omega)).mono ?_; rw [← hka.out]; rintro e w1 ⟨oa1, c1, rfl, hcp1, hb1t, hlo1, hb1⟩)
  have hKa := V4.new_at w1 (.bool a.ok) (.int .i64 a.gen) (.int .i64 a.slot) (.slice oa1 a.bytes.length c1) 62 w1.heap.size rfl
  have hb2 := gal hb1 (.cells #[.bool a.ok, .int .i64 a.gen, .int .i64 a.slot, .slice oa1 a.bytes.length c1] 62)
  have hat2 := hb1t.grow (gal (gre w1) (.cells #[.bool a.ok, .int .i64 a.gen, .int .i64 a.slot, .slice oa1 a.bytes.length c1] 62))
  have hX2 := hX0.grow hb2
  have hR2 := hR0.grow hb2
  have hA2 := gca hA hb2
  have hRl := (hR0.grow hb1).lt
  generalize w1.alloc (.cells #[.bool a.ok, .int .i64 a.gen, .int .i64 a.slot, .slice oa1 a.bytes.length c1] 62) = w2 at hKa hb2 hat2 hX2 hR2 hA2 ⊢
  generalize w1.heap.size = PA at hKa hRl ⊢
  clear hb1 hb2 hX0 hR0 hA hb1t
  obtain ⟨_, x0, x1⟩ := id hX2
  go_upto_region 3 with (go_at_call 101; refine (l4image_any d l 1 _ hf ho (ha.grow hA2) (by omega)).mono ?_; rw [← hkb.out]; rintro e w3 ⟨oa3, c3, rfl, hcp3, hb3t, hlo3, hb3⟩)
  have hKb := V4.new_at w3 (.bool b.ok) (.int .i64 b.gen) (.int .i64 b.slot) (.slice oa3 b.bytes.length c3) 62 w3.heap.size rfl
  have hb4 := gal hb3 (.cells #[.bool b.ok, .int .i64 b.gen, .int .i64 b.slot, .slice oa3 b.bytes.length c3] 62)
  have hbt4 := hb3t.grow (gal (gre w3) (.cells #[.bool b.ok, .int .i64 b.gen, .int .i64 b.slot, .slice oa3 b.bytes.length c3] 62))
  have hat4 := hat2.grow hb4
  have hKa4 := hKa.grow hb4
  have hR4 := hR2.grow hb4
  have hA4 := gca hA2 hb4
  have hPl := hKa.lt
  have hPs := hb3.size
  generalize w3.alloc (.cells #[.bool b.ok, .int .i64 b.gen, .int .i64 b.slot, .slice oa3 b.bytes.length c3] 62) = w4 at hKb hb4 hbt4 hat4 hKa4 hR4 hA4 ⊢
  generalize w3.heap.size = PB at hKb hPs ⊢
  clear x0 x1 hb3 hb4 hX2 hKa hR2 hat2 hb3t
  obtain ⟨_, p0, p1, p2, p3, pf⟩ := id hKa4
  obtain ⟨_, q0, q1, q2, q3, qf⟩ := id hKb
  obtain ⟨_, z0, z1, z2, z3, zf⟩ := id hR4
  have hfin : ∀ (k : KK) (oa : Option Addr) (c : Nat) (bs : List Nat), BytesAt w4 oa bs → (∀ g off, oa = some ⟨g, off, none⟩ → w.heap.size + 1 < g) → ∀ w', Kept (fun b => b = w.heap.size + 1) w4 w' → BytesAt w' oa bs ∧ (∀ g off, oa = some ⟨g, off, none⟩ → w.heap.size ≤ g) ∧ Below w.heap.size w w' := fun k oa c bs h1 h2 w' K =>
    ⟨h1.keptH K (fun g off e hp => by have := h2 g off e; omega), fun g off e => (by have := h2 g off e; omega), hA4.trans (K.below (B := w.heap.size) hA4.size (fun k hk e => by omega))⟩
  have ga1 : ∀ g off, oa1 = some ⟨g, off, none⟩ → w.heap.size + 1 < g := fun g off e => by have := hlo1 g off e; simp at this; omega
  have ga3 : ∀ g off, oa3 = some ⟨g, off, none⟩ → w.heap.size + 1 < g := fun g off e => by have := hlo3 g off e; omega
  have hsel : Hid (d.newestOf = a) ∧ b.ok = false ∨ Hid (d.newestOf = b) ∧ b.ok = true ∧ a.ok = false ∨ Hid (d.newestOf = b) ∧ b.ok = true ∧ a.ok = true ∧ a.gen < b.gen ∨ Hid (d.newestOf = a) ∧ b.ok = true ∧ a.ok = true ∧ ¬ (a.gen < b.gen) := by
    cases hbo : b.ok with
    | false => exact Or.inl ⟨hn.out.trans (if_neg (fun e => by rw [hbo] at e; cases e.1)), rfl⟩
    | true =>
      cases hao : a.ok with
      | false => exact Or.inr (Or.inl ⟨hn.out.trans (if_pos ⟨hbo, Or.inl hao⟩), rfl, rfl⟩)
      | true =>
        by_cases hg : a.gen < b.gen
        · exact Or.inr (Or.inr (Or.inl ⟨hn.out.trans (if_pos ⟨hbo, Or.inr hg⟩), rfl, rfl, hg⟩))
        · exact Or.inr (Or.inr (Or.inr ⟨hn.out.trans (if_neg (fun e => by rcases e.2 with e | e; · rw [hao] at e; cases e
                                                                          · exact hg e)), rfl, rfl, hg⟩))
  clear hn
  rcases hsel with ⟨hs, hbo⟩ | ⟨hs, hbo, hao⟩ | ⟨hs, hbo, hao, hg⟩ | ⟨hs, hbo, hao, hg⟩
  · rw [hbo] at q0
    go_upto_region 99 with fail
    obtain ⟨r0, r1, r2, r3, K⟩ := retV4 hR4 (.bool a.ok) (.int .i64 a.gen) (.int .i64 a.slot) (.slice oa1 a.bytes.length c1)
    exact bodyPost_ret (v := .agg #[.bool a.ok, .int .i64 a.gen, .int .i64 a.slot, .slice oa1 a.bytes.length c1]) (by simp [results, Tryz.results62, go_sem, r0, r1, r2, r3]) rfl ⟨oa1, c1, by rw [hs.out], (by show _ ≤ c1; rw [hs.out]; exact hcp1.out), by rw [hs.out]; exact (hfin a oa1 c1 _ hat4 ga1 _ K).1, (hfin a oa1 c1 _ hat4 ga1 _ K).2⟩
  · rw [hbo] at q0; rw [hao] at p0
    go_upto_region 99 with fail
    obtain ⟨r0, r1, r2, r3, K⟩ := retV4 hR4 (.bool true) (.int .i64 b.gen) (.int .i64 b.slot) (.slice oa3 b.bytes.length c3)
    exact bodyPost_ret (v := .agg #[.bool true, .int .i64 b.gen, .int .i64 b.slot, .slice oa3 b.bytes.length c3]) (by simp [results, Tryz.results62, go_sem, r0, r1, r2, r3]) rfl ⟨oa3, c3, by rw [hs.out]; simp only [KK.val, hbo], (by show _ ≤ c3; rw [hs.out]; exact hcp3.out), by rw [hs.out]; exact (hfin b oa3 c3 _ hbt4 ga3 _ K).1, (hfin b oa3 c3 _ hbt4 ga3 _ K).2⟩
  · rw [hbo] at q0; rw [hao] at p0
    go_upto_region 99 with fail
    obtain ⟨r0, r1, r2, r3, K⟩ := retV4 hR4 (.bool true) (.int .i64 b.gen) (.int .i64 b.slot) (.slice oa3 b.bytes.length c3)
    exact bodyPost_ret (v := .agg #[.bool true, .int .i64 b.gen, .int .i64 b.slot, .slice oa3 b.bytes.length c3]) (by simp [results, Tryz.results62, go_sem, r0, r1, r2, r3]) rfl ⟨oa3, c3, by rw [hs.out]; simp only [KK.val, hbo], (by show _ ≤ c3; rw [hs.out]; exact hcp3.out), by rw [hs.out]; exact (hfin b oa3 c3 _ hbt4 ga3 _ K).1, (hfin b oa3 c3 _ hbt4 ga3 _ K).2⟩
  · rw [hbo] at q0; rw [hao] at p0
    go_upto_region 99 with fail
    obtain ⟨r0, r1, r2, r3, K⟩ := retV4 hR4 (.bool true) (.int .i64 a.gen) (.int .i64 a.slot) (.slice oa1 a.bytes.length c1)
    exact bodyPost_ret (v := .agg #[.bool true, .int .i64 a.gen, .int .i64 a.slot, .slice oa1 a.bytes.length c1]) (by simp [results, Tryz.results62, go_sem, r0, r1, r2, r3]) rfl ⟨oa1, c1, by rw [hs.out]; simp only [KK.val, hao], (by show _ ≤ c1; rw [hs.out]; exact hcp1.out), by rw [hs.out]; exact (hfin a oa1 c1 _ hat4 ga1 _ K).1, (hfin a oa1 c1 _ hat4 ga1 _ K).2⟩

theorem results_cell_mid {P : Program} {fn : Func} {p : Tmp} {ty : TypeId} (h : fn.results = #[.cell p ty]) (tmps : Array Value) (w : World) (g o : Nat) (cs : List Value) (d : TypeDesc)
  (hp : tmps.getD p undef = .pointer (some ⟨g, o, none⟩)) (hc : w.rangeAt g o cs) (hu : P.underlying ty = some d) (hd : d.isRow = true) (hi : (P.info? ty).map (·.size) = some cs.length) :
  (results fn tmps).run P w = .ok (.agg cs.toArray) w := by
 have hp' : tmps[p]?.getD undef = .pointer (some ⟨g, o, none⟩) := by simpa [Array.getD_eq_getD_getElem?] using hp
 simp [results, h, hp', asAddr, run_loadVar_mid w g o ty cs d hc hu hd hi]
structure RdS (w wr : World) (A B : Nat) (cur : List Nat) : Prop where
 bel : Below w.heap.size w wr
 ta : wr.there A 0 64
 rb : wr.rangeAt B 0 (bcells cur)
 tb : wr.there B 0 64
 len : cur.length = 64
theorem RdS.grow {w wr w' : World} {A B : Nat} {cur : List Nat} (h : RdS w wr A B cur) (hb : Below wr.heap.size wr w') (hA : A < wr.heap.size) (hB : B < wr.heap.size) : RdS w w' A B cur :=
 ⟨gca h.bel hb, there_same h.ta (hb.block A hA), range_same h.rb (hb.block B hB), there_same h.tb (hb.block B hB), h.len⟩
theorem there_lt {w : World} {b o n : Nat} (h : w.there b o n) (hn : 0 < n) : b < w.heap.size := by
 obtain ⟨v, hv⟩ := Option.isSome_iff_exists.1 (h 0 hn).1
 exact World.block_lt_of_cell? w ⟨b, o + 0, none⟩ hv
theorem read_any (p : Nat) (bl : List (List Nat)) (pa : Option Addr) (pc : Nat) (ws : List DW) (kv : Value) (b : Int) (w : World) (hb0 : 0 ≤ b) (hb1 : b < 130) (hw : ws.length ≤ 201) (h : Dr w p bl pa pc ws kv) :
  Calls Tryz.prog 170 #[.pointer (some ⟨p, 0, none⟩), .int .i64 b] w fun e w' => e = .returned (.agg (bcells (readN bl ws b ws.length)).toArray) ∧ Below w.heap.size w w' := by
 obtain ⟨m, rfl⟩ : ∃ m : Nat, b = (m : Int) := ⟨b.toNat, by omega⟩
 have hm : m < 130 := by omega
 have hz64 := (zero_of_info zero_content).1
 have hz65 := (zero_of_info zero_pending).1
 have hlen := h.d.len
 have h64 := h.d.all64
 obtain ⟨c0, hc0⟩ := hid_ex bl[m]!
 have hl0 : c0.length = 64 := by rw [hc0.out]; exact h64 _ (mem_at (by omega))
 have hcl : (bcells c0).length = 64 := by rw [bcells_length, hl0]
 have hr1 : (w.alloc (.cells (zeros 64).toArray 106)).rangeAt p (m * 64) (bcells c0) := by rw [hc0.out]; exact World.rangeAt_alloc (h.d.rng m hm) _
 go_enter Tryz.func170, Tryz.ntmps170
 go_upto_region 2 with (first
  | (refine wpList_load_mid rfl 106 _ rfl p (m * 64) rfl (bcells c0) _ hr1 Tryz.underlying106 rfl (by rw [size_content, hcl]) ?_)
  | (refine wpList_alloc_big rfl 106 rfl _ hz64 ?_)
  | (refine wpList_store_new rfl 106 _ _ rfl _ (bcells c0).toArray rfl rfl (by rw [size_content]; simp [hcl]) (by simp [zeros, hcl]) (all_oneCell_toArray cells_u8) ?_))
 have e0 : (w.alloc (.cells (zeros 64).toArray 106)).heap.size = w.heap.size + 1 := by simp
 try rw [e0]
 have hS0 : RdS w ((w.alloc (.cells (zeros 64).toArray 106)).alloc (.cells (bcells c0).toArray 106)) w.heap.size (w.heap.size + 1) c0 := by
  have e1 : (w.alloc (.cells (zeros 64).toArray 106)).heap.size = w.heap.size + 1 := by simp
  have r := range_new (w.alloc (.cells (zeros 64).toArray 106)) (bcells c0) 106
  have t := there_new (w.alloc (.cells (zeros 64).toArray 106)) (bcells c0) 106
  have t0 := there_new w (zeros 64) 106
  rw [e1] at r t
  rw [hcl] at t
  rw [show (zeros 64).length = 64 from List.length_replicate] at t0
  exact ⟨gal (gal (gre _) _) _, World.there_alloc t0 _, r, t, hl0⟩
 generalize (w.alloc (.cells (zeros 64).toArray 106)).alloc (.cells (bcells c0).toArray 106) = wA at hS0 ⊢
 obtain ⟨A, hA⟩ := hid_ex w.heap.size
 obtain ⟨B, hB⟩ := hid_ex (w.heap.size + 1)
 rw [← hB.out] at hS0 ⊢
 rw [← hA.out] at hS0 ⊢
 have hAB : A < B := by rw [hA.out, hB.out]; omega
 have hDr := h.grow hS0.bel
 have x0 := hDr.d.ws
 clear hr1 hcl hDr
 go_wp2
 go_loopw [19] (fun i wr => ∃ (k : Nat) (cur : List Nat), k ≤ ws.length ∧ i = .int .i64 k ∧ Hid (cur = readN bl ws (m : Int) k) ∧ RdS w wr A B cur) (fun i _ => ws.length - (intOf i).toNat)
 case atStart => exact ⟨0, c0, Nat.zero_le _, rfl, by show _ = _; rw [hc0.out]; rfl, hS0⟩
 case round =>
  obtain ⟨k, cur, hk, rfl, hcur, hS⟩ := hrel
  have hAl := there_lt hS.ta (by decide)
  have hBl := there_lt hS.tb (by decide)
  by_cases hlt : k < ws.length
  ·
   have hDrk := h.grow hS.bel
   obtain ⟨g, rfl, _, hgl, hrg⟩ := owns_pend hDrk.own hDrk.w64 hlt
   obtain ⟨n, hn⟩ := hid_ex ws[k]!
   rw [← hn.out] at hrg
   have hn64 : Hid (n.bytes.length = 64) := by show _ = _; rw [hn.out]; exact h.w64 _ (mem_at hlt)
   have hpl : n.pc.length = 65 := pc_length hn64.out
   have hbl64 : (bcells n.bytes).length = 64 := by rw [bcells_length]; exact hn64.out
   have i0 : (0 : Int) ≤ (k : Int) := by omega
   have i1 : (k : Int) < (ws.length : Int) := by omega
   clear hDrk
   go_upto_region 5 with (first
    | (refine wpList_load_mid rfl 160 _ rfl g (k * 65) rfl n.pc _ hrg Tryz.underlying160 rfl (by rw [size_pending, hpl]) ?_)
    | (refine wpList_alloc_big rfl 160 rfl _ hz65 ?_)
    | (refine wpList_store_new rfl 160 _ _ rfl _ n.pc.toArray rfl rfl (by rw [size_pending]; simp [hpl]) (by simp [zeros, hpl]) (all_oneCell_toArray pc_one) ?_))
   have hSA := hS.grow (gal (gre wr) (.cells n.pc.toArray 160)) hAl hBl
   have hrn := range_new wr n.pc 160
   have hby : (wr.alloc (.cells n.pc.toArray 160)).rangeAt wr.heap.size 1 (bcells n.bytes) := range_drop (cs := [.int .i64 n.block]) hrn
   have hq0 : (wr.alloc (.cells n.pc.toArray 160)).cell? ⟨wr.heap.size, 0, none⟩ = some (.int .i64 n.block) := hrn 0 _ rfl
   generalize wr.alloc (.cells n.pc.toArray 160) = wC at hSA hby hq0 ⊢
   clear hrn hS
   generalize wr.heap.size = Q at hby hq0 hAl hBl ⊢
   by_cases heq : n.block = (m : Int)
   ·
    have t1 : (n.block == (m : Int)) = true := by simp [heq]
    have hst : Hid (n.bytes = readN bl ws (m : Int) (k + 1)) := by show _ = _; simp only [readN]; rw [← hn.out, if_pos heq]
    clear heq
    go_wp2_with (first
     | (refine wpList_load_mid rfl 106 _ rfl Q 1 rfl (bcells n.bytes) _ hby Tryz.underlying106 rfl (by rw [size_content, hbl64]) ?_)
     | (refine wpList_store_mid rfl 106 _ _ rfl B 0 (bcells n.bytes).toArray rfl rfl (by rw [List.size_toArray, hbl64]; exact hSA.tb) (by rw [size_content, List.size_toArray, hbl64]) (all_oneCell_toArray cells_u8) ?_))
    go_roundw
    case rel =>
     refine ⟨k + 1, n.bytes, by omega, by go_num, hst, ?_⟩
     exact ⟨(Kept.setCells (p := fun z => z = B) _ _ (Kept.refl _ wC) (fun _ => rfl)).below (by have := hSA.bel.size; omega) (fun z hz e => by have := hB.out; omega) |> hSA.bel.trans, World.there_setCells hSA.ta _ _ _, World.rangeAt_setCells_same _ _ _ _ (by rw [hbl64]; exact hSA.tb), World.there_setCells hSA.tb _ _ _, hn64.out⟩
    case measure => simp [intOf]; omega
   ·
    have t1 : (n.block == (m : Int)) = false := by simpa using heq
    have hst : Hid (cur = readN bl ws (m : Int) (k + 1)) := by show _ = _; simp only [readN]; rw [← hn.out, if_neg heq, hcur.out]
    clear heq
    go_wp2
    go_roundw
    case rel => exact ⟨k + 1, cur, by omega, by go_num, hst, hSA⟩
    case measure => simp [intOf]; omega
  ·
   obtain rfl : k = ws.length := by omega
   have hcl : (bcells cur).length = 64 := by rw [bcells_length, hS.len]
   go_wp2_with (first
    | (refine wpList_load_mid rfl 106 _ rfl B 0 rfl (bcells cur) _ hS.rb Tryz.underlying106 rfl (by rw [size_content, hcl]) ?_)
    | (refine wpList_store_mid rfl 106 _ _ rfl A 0 (bcells cur).toArray rfl rfl (by rw [List.size_toArray, hcl]; exact hS.ta) (by rw [size_content, List.size_toArray, hcl]) (all_oneCell_toArray cells_u8) ?_))
   refine bodyPost_ret (results_cell_mid Tryz.results170 _ _ A 0 (bcells cur) _ rfl (World.rangeAt_setCells_same _ _ _ _ (by rw [hcl]; exact hS.ta)) Tryz.underlying106 rfl (by rw [size_content, hcl])) rfl ⟨by rw [hcur.out], ?_⟩
   exact hS.bel.trans ((Kept.setCells (p := fun z => z = A) _ _ (Kept.refl _ wr) (fun _ => rfl)).below hS.bel.size (fun z hz e => by have := hA.out; omega))
def TRow (w : World) (t a n : Nat) (xs : List Nat) : Prop := ∃ f, w.rowIs a t n f ∧ xs.length ≤ n ∧ ∀ i, i < xs.length → f i = .int .u8 ((xs[i]! : Nat) : Int)
theorem TRow.at_ {w : World} {t a n : Nat} {xs : List Nat} (h : TRow w t a n xs) : BytesAt w (some ⟨a, 0, none⟩) xs := fun i hi => by
 obtain ⟨f, hr, hl, hf⟩ := h
 exact ⟨a, 0, rfl, by rw [Nat.zero_add, ← hf i hi]; exact hr.cell (by omega)⟩
theorem TRow.lt {w : World} {t a n : Nat} {xs : List Nat} (h : TRow w t a n xs) : a < w.heap.size := by obtain ⟨f, hr, _⟩ := h; exact hr.lt
theorem TRow.kept {p : Nat → Prop} {w w' : World} {t a n : Nat} {xs : List Nat} (h : TRow w t a n xs) (k : Kept p w w') (hn : ¬ p a) : TRow w' t a n xs := by
 obtain ⟨f, hr, r⟩ := h
 exact ⟨f, k.rowIs hr hn, r⟩
theorem row_new (w : World) (ys : List Nat) (t : TypeId) : TRow (w.alloc (.cells (bcells ys).toArray t)) t w.heap.size ys.length ys := by
 refine ⟨fun i => .int .u8 ((ys[i]! : Nat) : Int), ⟨_, heap_alloc_last w _, by simp [bcells], fun i hi => ?_⟩, Nat.le_refl _, fun i hi => rfl⟩
 rw [List.getElem?_toArray, bcells_get hi]
theorem bs_strB {xs : List Nat} (h : ∀ x, x ∈ xs → x < 256) : bsOf (strB xs) = xs := by
 unfold bsOf strB strOfNums
 show ((xs.map _).map _).map _ = xs
 rw [List.map_map, List.map_map]
 conv => rhs; rw [← List.map_id xs]
 apply List.map_congr_left
 intro x hx
 show (UInt8.ofNat ((x : Int)).toNat).toNat = x
 have := h x hx
 simp []
 omega
theorem strB_eq {xs ys : List Nat} (hx : ∀ x, x ∈ xs → x < 256) (hy : ∀ x, x ∈ ys → x < 256) : ((strB xs).toList == (strB ys).toList) = decide (xs = ys) := by
 by_cases h : xs = ys
 · subst h; simp
 ·
  rw [decide_eq_false h, beq_eq_false_iff_ne]
  intro e
  apply h
  have e2 : strB xs = strB ys := by
   apply ByteArray.ext
   apply Array.ext'
   rw [← ByteArray.toList_eq, ← ByteArray.toList_eq]; exact e
  rw [← bs_strB hx, e2, bs_strB hy]
theorem bytesEqual_any (a a' : Option Addr) (xs ys : List Nat) (c c' : Nat) (w : World) (hx : ∀ x, x ∈ xs → x < 256) (hy : ∀ x, x ∈ ys → x < 256) (ha : BytesAt w a xs) (ha' : BytesAt w a' ys) :
  Calls Tryz.prog 107 #[.slice a xs.length c, .slice a' ys.length c'] w fun e w' => e = .returned (.bool (decide (xs = ys))) ∧ Below w.heap.size w w' := by
 have h1 := conv_text (n := xs.length) (c := c) ha rfl
 have h2 := conv_text (n := ys.length) (c := c') ha' rfl
 have h3 := strB_eq hx hy
 go_enter Tryz.func107, Tryz.ntmps107
 go_wp2
 go_ret
 exact ⟨by first | rfl | rw [← h3]; rfl, gre _⟩
end Go.Proofs.YtmdpmdmilgbfiaaGreatDoor
