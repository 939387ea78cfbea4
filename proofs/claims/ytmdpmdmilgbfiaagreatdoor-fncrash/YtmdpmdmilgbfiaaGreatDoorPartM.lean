import Derived.OrdersIn
import Derived.RangeFuncNested
import Derived.RangeFuncBound
import Derived.RangeFuncCalls
import Derived.RangeFuncLeaves
import Derived.Shelf.Abstract
import Derived.Shelf.RegionOpen
import Derived.WalkKit
import Derived.OwnWalkIn
import Derived.TacticsInMore
import Derived.LoopNIn
import Derived.LoopIn
import Derived.Test.YtmdpmdmilgbfiaaGreatDoorPartL

/-
  NPLAIN: slots, what is newest, what is done to lay an image down, plain. Own work.
-/
namespace Go.Proofs.YtmdpmdmilgbfiaaGreatDoor
open Go.RowKit

/-- the first j blocks from a block on, one behind the other -/
def DD.cat (d : DD) (f : Nat) : Nat → List Nat
  | 0 => []
  | j + 1 => d.cat f j ++ d.rd (f + j)
theorem DD.cat_len {d : DD} (h : d.Fit) {f : Nat} : ∀ {j : Nat}, f + j ≤ 130 → (d.cat f j).length = 64 * j
  | 0, _ => rfl
  | j + 1, hj => by
    have h1 := DD.cat_len h (f := f) (j := j) (by omega)
    have h2 := DD.rd_len h (m := f + j) (by omega)
    simp only [DD.cat, List.length_append, h1, h2]
    omega
theorem DD.cat_byte {d : DD} (h : d.Fit) (ho : d.Ok) {f : Nat} : ∀ {j : Nat}, f + j ≤ 130 → ∀ x, x ∈ d.cat f j → x < 256
  | 0, _ => fun x hx => by cases hx
  | j + 1, hj => fun x hx => by
    rcases List.mem_append.1 hx with e | e
    · exact DD.cat_byte h ho (j := j) (by omega) x e
    · exact DD.rd_byte h ho (m := f + j) (by omega) x e
theorem DD.cat_take {d : DD} (h : d.Fit) {f : Nat} {j k n : Nat} (hjk : j ≤ k) (hk : f + k ≤ 130) (hn : n ≤ 64 * j) : (d.cat f k).take n = (d.cat f j).take n := by
  induction k with
  | zero => obtain rfl : j = 0 := by omega
            rfl
  | succ k ih =>
    by_cases e : j = k + 1
    · subst e; rfl
    · rw [DD.cat, List.take_append_of_le_length (by rw [DD.cat_len h (by omega)]; omega)]
      exact ih (by omega) (by omega)

/-- the first block of a slot's image -/
def firstOf (slot : Nat) : Nat := 2 + slot * 64
/-- the first n bytes of a slot's image -/
def DD.img (d : DD) (slot n : Nat) : List Nat := (d.cat (firstOf slot) 64).take n
theorem DD.img_len {d : DD} (h : d.Fit) {slot n : Nat} (hs : slot < 2) (hn : n ≤ 4096) : (d.img slot n).length = n := by
  unfold DD.img firstOf
  rw [List.length_take, DD.cat_len h (by omega)]
  omega
theorem DD.img_byte {d : DD} (h : d.Fit) (ho : d.Ok) {slot n : Nat} (hs : slot < 2) : ∀ x, x ∈ d.img slot n → x < 256 := fun x hx =>
  DD.cat_byte h ho (by unfold firstOf; omega) x (List.mem_of_mem_take hx)
theorem DD.img_part {d : DD} (h : d.Fit) {slot n j : Nat} (hs : slot < 2) (hj : j ≤ 64) (hn : n ≤ 64 * j) : (d.cat (firstOf slot) j).take n = d.img slot n :=
  (DD.cat_take h hj (by unfold firstOf; omega) hn).symm

structure KK where
  ok : Bool
  gen : Int
  slot : Int
  bytes : List Nat
def noK : KK := ⟨false, 0, 0, []⟩
abbrev KK.val (k : KK) (a : Option Addr) (c : Nat) : Value := .agg #[.bool k.ok, .int .i64 k.gen, .int .i64 k.slot, .slice a k.bytes.length c]

def DD.slotOf (d : DD) (slot : Nat) : KK :=
  if (headOf (d.rd slot)).ok = true ∧ wrap64 (sumN (d.img slot (headOf (d.rd slot)).len.toNat) : Int) = (headOf (d.rd slot)).sum then ⟨true, (headOf (d.rd slot)).gen, (slot : Int), d.img slot (headOf (d.rd slot)).len.toNat⟩ else noK
def DD.newestOf (d : DD) : KK := if (d.slotOf 1).ok = true ∧ ((d.slotOf 0).ok = false ∨ (d.slotOf 0).gen < (d.slotOf 1).gen) then d.slotOf 1 else d.slotOf 0
def DD.newest (d : DD) : KK := if d.ok = true then d.newestOf else noK

/-- what a slot's answer is -/
structure KK.Fine (k : KK) (slot : Nat) : Prop where
  no : k.ok = false → k = noK
  gen : k.ok = true → 1 ≤ k.gen ∧ k.gen ≤ 1000000000000
  slot : k.ok = true → k.slot = (slot : Int)
  len : k.bytes.length ≤ 4096
theorem DD.slot_fine {d : DD} (h : d.Fit) {slot : Nat} (hs : slot < 2) : (d.slotOf slot).Fine slot := by
  unfold DD.slotOf
  rcases headOf_cases (d.rd slot) with hh | hh
  · have hr := rng_i64 hh.rng
    split
    · exact ⟨fun e => (by cases e), fun _ => hr.1, fun _ => rfl, by rw [DD.img_len h hs (by omega)]; omega⟩
    · exact ⟨fun _ => rfl, fun e => (by cases e), fun e => (by cases e), Nat.zero_le _⟩
  · rw [if_neg (fun e => by rw [hh] at e; cases e.1)]
    exact ⟨fun _ => rfl, fun e => (by cases e), fun e => (by cases e), Nat.zero_le _⟩

/-- the program's way: the greater Gen, one slot behind the other -/
theorem newest_steps {a b : KK} (ha : a.Fine 0) (hb : b.Fine 1) : (if b.ok = true ∧ (a.ok = false ∨ a.gen < b.gen) then b else a) = (if (if noK.gen < a.gen then a else noK).gen < b.gen then b else (if noK.gen < a.gen then a else noK)) := by
  have e1 : (if noK.gen < a.gen then a else noK) = a := by
    cases hk : a.ok with
    | false => rw [ha.no hk]; simp [noK]
    | true => rw [if_pos (by have := ha.gen hk; simp [noK]; omega)]
  rw [e1]
  cases hk : b.ok with
  | false =>
    rw [hb.no hk]
    have : ¬ (a.gen < noK.gen) := by
      cases hka : a.ok with
      | false => rw [ha.no hka]; simp
      | true => have := ha.gen hka; simp [noK]; omega
    rw [if_neg (by simp [noK]), if_neg this]
  | true =>
    cases hka : a.ok with
    | false =>
      rw [if_pos ⟨rfl, Or.inl rfl⟩, ha.no hka, if_pos (by have := hb.gen hk; simp [noK]; omega)]
    | true =>
      by_cases hlt : a.gen < b.gen
      · rw [if_pos ⟨rfl, Or.inr hlt⟩, if_pos hlt]
      · rw [if_neg (fun e => by rcases e.2 with e | e; cases e; exact hlt e), if_neg hlt]

end Go.Proofs.YtmdpmdmilgbfiaaGreatDoor

/-
  SOP: ops that are appended to, plain and in memory. Own work.
-/
namespace Go.Proofs.YtmdpmdmilgbfiaaGreatDoor
open Go.RowKit

/-- a block of an image -/
def cutOf (im : List Nat) (j : Nat) : List Nat := (im.drop (64 * j)).take 64
def blkOf (im : List Nat) (j : Nat) : List Nat := cutOf im j ++ List.replicate (64 - (cutOf im j).length) 0
theorem cutOf_len (im : List Nat) (j : Nat) : (cutOf im j).length ≤ 64 := by simp [cutOf]; omega
theorem blkOf_len (im : List Nat) (j : Nat) : (blkOf im j).length = 64 := by
  have := cutOf_len im j
  simp [blkOf]; omega
theorem blkOf_byte {im : List Nat} (h : ∀ x, x ∈ im → x < 256) (j : Nat) : ∀ x, x ∈ blkOf im j → x < 256 := fun x hx => by
  rcases List.mem_append.1 hx with e | e
  · exact h x (List.mem_of_mem_drop (List.mem_of_mem_take e))
  · rw [List.eq_of_mem_replicate e]; decide
/-- how many blocks an image has -/
def nBlk (im : List Nat) : Nat := (im.length + 63) / 64
/-- the slot that the newest is not in -/
def KK.other (k : KK) : Nat := if k.ok = true ∧ k.slot = 0 then 1 else 0
theorem KK.other_lt (k : KK) : k.other < 2 := by unfold KK.other; split <;> omega
/-- the first j writes of an image -/
def imgOps (s : Nat) (im : List Nat) (j : Nat) : List OP := (List.range j).map fun i => ⟨false, ((firstOf s + i : Nat) : Int), blkOf im i⟩
theorem imgOps_succ (s : Nat) (im : List Nat) (j : Nat) : imgOps s im (j + 1) = imgOps s im j ++ [⟨false, ((firstOf s + j : Nat) : Int), blkOf im j⟩] := by simp [imgOps, List.range_succ]
theorem imgOps_len (s : Nat) (im : List Nat) (j : Nat) : (imgOps s im j).length = j := by simp [imgOps]
def headO (k : KK) (im : List Nat) : OP := ⟨false, (k.other : Int), headB (k.gen + 1) (im.length : Int) (wrap64 (sumN im : Int))⟩
/-- what is done to lay an image down -/
def DD.lay (d : DD) (im : List Nat) : List OP := if d.newestOf.gen = 1000000000000 then [] else imgOps d.newestOf.other im (nBlk im) ++ [syncO, headO d.newestOf im, syncO]
def DD.ops (d : DD) (im : List Nat) : List OP := if d.ok = true ∧ d.waiting = [] ∧ im ≠ [] ∧ im.length ≤ 4096 then d.lay im else []

/-- an op, and where its bytes lie -/
structure LO where
  x : OP
  a : Option Addr
  cap : Nat
  deriving Inhabited
def LO.three (y : LO) : List Value := [.bool y.x.sync, .int .i64 y.x.block, .slice y.a y.x.bytes.length y.cap]
theorem LO.three_length (y : LO) : y.three.length = 3 := rfl
def oCells (l : List LO) : List Value := l.flatMap LO.three
theorem oCells_app (l m : List LO) : oCells (l ++ m) = oCells l ++ oCells m := by simp [oCells]
theorem oCells_snoc (l : List LO) (y : LO) : oCells (l ++ [y]) = oCells l ++ [.bool y.x.sync, .int .i64 y.x.block, .slice y.a y.x.bytes.length y.cap] := by simp [oCells, LO.three]
theorem oCells_get : ∀ (l : List LO) (i j : Nat), i < l.length → j < 3 → (oCells l)[i * 3 + j]? = (l[i]!.three)[j]?
  | [], i, j, h, _ => absurd h (Nat.not_lt_zero _)
  | y :: r, 0, j, _, hj => by
    rw [oCells, List.flatMap_cons, Nat.zero_mul, Nat.zero_add, List.getElem?_append_left (by rw [LO.three_length]; exact hj)]
    rfl
  | y :: r, i + 1, j, h, hj => by
    have hlt : i < r.length := by simpa using h
    have ih := oCells_get r i j hlt hj
    rw [oCells, List.flatMap_cons, List.getElem?_append_right (by rw [LO.three_length, Nat.add_mul]; omega), LO.three_length, show (i + 1) * 3 + j - 3 = i * 3 + j by rw [Nat.add_mul]; omega]
    rw [oCells] at ih
    rw [ih]
    simp

theorem owns_isO {w : World} {base size n cap : Nat} {a : Option Addr} {xs : List Value} (h : w.ownsRow base 101 size (.slice a n cap) n xs) {z : Nat} (hz : (Value.slice a n cap).ownBlock = some z) : IsO w z ∧ base ≤ z := by
  have ha := owns_addr h hz
  rcases h.2 with ⟨e, _⟩ | ⟨g, cap', cur, hv, hb, hg, _⟩
  · simp at e
    rw [e.1] at ha
    cases ha
  · simp only [Value.slice.injEq] at hv
    rw [ha] at hv
    obtain rfl := some_addr hv.1
    exact ⟨⟨cur, hg⟩, hb⟩

theorem MB.leO {w : World} {lo lo' : Nat} {oa : Option Addr} {ys : List Nat} (h : MB w lo oa ys) (hl : lo' ≤ lo) : MB w lo' oa ys := by
  rcases h with h | ⟨G, n, h1, h2, h3⟩
  · exact Or.inl h
  · exact Or.inr ⟨G, n, h1, by omega, h3⟩
theorem owns_mbO {w : World} {base n c : Nat} {oa : Option Addr} {bs : List Nat} (h : w.ownsRow base 5 1 (.slice oa n c) n (bcells bs)) (hl : bs.length = n) : MB w base oa bs := by
  rcases h.2 with ⟨e, e2⟩ | ⟨g, cap, cur, hv, hb, hg, h1, h2, h3, h4⟩
  · exact Or.inl (List.eq_nil_of_length_eq_zero (by omega))
  · injection hv with e1 _ e3
    subst e1
    refine Or.inr ⟨g, cap, rfl, hb, cur, hg, by omega, by omega, fun i hi => ?_⟩
    have h5 : (cur.toList.take (n * 1))[i]? = (bcells bs)[i]? := by rw [h4]
    rw [List.getElem?_take_of_lt (by omega), Array.getElem?_toList, bcells_get hi] at h5
    exact h5
structure SO (base : Nat) (wr : World) (oa : Option Addr) (oc : Nat) (lo : List LO) : Prop where
  own : wr.ownsRow base 101 3 (.slice oa lo.length oc) lo.length (oCells lo)
  byt : ∀ y, y ∈ lo → MB wr base y.a y.x.bytes
  far : lo.Pairwise fun y z => y.x.bytes ≠ [] → z.x.bytes ≠ [] → Apart y.a z.a
theorem MB.keptO {p : Nat → Prop} {w w' : World} {lo : Nat} {oa : Option Addr} {ys : List Nat} (h : MB w lo oa ys) (k : Kept p w w') (hp : ∀ b, lo ≤ b → IsB w b → ¬ p b) : MB w' lo oa ys := by
  rcases h with rfl | ⟨G, n, rfl, hG, hB⟩
  · exact Or.inl rfl
  · exact Or.inr ⟨G, n, rfl, hG, hB.kept k (hp G hG hB.isB)⟩
theorem MB.growO {w w' : World} {lo : Nat} {oa : Option Addr} {ys : List Nat} (h : MB w lo oa ys) (hb : Below w.heap.size w w') : MB w' lo oa ys := h.keptO (Kept.of_below hb (fun _ => False)) (fun _ _ _ e => e)
theorem zrow_made (w : World) (M : Array Value) (hM : M = madeCells #[Value.int .u8 0] 64) : ZRow (w.alloc (.cells M 5)) w.heap.size 64 [] := by
  subst hM
  have h1 := rowIs_made_any w #[Value.int .u8 0] 64 5
  have e : (fun i => (#[Value.int .u8 0])[i % (#[Value.int .u8 0]).size]!) = (fun i : Nat => Value.int .u8 ((([] : List Nat)[i]! : Nat) : Int)) := by
    funext i
    have : i % (#[Value.int .u8 0]).size = 0 := by simp [Nat.mod_one]
    rw [this, getElem!_neg ([] : List Nat) i (by simp)]
    rfl
  rw [e] at h1
  exact ⟨by simp, h1⟩
theorem SO.kept {p : Nat → Prop} {base : Nat} {w w' : World} {oa : Option Addr} {oc : Nat} {lo : List LO} (h : SO base w oa oc lo) (K : Kept p w w') (hp : ∀ z, p z → base ≤ z → ¬ IsO w z ∧ ¬ IsB w z) : SO base w' oa oc lo :=
  ⟨K.owns h.own (fun z hz e => let r := owns_isO h.own hz; (hp z e r.2).1 r.1), fun y hy => (h.byt y hy).keptO K (fun z hz hB e => (hp z e hz).2 hB), h.far⟩
theorem SO.grow {base : Nat} {w w' : World} {oa : Option Addr} {oc : Nat} {lo : List LO} (h : SO base w oa oc lo) (hb : Below w.heap.size w w') : SO base w' oa oc lo := h.kept (Kept.of_below hb (fun _ => False)) (fun _ e => e.elim)
theorem SO.own_at {base : Nat} {w : World} {oa : Option Addr} {oc n : Nat} {lo : List LO} (h : SO base w oa oc lo) (hn : lo.length = n) : w.ownsRow base 101 3 (.slice oa n oc) n (oCells lo) := by subst hn; exact h.own
theorem SO.nil (base : Nat) (w : World) : SO base w none 0 [] := ⟨owns_none _ _ _ _, fun y hy => (by cases hy), List.Pairwise.nil⟩
theorem SO.le {base base' : Nat} {w : World} {oa : Option Addr} {oc : Nat} {lo : List LO} (h : SO base w oa oc lo) (hb : base' ≤ base) : SO base' w oa oc lo := ⟨owns_le h.own hb, fun y hy => (h.byt y hy).leO hb, h.far⟩
/-- some more ops -/
theorem SO.more {base : Nat} {w w5 : World} {oa : Option Addr} {oc : Nat} {lo ys : List LO} (h : SO base w oa oc lo) (hy : ∀ y, y ∈ ys → MB w base y.a y.x.bytes) (hfar : (lo ++ ys).Pairwise fun y z => y.x.bytes ≠ [] → z.x.bytes ≠ [] → Apart y.a z.a) {gg cc : Nat}
    (hown : w5.ownsRow base 101 3 (.slice (some ⟨gg, 0, none⟩) (lo.length + ys.length) cc) (lo.length + ys.length) (oCells lo ++ oCells ys)) (hgrow : w.grownBy w5 (Value.slice oa lo.length oc).ownBlock) : SO base w5 (some ⟨gg, 0, none⟩) cc (lo ++ ys) := by
  have K := Kept.of_grown hgrow
  refine ⟨by rw [oCells_app, List.length_append]; exact hown, fun x hx => ?_, hfar⟩
  have hb : ∀ {x : LO}, MB w base x.a x.x.bytes → MB w5 base x.a x.x.bytes := fun hx => hx.keptO K (fun z _ hB e => not_B_of_O (owns_isO h.own e).1 hB)
  rcases List.mem_append.1 hx with e | e
  · exact hb (h.byt x e)
  · exact hb (hy x e)
/-- one more, whose bytes lie in memory that is newer than the others' -/
theorem SO.far1 {base : Nat} {w : World} {oa : Option Addr} {oc : Nat} {lo : List LO} (h : SO base w oa oc lo) {y : LO} (hy : ∀ b, y.x.bytes ≠ [] → y.a = some ⟨b, 0, none⟩ → w.heap.size ≤ b) : (lo ++ [y]).Pairwise fun y z => y.x.bytes ≠ [] → z.x.bytes ≠ [] → Apart y.a z.a := by
  refine List.pairwise_append.2 ⟨h.far, List.pairwise_singleton _ _, fun x hx z hz n1 n2 b e1 e2 => ?_⟩
  obtain rfl : z = y := by simpa using hz
  have := hy b n2 e2
  rcases h.byt x hx with e | ⟨G, n, h1, _, h2⟩
  · exact n1 e
  · rw [e1] at h1
    obtain rfl := some_addr h1
    have := h2.lt
    omega
theorem SO.mo {base : Nat} {w : World} {oa : Option Addr} {oc : Nat} {lo : List LO} (h : SO base w oa oc lo) : MOs w base w.heap.size oa lo.length (fun i => (lo.map LO.x)[i]!.sync) (fun i => (lo.map LO.x)[i]!.block) (fun i => (lo.map LO.x)[i]!.bytes) (fun i => lo[i]!.a) (fun i => lo[i]!.cap) := by
  have ex : ∀ i, i < lo.length → (lo.map LO.x)[i]! = lo[i]!.x := fun i hi => by rw [getElem!_pos _ i (by simpa using hi), getElem!_pos lo i hi]; simp
  refine ⟨fun h0 => ?_, fun i hi => ?_, fun i j hij hj n1 n2 => ?_⟩
  · obtain ⟨g, f, h1, h2, h3, h4, h5, h6⟩ := owns_row h.own h0
    refine ⟨g, oc * 3, f, h1, h2, h3, h4, Nat.mul_le_mul_right 3 h5, fun i hi => ?_⟩
    rw [ex i hi]
    exact ⟨h6 _ _ ((oCells_get lo i 0 hi (by omega)).trans rfl), h6 _ _ ((oCells_get lo i 1 hi (by omega)).trans rfl), h6 _ _ ((oCells_get lo i 2 hi (by omega)).trans rfl)⟩
  · show BB w base w.heap.size lo[i]!.a (lo.map LO.x)[i]!.bytes
    rw [ex i hi]
    rcases h.byt _ (mem_at hi) with e | ⟨G, n, h1, h2, h3⟩
    · exact Or.inl e
    · exact Or.inr ⟨G, n, h1, h2, h3.lt, h3⟩
  · have hi : i < lo.length := by omega
    show Apart lo[i]!.a lo[j]!.a
    have m1 : lo[i]!.x.bytes ≠ [] := by rw [← ex i hi]; exact n1
    have m2 : lo[j]!.x.bytes ≠ [] := by rw [← ex j hj]; exact n2
    have := List.pairwise_iff_getElem.1 h.far i j hi hj hij
    rw [getElem!_pos lo i hi] at m1 ⊢
    rw [getElem!_pos lo j hj] at m2 ⊢
    exact this m1 m2
theorem SO.at_ {base : Nat} {w : World} {oa : Option Addr} {oc : Nat} {lo : List LO} (h : SO base w oa oc lo) : OpsAt w oa (lo.map LO.x) := by
  have := h.mo
  rw [← List.length_map (f := LO.x)] at this
  exact this.at_

/-- what ops' answers are -/
def OAns (ops : List OP) (w : World) (e : Ending) (w' : World) : Prop := ∃ oa oc lo, e = .returned (.slice oa ops.length oc) ∧ lo.map LO.x = ops ∧ SO w.heap.size w' oa oc lo ∧ Below w.heap.size w w'
theorem OAns.no {w w' : World} (h : Below w.heap.size w w') : OAns [] w (.returned (.slice none 0 0)) w' := ⟨none, 0, [], rfl, rfl, SO.nil _ _, h⟩

structure KK.Rng (k : KK) : Prop where
  g : 0 ≤ k.gen ∧ k.gen ≤ 1000000000000
  s : k.ok = true → k.slot = 0 ∨ k.slot = 1
theorem newest_rng {d : DD} (h : d.Fit) : d.newestOf.Rng := by
  have fine : ∀ (m : Nat) {k : KK}, m < 2 → k.Fine m → k.Rng := fun m k hm hk => by
    refine ⟨?_, fun e => by have := hk.slot e; omega⟩
    cases e : k.ok with
    | false => rw [hk.no e]; simp [noK]
    | true => have := hk.gen e; omega
  unfold DD.newestOf
  split
  · exact fine 1 (by decide) (DD.slot_fine h (by decide))
  · exact fine 0 (by decide) (DD.slot_fine h (by decide))
theorem cut_get {im : List Nat} {j t : Nat} (h : t < (cutOf im j).length) : 64 * j + t < im.length ∧ t < 64 ∧ (cutOf im j)[t]! = im[64 * j + t]! := by
  have h1 : t < 64 ∧ t < im.length - 64 * j := by simp [cutOf] at h; omega
  refine ⟨by omega, h1.1, ?_⟩
  rw [getElem!_pos _ t h, getElem!_pos im _ (by omega)]
  simp [cutOf]
theorem cut_len (im : List Nat) (j : Nat) : (cutOf im j).length = min 64 (im.length - 64 * j) := by simp [cutOf]
theorem wrapV {F : Nat} (h : F ≤ 200) : Value.int .i64 (wrap64 (F : Int)) = .int .i64 (F : Int) := by
  have e : wrap64 (F : Int) = (F : Int) := by unfold wrap64; omega
  rw [e]
theorem wrapI {F : Nat} (h : F ≤ 200) : Value.int .i64 (IntKind.i64.wrap (F : Int)) = .int .i64 (F : Int) := by
  have e : IntKind.i64.wrap (F : Int) = (F : Int) := by rw [IntKind.wrap_i64]; omega
  rw [e]
theorem nBlk_le {im : List Nat} (h : im.length ≤ 4096) : nBlk im ≤ 64 := by unfold nBlk; omega
theorem first_le {s j : Nat} (hs : s < 2) (hj : j ≤ 64) : firstOf s + j ≤ 200 := by unfold firstOf; omega
theorem nBlk_lt {im : List Nat} {j : Nat} : j < nBlk im ↔ 64 * j < im.length := by unfold nBlk; omega

end Go.Proofs.YtmdpmdmilgbfiaaGreatDoor

/-
  REGIONJ: a region that draws its order, by what holds of what has come up (J): one step an operation, whatever the order. Own work, over the library's own laws on orders.
-/
namespace Go.Proofs.YtmdpmdmilgbfiaaGreatDoor
open Go.RowKit

section
variable {P : Program} {ops : Array Oper} {Q : Exit → Act → World → Prop} {md : Region.Mode}

/-- every operation waits for earlier ones alone -/
def backB (ops : Array Oper) : Bool := (List.range ops.size).all fun i => match ops[i]? with
  | some o => o.after.all fun e => decide (e.on < i)
  | none => true
/-- these are among those that it waits for -/
def predsB (md : Region.Mode) (o : Oper) (ps : List Nat) : Bool := ps.all fun k => o.after.any fun e => Region.binds md e && e.on == k

theorem backB_of (h : backB ops = true) {i : Nat} {o : Oper} (ho : ops[i]? = some o) : ∀ e ∈ o.after, e.on < i := fun e he => by
  have hlt : i < ops.size := (Array.getElem?_eq_some_iff.1 ho).1
  unfold backB at h
  have h2 := List.all_eq_true.1 h i (List.mem_range.2 hlt)
  rw [ho] at h2
  simpa using (Array.all_eq_true_iff_forall_mem.1 h2) e he
theorem all_of_none (hb : backB ops = true) {listed : Array Bool} (hn : listed.size = ops.size) (h : Region.ready md ops listed = []) : ∀ m i, i < m → i < ops.size → listed.getD i false = true
  | 0, i, hi, _ => absurd hi (Nat.not_lt_zero _)
  | m + 1, i, hi, hs => by
    by_cases e : i < m
    · exact all_of_none hb hn h m i e hs
    obtain ⟨o, ho⟩ : ∃ o, ops[i]? = some o := ⟨ops[i], Array.getElem?_eq_getElem hs⟩
    cases hl : listed.getD i false with
    | true => rfl
    | false =>
      have h1 : i ∈ Region.ready md ops listed := mem_ready.2 ⟨by simp [Array.getD, hn, hs] at hl ⊢; exact hl, o, ho, fun e' he _ => by
        have := backB_of hb ho e' he
        exact all_of_none hb hn h m e'.on (by omega) (by omega)⟩
      rw [h] at h1
      cases h1

/-- what one operation owes -/
def StepJ (P : Program) (ops : Array Oper) (Q : Exit → Act → World → Prop) (J : (Nat → Prop) → Act → World → Prop) (i : Nat) (o : Oper) (ps : List Nat) : Prop :=
  ∀ (D : Nat → Prop) (a : Act) (w : World), (∀ k, k ∈ ps → D k) → ¬ D i → J D a w → ∀ K : Act → World → Prop, Shut (∀ a' w', J (fun j => j = i ∨ D j) a' w' → K a' w') → if Region.wanted o (yielded ops a.tmps) = true then Oper.wp P o a w K Q else K (a.put o.dst undef) w

theorem count_set_false {l : Array Bool} {i : Nat} (h : i < l.size) (hf : l.getD i true = false) : (l.setIfInBounds i true).toList.count false + 1 = l.toList.count false := by
  have h1 : l[i] = false := by simpa [Array.getD, h] using hf
  have h2 : l.toList.count false ≠ 0 := fun e => by
    have := List.count_eq_zero.1 e
    exact this (by rw [← h1]; exact Array.getElem_mem_toList h)
  have e1 : l.toList[i]'(by simpa using h) = false := by simpa using h1
  rw [Array.toList_setIfInBounds, List.count_set (by simpa using h), e1]
  simp only [beq_self_eq_true, if_true, show (true == false) = false from rfl, Bool.false_eq_true, if_false]
  omega

theorem wpAny_inv (J : (Nat → Prop) → Act → World → Prop) (hb : backB ops = true)
    (hstep : ∀ i, i < ops.size → ∃ o ps, ops[i]? = some o ∧ predsB md o ps = true ∧ StepJ P ops Q J i o ps)
    (hend : ∀ a w, J (fun i => i < ops.size) a w → Q .normal a w) :
    ∀ (fuel : Nat) (listed : Array Bool) (a : Act) (w : World), listed.size = ops.size → listed.toList.count false ≤ fuel → J (fun i => listed.getD i false = true) a w → wpAny P md ops Q fuel listed a w := by
  have hall : ∀ (listed : Array Bool) (a : Act) (w : World), listed.size = ops.size → Region.ready md ops listed = [] → J (fun i => listed.getD i false = true) a w → Q .normal a w := fun listed a w hn hr hJ => by
    refine hend a w ?_
    have e : (fun i => listed.getD i false = true) = (fun i => i < ops.size) := funext fun i => propext ⟨fun h => by
      rcases Nat.lt_or_ge i listed.size with h' | h'
      · omega
      · simp [Array.getD, Nat.not_lt.2 h'] at h, fun h => all_of_none hb hn hr (i + 1) i (Nat.lt_succ_self _) h⟩
    rw [← e]; exact hJ
  intro fuel
  induction fuel with
  | zero =>
    intro listed a w hn hc hJ
    have hr : Region.ready md ops listed = [] := by
      cases hr : Region.ready md ops listed with
      | nil => rfl
      | cons x xs =>
        have hx : x ∈ Region.ready md ops listed := by rw [hr]; exact List.mem_cons_self ..
        obtain ⟨h1, o, ho, _⟩ := mem_ready.1 hx
        have hlt : x < ops.size := (Array.getElem?_eq_some_iff.1 ho).1
        have := count_set_false (by omega) h1
        omega
    exact ⟨hr, hall listed a w hn hr hJ⟩
  | succ fuel ih =>
    intro listed a w hn hc hJ
    refine ⟨fun hr => hall listed a w hn hr hJ, fun i hi => ?_⟩
    obtain ⟨h1, o, ho, hp⟩ := mem_ready.1 hi
    have hlt : i < ops.size := (Array.getElem?_eq_some_iff.1 ho).1
    obtain ⟨o', ps, ho', hps, hst⟩ := hstep i hlt
    rw [ho] at ho'
    obtain rfl := Option.some.inj ho'
    have hcs := count_set_false (l := listed) (i := i) (by omega) h1
    refine wpOp_step ho (fun K' hK => hst _ a w (fun k hk => ?_) (fun hD => ?_) hJ K' (fun a' w' hJ' => hK a' w' ?_))
    · obtain ⟨e, he, hb2⟩ := Array.any_eq_true'.1 (List.all_eq_true.1 hps k hk)
      simp only [Bool.and_eq_true, beq_iff_eq] at hb2
      have := hp e he hb2.1
      rw [hb2.2] at this
      exact this
    · simp [Array.getD, hn, hlt] at h1 hD
      rw [h1] at hD
      cases hD
    · refine ih _ a' w' (by simpa using hn) (by omega) ?_
      have e : (fun j => (listed.setIfInBounds i true).getD j false = true) = (fun j => j = i ∨ listed.getD j false = true) := funext fun j => propext (by
        by_cases e : j = i
        · subst e
          simp [Array.getD, hn, hlt]
        · rw [getD_set_ne false (Ne.symm e)]
          simp [e])
      rw [e]; exact hJ'

theorem wp_regionJ {id : Nat} {a : Act} {w : World} (J : (Nat → Prop) → Act → World → Prop) (hm : P.follows .mixedOrders = true) (hb : backB ops = true) (h0 : J (fun _ => False) a w.drew)
    (hend : ∀ a w, J (fun i => i < ops.size) a w → Q .normal a w)
    (hstep : ∀ i, i < ops.size → ∃ o ps, ops[i]? = some o ∧ predsB .any o ps = true ∧ StepJ P ops Q J i o ps) : (Code.region id ops true).wp P Q a w := by
  refine wp_region_any hm (wpAny_inv J hb hstep hend ops.size _ a _ (by simp) (by simp) ?_)
  have e : (fun i => (Array.replicate ops.size false).getD i false = true) = (fun _ => False) := funext fun i => propext (by
    by_cases h : i < ops.size
    · simp [Array.getD, h]
    · simp [Array.getD, h])
  rw [e]; exact h0

end
end Go.Proofs.YtmdpmdmilgbfiaaGreatDoor

/-
  REGIONJN: the same inside a fence: a region that draws its order, by what holds of what has come up. Own work, over the library's own laws on orders.
-/
namespace Go.Proofs.YtmdpmdmilgbfiaaGreatDoor
open Go.RowKit

section
variable {F : Fence} {n : Nat} {P : Program} {ops : Array Oper} {Q : Exit → Act → World → Prop} 

/-- one waits for another -/
def edgeB (md : Region.Mode) (ops : Array Oper) (j k : Nat) : Bool := match ops[j]? with
  | some o => o.after.any fun e => Region.binds md e && e.on == k
  | none => false
/-- what one operation owes -/
def StepJN (F : Fence) (n : Nat) (P : Program) (ops : Array Oper) (Q : Exit → Act → World → Prop) (J : (Nat → Prop) → Act → World → Prop) (i : Nat) (o : Oper) (ps : List Nat) : Prop :=
  ∀ (D : Nat → Prop) (a : Act) (w : World), (∀ j k, D j → edgeB .any ops j k = true → D k) → (∀ k, k ∈ ps → D k) → ¬ D i → J D a w → ∀ K : Act → World → Prop, Shut (∀ a' w', J (fun j => j = i ∨ D j) a' w' → K a' w') → if Region.wanted o (yielded ops a.tmps) = true then Oper.wpIn F n P o a w K Q else (∀ f, o.about P w a.eval = some f → F.fn f) ∧ K (a.put o.dst undef) w

theorem wpAnyIn_inv (J : (Nat → Prop) → Act → World → Prop) (hb : backB ops = true)
    (hstep : ∀ i, i < ops.size → ∃ o ps, ops[i]? = some o ∧ predsB .any o ps = true ∧ StepJN F n P ops Q J i o ps)
    (hend : ∀ a w, J (fun i => i < ops.size) a w → Q .normal a w) :
    ∀ (fuel : Nat) (listed : Array Bool) (a : Act) (w : World), listed.size = ops.size → listed.toList.count false ≤ fuel → (∀ j k, listed.getD j false = true → edgeB .any ops j k = true → listed.getD k false = true) → J (fun i => listed.getD i false = true) a w → wpAnyIn F n P .any ops Q fuel listed a w := by
  have hall : ∀ (listed : Array Bool) (a : Act) (w : World), listed.size = ops.size → Region.ready .any ops listed = [] → J (fun i => listed.getD i false = true) a w → Q .normal a w := fun listed a w hn hr hJ => by
    refine hend a w ?_
    have e : (fun i => listed.getD i false = true) = (fun i => i < ops.size) := funext fun i => propext ⟨fun h => by
      rcases Nat.lt_or_ge i listed.size with h' | h'
      · omega
      · simp [Array.getD, Nat.not_lt.2 h'] at h, fun h => all_of_none hb hn hr (i + 1) i (Nat.lt_succ_self _) h⟩
    rw [← e]; exact hJ
  intro fuel
  induction fuel with
  | zero =>
    intro listed a w hn hc hcl hJ
    have hr : Region.ready .any ops listed = [] := by
      cases hr : Region.ready .any ops listed with
      | nil => rfl
      | cons x xs =>
        have hx : x ∈ Region.ready .any ops listed := by rw [hr]; exact List.mem_cons_self ..
        obtain ⟨h1, o, ho, _⟩ := mem_ready.1 hx
        have hlt : x < ops.size := (Array.getElem?_eq_some_iff.1 ho).1
        have := count_set_false (by omega) h1
        omega
    exact ⟨hr, hall listed a w hn hr hJ⟩
  | succ fuel ih =>
    intro listed a w hn hc hcl hJ
    refine ⟨fun hr => hall listed a w hn hr hJ, fun i hi => ?_⟩
    obtain ⟨h1, o, ho, hp⟩ := mem_ready.1 hi
    have hlt : i < ops.size := (Array.getElem?_eq_some_iff.1 ho).1
    obtain ⟨o', ps, ho', hps, hst⟩ := hstep i hlt
    rw [ho] at ho'
    obtain rfl := Option.some.inj ho'
    have hcs := count_set_false (l := listed) (i := i) (by omega) h1
    refine wpOpIn_step ho (fun K' hK => hst _ a w hcl (fun k hk => ?_) (fun hD => ?_) hJ K' (fun a' w' hJ' => hK a' w' ?_))
    · obtain ⟨e, he, hb2⟩ := Array.any_eq_true'.1 (List.all_eq_true.1 hps k hk)
      simp only [Bool.and_eq_true, beq_iff_eq] at hb2
      have := hp e he hb2.1
      rw [hb2.2] at this
      exact this
    · simp [Array.getD, hn, hlt] at h1 hD
      rw [h1] at hD
      cases hD
    · refine ih _ a' w' (by simpa using hn) (by omega) (fun j k hj he => ?_) ?_
      · have hk : listed.getD k false = true := by
          by_cases e : j = i
          · subst e
            unfold edgeB at he
            rw [ho] at he
            obtain ⟨e, hem, hb2⟩ := Array.any_eq_true'.1 he
            simp only [Bool.and_eq_true, beq_iff_eq] at hb2
            have := hp e hem hb2.1
            rw [hb2.2] at this
            exact this
          · rw [getD_set_ne false (Ne.symm e)] at hj
            exact hcl j k hj he
        by_cases e : k = i
        · subst e; simp [Array.getD, hn, hlt]
        · rw [getD_set_ne false (Ne.symm e)]; exact hk
      have e : (fun j => (listed.setIfInBounds i true).getD j false = true) = (fun j => j = i ∨ listed.getD j false = true) := funext fun j => propext (by
        by_cases e : j = i
        · subst e
          simp [Array.getD, hn, hlt]
        · rw [getD_set_ne false (Ne.symm e)]
          simp [e])
      rw [e]; exact hJ'

theorem wpIn_regionJ {id : Nat} {a : Act} {w : World} (J : (Nat → Prop) → Act → World → Prop) (hm : P.follows .mixedOrders = true) (hb : backB ops = true) (h0 : J (fun _ => False) a w.drew)
    (hend : ∀ a w, J (fun i => i < ops.size) a w → Q .normal a w)
    (hstep : ∀ i, i < ops.size → ∃ o ps, ops[i]? = some o ∧ predsB .any o ps = true ∧ StepJN F n P ops Q J i o ps) : (Code.region id ops true).wpIn F n P Q a w := by
  refine wpIn_region_any hm (wpAnyIn_inv J hb hstep hend ops.size _ a _ (by simp) (by simp) (fun j k hj _ => ?_) ?_)
  · by_cases h : j < ops.size
    · simp [Array.getD, h] at hj
    · simp [Array.getD, h] at hj
  have e : (fun i => (Array.replicate ops.size false).getD i false = true) = (fun _ => False) := funext fun i => propext (by
    by_cases h : i < ops.size
    · simp [Array.getD, h]
    · simp [Array.getD, h])
  rw [e]; exact h0

end
end Go.Proofs.YtmdpmdmilgbfiaaGreatDoor

/-
  CHUNK: the pieces of a slice, one after the other. Own work.
-/
namespace Go.Proofs.YtmdpmdmilgbfiaaGreatDoor
open Go.RowKit Go.Shelf
attribute [local go_sem] Oper.semAt_some

/-- a piece, as it is handed on -/
def partV (b off : Nat) (im : List Nat) (x : Nat) : Value := .slice (some ⟨b, off + 64 * x, none⟩) (cutOf im x).length (cutOf im x).length
theorem part_bytes {w : World} {b off : Nat} {im : List Nat} (h : BytesAt w (some ⟨b, off, none⟩) im) (x : Nat) : BytesAt w (some ⟨b, off + 64 * x, none⟩) (cutOf im x) := fun i hi => by
  have h1 : i < 64 ∧ i < im.length - 64 * x := by simp [cutOf] at hi; omega
  obtain ⟨b', off', e, hc⟩ := h (64 * x + i) (by omega)
  injection e with e
  injection e with e1 e2
  subst e1
  subst e2
  have e3 : (cutOf im x)[i]! = im[64 * x + i]! := by
    rw [getElem!_pos _ i hi, getElem!_pos im _ (by omega)]
    simp [cutOf]
  exact ⟨b, off + 64 * x, rfl, by rw [e3, Nat.add_assoc]; exact hc⟩

/-- what a round keeps: all that lay ahead of the loop but the caller's own variable -/
def KpC (n₀ : Nat) (q : Nat → Prop) (W W' : World) : Prop := Kept (fun z => q z ∨ n₀ ≤ z) W W'

set_option maxRecDepth 100000 in
theorem chunk_any (ia : Option Addr) (n ic : Nat) (w : World) :
    Calls Tryz.prog 52 #[.slice ia n ic, .int .i64 64] w fun e w' => e = .returned (.func (.func 93) #[] #[.pointer (some ⟨w.heap.size, 0, none⟩), .pointer (some ⟨w.heap.size + 1, 0, none⟩)]) ∧ w' = (w.alloc (.cells #[.slice ia n ic] 22)).alloc (.cells #[.int .i64 64] 3) := by
  go_enter Tryz.func52, Tryz.ntmps52
  go_wp2
  go_ret
  exact ⟨rfl, by simp⟩

theorem range_pre {j m : Nat} (h : j < m) : List.range (j + 1) <+: List.range m := by
  obtain ⟨k, rfl⟩ : ∃ k, m = (j + 1) + k := ⟨m - (j + 1), by omega⟩
  exact ⟨(List.range k).map (fun x => (j + 1) + x), List.range_add.symm⟩

set_option maxRecDepth 100000 in
set_option maxHeartbeats 1000000 in
theorem chunk1_in (n : Nat) (hn : 1 ≤ n) (l B1 B2 n₀ b off ic : Nat) (q : Nat → Prop) (im : List Nat) (hil : im.length ≤ 4096) (hic : im.length ≤ ic) (_hb : b < n₀ ∧ ¬ q b) (h1 : B1 < n₀ ∧ ¬ q B1) (h2 : B2 < n₀ ∧ ¬ q B2) (J Jx : List Nat → World → Prop) {Bj : Nat} (hJ : AbidesFrom Bj J)
    (hY : ∀ pre x W, J pre W → pre.length < nBlk im → YieldAt Fence.wide (n - 1) Tryz.prog l #[partV b off im x] W fun e W' =>
      (e = .returned (.bool true) ∧ J (pre ++ [x]) W' ∧ KpC n₀ q W W') ∨ (e = .returned (.bool false) ∧ Jx (pre ++ [x]) W'))
    (W : World) (hB1 : W.cell? ⟨B1, 0, none⟩ = some (.slice (some ⟨b, off, none⟩) im.length ic)) (hB2 : W.cell? ⟨B2, 0, none⟩ = some (.int .i64 64)) (h0 : J [] W) :
    CallsIn Fence.wide n Tryz.prog 93 #[.func (.yield l) #[] #[], .pointer (some ⟨B1, 0, none⟩), .pointer (some ⟨B2, 0, none⟩)] W fun e W' => (∃ v, e = .returned v) ∧
      ((∃ ys, ys = List.range (nBlk im) ∧ J ys W') ∨ (∃ pre, pre <+: List.range (nBlk im) ∧ Jx pre W')) := by
  refine callsIn_of_wp Tryz.func93 rfl trivial ?_ rfl
  simp only [Tryz.ntmps93, List.size_toArray, List.length_cons, List.length_nil, Nat.reduceAdd, Nat.reduceSub, Array.replicate_succ, Array.replicate_zero, List.push_toArray, List.append_toArray, List.nil_append, List.cons_append]
  gi_wp2
  gi_loopw [4] (fun i wr => ∃ j : Nat, j ≤ nBlk im ∧ i = .int .i64 ((64 * j : Nat) : Int) ∧ J (List.range j) wr ∧ wr.cell? ⟨B1, 0, none⟩ = some (.slice (some ⟨b, off, none⟩) im.length ic) ∧ wr.cell? ⟨B2, 0, none⟩ = some (.int .i64 64)) (fun i _ => im.length + 64 - (intOf i).toNat)
  case atStart => exact ⟨0, Nat.zero_le _, rfl, h0, hB1, hB2⟩
  case round =>
    obtain ⟨j, hj, rfl, hJs, c1, c2⟩ := hrel
    obtain ⟨p, hp⟩ := hid_ex (64 * j)
    rw [← hp.out]
    by_cases hlt : j < nBlk im
    · have hpl : (p : Int) < (im.length : Int) := by have := hp.out; unfold nBlk at hlt; omega
      have i0 : (0 : Int) ≤ (p : Int) := by omega
      have i1 : (p : Int) ≤ (ic : Int) := by omega
      have i2 : (p : Int) ≤ (im.length : Int) := by omega
      gi_wp2
      refine wpIn_wide.2 ?_
      go_quiet (fail)
      obtain ⟨en, hen⟩ := hid_ex (cutOf im j).length
      have hene : en = min 64 (im.length - p) := by rw [hen.out, hp.out]; simp [cutOf]
      have hmin : (if ((im.length - p : Nat) : Int) < 64 then ((im.length - p : Nat) : Int) else 64) = (en : Int) := by split <;> omega
      rw [hmin]
      have hJd : J (List.range j) (wr.drewN nq) := hJ _ _ _ none hJs ⟨rfl, rfl, rfl, Nat.le_refl _, fun _ _ _ => rfl⟩ (fun r e => by cases e)
      have c1 : (wr.drewN nq).cell? ⟨B1, 0, none⟩ = some (.slice (some ⟨b, off, none⟩) im.length ic) := c1
      have c2 : (wr.drewN nq).cell? ⟨B2, 0, none⟩ = some (.int .i64 64) := c2
      generalize wr.drewN nq = wd at hJd c1 c2 ⊢
      obtain ⟨fn, tmps, assign, body, hy, hR⟩ := hY (List.range j) j wd hJd (by simpa using hlt)
      unfold partV at hy
      rw [← hp.out, ← hen.out] at hy
      have he64 : en ≤ 64 := by omega
      have hpe : p + en ≤ im.length := by omega
      have hen1 : 0 < en := by omega
      have hen2 : en ≠ 0 := by omega
      clear hene hmin
      gi_wp2
      refine hR.mono ?_
      rintro e W3 (⟨rfl, hJ3, hk3⟩ | ⟨rfl, hJx3⟩)
      · have c1 : W3.cell? ⟨B1, 0, none⟩ = some (.slice (some ⟨b, off, none⟩) im.length ic) := hk3.cell c1 (by rintro (e | e); exact h1.2 e; omega)
        have c2 : W3.cell? ⟨B2, 0, none⟩ = some (.int .i64 64) := hk3.cell c2 (by rintro (e | e); exact h2.2 e; omega)
        gi_wp2
        go_roundw
        case rel => exact ⟨j + 1, by omega, by rw [show 64 * (j + 1) = p + 64 by have := hp.out; omega]; go_num, by rw [List.range_succ]; exact hJ3, c1, c2⟩
        case measure => simp [intOf]; omega
      · gi_wp2
        refine bodyPost_ret (results_none rfl _ _ _) rfl ?_
        exact ⟨⟨_, rfl⟩, .inr ⟨List.range j ++ [j], by rw [← List.range_succ]; exact range_pre hlt, hJx3⟩⟩
    · have hpl : ¬ ((p : Int) < (im.length : Int)) := by have := hp.out; unfold nBlk at hlt; omega
      obtain rfl : j = nBlk im := by omega
      gi_wp2
      go_end0
      exact ⟨⟨_, rfl⟩, .inl hJs⟩

/-- the pieces, handed on one after the other -/
theorem chunk_stops (n : Nat) (hn : 1 ≤ n) (B1 B2 n₀ b off ic : Nat) (q : Nat → Prop) (im : List Nat) (hil : im.length ≤ 4096) (hic : im.length ≤ ic) (hb : b < n₀ ∧ ¬ q b) (h1 : B1 < n₀ ∧ ¬ q B1) (h2 : B2 < n₀ ∧ ¬ q B2) (w : World) (hn₀ : n₀ ≤ w.heap.size)
    (hB1 : w.cell? ⟨B1, 0, none⟩ = some (.slice (some ⟨b, off, none⟩) im.length ic)) (hB2 : w.cell? ⟨B2, 0, none⟩ = some (.int .i64 64)) :
    SeqStopsK Fence.wide n Tryz.prog 93 #[.pointer (some ⟨B1, 0, none⟩), .pointer (some ⟨B2, 0, none⟩)] (fun x : Nat => #[partV b off im x]) (KpC n₀ q) (fun ys => ys = List.range (nBlk im)) (fun pre => pre <+: List.range (nBlk im)) (nBlk im) w := fun l J Jx W hW hJ _ hY h0 =>
  chunk1_in n hn l B1 B2 n₀ b off ic q im hil hic hb h1 h2 J Jx hJ hY W ((hW.cell (p := ⟨B1, 0, none⟩) (by show B1 < _; omega)).trans hB1) ((hW.cell (p := ⟨B2, 0, none⟩) (by show B2 < _; omega)).trans hB2) h0

end Go.Proofs.YtmdpmdmilgbfiaaGreatDoor
