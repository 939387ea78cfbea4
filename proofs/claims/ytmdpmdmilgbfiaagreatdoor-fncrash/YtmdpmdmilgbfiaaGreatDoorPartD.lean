import Derived.Deep.RegionHeld3
import Derived.Deep.QuietTactic
import Derived.BigQuiet
import Derived.WalkLawsBesides
import Derived.Lib.AppendStr
import Derived.Laws.BitsAllLaws
import Derived.Test.YtmdpmdmilgbfiaaGreatDoorPartC

/-
  SCOPY: the specification's copy of bytes. Own work.
-/
namespace Go.Proofs.YtmdpmdmilgbfiaaGreatDoor
open Go.RowKit

theorem owns_bytes {w : World} {base t cap : Nat} {a : Option Addr} {bs : List Nat} (h : w.ownsRow base t 1 (.slice a bs.length cap) bs.length (bcells bs)) : BytesAt w a bs := fun i hi => by
  obtain ⟨g, ha, _, _, hc⟩ := owns_cell h (bcells_get hi)
  exact ⟨g, 0, ha, by rw [Nat.zero_add]; exact hc⟩
theorem owns_isB {w : World} {base size n cap : Nat} {a : Option Addr} {xs : List Value} (h : w.ownsRow base 5 size (.slice a n cap) n xs) {z : Nat} (hz : (Value.slice a n cap).ownBlock = some z) : IsB w z ∧ base ≤ z := by
  have ha := owns_addr h hz
  rcases h.2 with ⟨e, _⟩ | ⟨g, cap', cur, hv, hb, hg, _⟩
  · simp at e
    rw [e.1] at ha
    cases ha
  · simp only [Value.slice.injEq] at hv
    rw [ha] at hv
    obtain rfl := some_addr hv.1
    exact ⟨⟨cur, hg⟩, hb⟩
/-- a block of lists of bytes -/
def IsS (w : World) (b : Nat) : Prop := ∃ c, w.heap[b]? = some (.cells c 22 (0, 0))
theorem owns_isS {w : World} {base size n cap : Nat} {a : Option Addr} {xs : List Value} (h : w.ownsRow base 22 size (.slice a n cap) n xs) {z : Nat} (hz : (Value.slice a n cap).ownBlock = some z) : IsS w z ∧ base ≤ z := by
  have ha := owns_addr h hz
  rcases h.2 with ⟨e, _⟩ | ⟨g, cap', cur, hv, hb, hg, _⟩
  · simp at e
    rw [e.1] at ha
    cases ha
  · simp only [Value.slice.injEq] at hv
    rw [ha] at hv
    obtain rfl := some_addr hv.1
    exact ⟨⟨cur, hg⟩, hb⟩
theorem not_B_of_S {w : World} {b : Nat} (h : IsS w b) : ¬ IsB w b := fun ⟨c, hc⟩ => by
  obtain ⟨c', hc'⟩ := h
  rw [hc] at hc'
  simp at hc'
theorem not_W_of_S {w : World} {b : Nat} (h : IsS w b) : ¬ IsW w b := fun ⟨c, hc⟩ => by
  obtain ⟨c', hc'⟩ := h
  rw [hc] at hc'
  simp at hc'

set_option maxRecDepth 100000 in
theorem l2copy_any (a : Option Addr) (bs : List Nat) (cap : Nat) (w : World) (hl : bs.length ≤ 1048576) (ha : BytesAt w a bs) :
    Calls Tryz.prog 110 #[.slice a bs.length cap] w fun e w' => ∃ oa c, e = .returned (.slice oa bs.length c) ∧ w'.ownsRow w.heap.size 5 1 (.slice oa bs.length c) bs.length (bcells bs) ∧ Below w.heap.size w w' := by
  obtain ⟨i0, hi, hz0, hz1, hz2⟩ := info_parts info_u8
  go_enter Tryz.func110, Tryz.ntmps110
  go_wp2
  go_loopw [3, 8] (fun o i wr => ∃ (k : Nat) (oa : Option Addr) (c : Nat), k ≤ bs.length ∧ i = .int .i64 k ∧ o = .slice oa k c ∧ wr.ownsRow w.heap.size 5 1 (.slice oa k c) k (bcells (bs.take k)) ∧ Below w.heap.size w wr) (fun _ i _ => bs.length - (intOf i).toNat)
  case atStart => exact ⟨0, none, 0, Nat.zero_le _, rfl, rfl, owns_none _ _ _ _, gre _⟩
  case round =>
    obtain ⟨k, oa, c, hk, rfl, rfl, hO, hb⟩ := hrel
    by_cases hlt : k < bs.length
    · obtain ⟨x, b, off, hxk, hxm, rfl, hc⟩ := (ha.grow hb).get hlt
      have hsz := hb.size
      go_wp2_with (at_builtin; refine wpList_append_lies _ rfl (.tmp 12) (.tmp 14) 22 rfl w.heap.size 5 i0 (.int .u8 0) 1 1 Tryz.underlying22 hi hz0 hz1 hz2 rfl (by decide) _ _ _ rfl (hO.alloc _) ⟨wr.heap.size, 0, none⟩ 1 1 [.int .u8 (x : Int)] rfl rfl (World.news_of_block (cs := #[.int .u8 (x : Int)]) (t := 5) (fr := (0, 0)) (blk_new_at _ _ _ (by simp))) (by simp [Value.oneCell']) (by decide) (by unfold maxLen; omega) (by omega) (by simp; omega) (wr.heap.size + 1) (by simp) ?_; intro g cap2 w1 hown1 hgrow hat hlt2)
      have hK := (Kept.of_grown hgrow).below (B := w.heap.size) (by simp; omega) (fun z hz e => by have := (hO.lt z e).1; omega)
      have e1 : bcells (bs.take (k + 1)) = bcells (bs.take k) ++ [.int .u8 (x : Int)] := by rw [take_snoc _ _ hlt, bcells_snoc, hxk.out]
      go_roundw
      case rel => exact ⟨k + 1, some ⟨g, 0, none⟩, cap2, by omega, by go_num, rfl, by rw [e1]; exact hown1, (gal hb _).trans hK⟩
      case measure => simp [intOf]; omega
    · obtain rfl : k = bs.length := by omega
      rw [List.take_length] at hO
      go_wp2
      go_ret
      exact ⟨oa, c, rfl, hO, hb⟩

end Go.Proofs.YtmdpmdmilgbfiaaGreatDoor

/-
  SBLK: lists of bytes and writes that the specification appends to. Own work.
-/
namespace Go.Proofs.YtmdpmdmilgbfiaaGreatDoor
open Go.RowKit

/-- bytes, and where they lie -/
structure LB where
  l : List Nat
  a : Option Addr
  cap : Nat
  deriving Inhabited
def LB.v (y : LB) : Value := .slice y.a y.l.length y.cap

structure SB (base : Nat) (wr : World) (ba : Option Addr) (bc : Nat) (lb : List LB) : Prop where
  own : wr.ownsRow base 22 1 (.slice ba lb.length bc) lb.length (lb.map LB.v)
  byt : ∀ y, y ∈ lb → wr.ownsRow base 5 1 (.slice y.a y.l.length y.cap) y.l.length (bcells y.l)
theorem SB.kept {p : Nat → Prop} {base : Nat} {w w' : World} {ba : Option Addr} {bc : Nat} {lb : List LB} (h : SB base w ba bc lb) (K : Kept p w w') (hp : ∀ z, p z → base ≤ z → ¬ IsS w z ∧ ¬ IsB w z) : SB base w' ba bc lb :=
  ⟨K.owns h.own (fun z hz e => let r := owns_isS h.own hz; (hp z e r.2).1 r.1), fun y hy => K.owns (h.byt y hy) (fun z hz e => let r := owns_isB (h.byt y hy) hz; (hp z e r.2).2 r.1)⟩
theorem SB.grow {base : Nat} {w w' : World} {ba : Option Addr} {bc : Nat} {lb : List LB} (h : SB base w ba bc lb) (hb : Below w.heap.size w w') : SB base w' ba bc lb := h.kept (Kept.of_below hb (fun _ => False)) (fun _ e => e.elim)
theorem SB.nil (base : Nat) (w : World) : SB base w none 0 [] := ⟨owns_none _ _ _ _, fun y hy => by cases hy⟩
theorem SB.push {base : Nat} {w w5 : World} {ba : Option Addr} {bc : Nat} {lb : List LB} (h : SB base w ba bc lb) {y : LB} (hy : w.ownsRow base 5 1 (.slice y.a y.l.length y.cap) y.l.length (bcells y.l)) {gg cc : Nat}
    (hown : w5.ownsRow base 22 1 (.slice (some ⟨gg, 0, none⟩) (lb.length + 1) cc) (lb.length + 1) (lb.map LB.v ++ [y.v])) (hgrow : w.grownBy w5 (Value.slice ba lb.length bc).ownBlock) : SB base w5 (some ⟨gg, 0, none⟩) cc (lb ++ [y]) := by
  have K := Kept.of_grown hgrow
  refine ⟨by rw [List.map_append, List.length_append]; exact hown, fun x hx => ?_⟩
  have hb : ∀ {x : LB}, w.ownsRow base 5 1 (.slice x.a x.l.length x.cap) x.l.length (bcells x.l) → w5.ownsRow base 5 1 (.slice x.a x.l.length x.cap) x.l.length (bcells x.l) := fun hx => K.owns hx (fun z hz e => not_B_of_S (owns_isS h.own e).1 (owns_isB hx hz).1)
  rcases List.mem_append.1 hx with e | e
  · exact hb (h.byt x e)
  · obtain rfl : x = y := by simpa using e
    exact hb hy
theorem LB.get {lb : List LB} {i : Nat} (hi : i < lb.length) : (lb.map LB.v)[i]? = some (lb[i]!.v) := by rw [getElem!_pos lb i hi]; simp [hi]
theorem SB.at_ {base : Nat} {w : World} {ba : Option Addr} {bc : Nat} {lb : List LB} (h : SB base w ba bc lb) : BlksAt w ba (lb.map (·.l)) := fun i hi => by
  have hi' : i < lb.length := by simpa using hi
  obtain ⟨g, ha, _, _, hc⟩ := owns_cell h.own (LB.get hi')
  have e : (lb.map (·.l))[i]! = lb[i]!.l := by rw [getElem!_pos _ i hi, getElem!_pos lb i hi']; simp
  rw [e]
  exact ⟨g, 0, lb[i]!.a, lb[i]!.cap, ha, by rw [Nat.zero_add]; exact hc, owns_bytes (h.byt _ (mem_at hi'))⟩

structure SW (base : Nat) (wr : World) (wa : Option Addr) (wc : Nat) (lw : List LW) : Prop where
  own : wr.ownsRow base 125 2 (.slice wa lw.length wc) lw.length (wCells lw)
  byt : ∀ y, y ∈ lw → wr.ownsRow base 5 1 (.slice y.a y.x.bytes.length y.cap) y.x.bytes.length (bcells y.x.bytes)
theorem SW.kept {p : Nat → Prop} {base : Nat} {w w' : World} {wa : Option Addr} {wc : Nat} {lw : List LW} (h : SW base w wa wc lw) (K : Kept p w w') (hp : ∀ z, p z → base ≤ z → ¬ IsW w z ∧ ¬ IsB w z) : SW base w' wa wc lw :=
  ⟨K.owns h.own (fun z hz e => let r := owns_isW h.own hz; (hp z e r.2).1 r.1), fun y hy => K.owns (h.byt y hy) (fun z hz e => let r := owns_isB (h.byt y hy) hz; (hp z e r.2).2 r.1)⟩
theorem SW.grow {base : Nat} {w w' : World} {wa : Option Addr} {wc : Nat} {lw : List LW} (h : SW base w wa wc lw) (hb : Below w.heap.size w w') : SW base w' wa wc lw := h.kept (Kept.of_below hb (fun _ => False)) (fun _ e => e.elim)
theorem SW.nil (base : Nat) (w : World) : SW base w none 0 [] := ⟨owns_none _ _ _ _, fun y hy => by cases hy⟩
theorem SW.push {base : Nat} {w w5 : World} {wa : Option Addr} {wc : Nat} {lw : List LW} (h : SW base w wa wc lw) {y : LW} (hy : w.ownsRow base 5 1 (.slice y.a y.x.bytes.length y.cap) y.x.bytes.length (bcells y.x.bytes)) {gg cc : Nat}
    (hown : w5.ownsRow base 125 2 (.slice (some ⟨gg, 0, none⟩) (lw.length + 1) cc) (lw.length + 1) (wCells lw ++ [.int .i64 y.x.block, .slice y.a y.x.bytes.length y.cap])) (hgrow : w.grownBy w5 (Value.slice wa lw.length wc).ownBlock) : SW base w5 (some ⟨gg, 0, none⟩) cc (lw ++ [y]) := by
  have K := Kept.of_grown hgrow
  refine ⟨by rw [wCells_snoc, List.length_append]; exact hown, fun x hx => ?_⟩
  have hb : ∀ {x : LW}, w.ownsRow base 5 1 (.slice x.a x.x.bytes.length x.cap) x.x.bytes.length (bcells x.x.bytes) → w5.ownsRow base 5 1 (.slice x.a x.x.bytes.length x.cap) x.x.bytes.length (bcells x.x.bytes) := fun hx => K.owns hx (fun z hz e => not_B_of_W (owns_isW h.own e).1 (owns_isB hx hz).1)
  rcases List.mem_append.1 hx with e | e
  · exact hb (h.byt x e)
  · obtain rfl : x = y := by simpa using e
    exact hb hy
theorem SW.at_ {base : Nat} {w : World} {wa : Option Addr} {wc : Nat} {lw : List LW} (h : SW base w wa wc lw) : WrsAt w wa (lw.map (·.x)) := fun i hi => by
  have hi' : i < lw.length := by simpa using hi
  obtain ⟨g, ha, _, _, hc⟩ := owns_cell h.own ((wCells_get lw i 0 hi' (by omega)).trans rfl)
  obtain ⟨g1, ha1, _, _, hc1⟩ := owns_cell h.own ((wCells_get lw i 1 hi' (by omega)).trans rfl)
  rw [ha] at ha1
  obtain rfl := some_addr ha1
  have e : (lw.map (·.x))[i]! = lw[i]!.x := by rw [getElem!_pos _ i hi, getElem!_pos lw i hi']; simp
  rw [e]
  exact ⟨g, 0, lw[i]!.a, lw[i]!.cap, ha, by rw [Nat.zero_add]; exact hc, by rw [Nat.zero_add]; exact hc1, owns_bytes (h.byt _ (mem_at hi'))⟩

/-- a disk's own variable, written -/
structure VB (wr : World) (V : Nat) (s0 s1 : Value) : Prop where
  v0 : wr.cell? ⟨V, 0, none⟩ = some s0
  v1 : wr.cell? ⟨V, 1, none⟩ = some s1
  vf : ∀ o, wr.frozen? ⟨V, o, none⟩ = false
theorem VB.lt {w : World} {V : Nat} {s0 s1 : Value} (h : VB w V s0 s1) : V < w.heap.size := World.block_lt_of_cell? w ⟨V, 0, none⟩ h.v0
theorem VB.kept {p : Nat → Prop} {w w' : World} {V : Nat} {s0 s1 : Value} (h : VB w V s0 s1) (K : Kept p w w') (hn : ¬ p V) : VB w' V s0 s1 :=
  ⟨K.cell h.v0 hn, K.cell h.v1 hn, fun o => (World.frozen?_of_block (w := w) (a := ⟨V, o, none⟩) (K.block V h.lt hn)).trans (h.vf o)⟩
theorem VB.grow {w w' : World} {V : Nat} {s0 s1 : Value} (h : VB w V s0 s1) (hb : Below w.heap.size w w') : VB w' V s0 s1 := h.kept (Kept.of_below hb (fun _ => False)) (fun e => e)
theorem VB.set0 {w : World} {V : Nat} {s0 s1 : Value} (h : VB w V s0 s1) (s : Value) : VB (w.setCell ⟨V, 0, none⟩ s) V s s1 :=
  ⟨World.cell?_setCell_same _ _ _ h.v0, (World.cell?_setCell_other _ _ _ _ (by simp)).trans h.v1, fun o => by rw [World.frozen?_setCell]; exact h.vf o⟩
theorem VB.set1 {w : World} {V : Nat} {s0 s1 : Value} (h : VB w V s0 s1) (s : Value) : VB (w.setCell ⟨V, 1, none⟩ s) V s0 s :=
  ⟨(World.cell?_setCell_other _ _ _ _ (by simp)).trans h.v0, World.cell?_setCell_same _ _ _ h.v1, fun o => by rw [World.frozen?_setCell]; exact h.vf o⟩
theorem VB.new (w : World) (s0 s1 : Value) (t : TypeId) : VB (w.alloc (.cells #[s0, s1] t)) w.heap.size s0 s1 := ⟨by simp, by simp, fun o => by simp⟩
theorem VB.new_at (w : World) (s0 s1 : Value) (t : TypeId) (V : Nat) (hV : V = w.heap.size) : VB (w.alloc (.cells #[s0, s1] t)) V s0 s1 := by subst hV; exact VB.new w s0 s1 t
theorem Kept.one (w : World) (V o : Nat) (s : Value) : Kept (fun b => b = V) w (w.setCell ⟨V, o, none⟩ s) := (Kept.refl (fun b => b = V) w).set (a := ⟨V, o, none⟩) (fun _ => rfl) s
theorem SB.set {base : Nat} {w : World} {ba : Option Addr} {bc : Nat} {lb : List LB} (h : SB base w ba bc lb) {V : Nat} (hV : V < base) (o : Nat) (s : Value) : SB base (w.setCell ⟨V, o, none⟩ s) ba bc lb := h.kept (Kept.one w V o s) (fun z e hz => by omega)
theorem SW.set {base : Nat} {w : World} {wa : Option Addr} {wc : Nat} {lw : List LW} (h : SW base w wa wc lw) {V : Nat} (hV : V < base) (o : Nat) (s : Value) : SW base (w.setCell ⟨V, o, none⟩ s) wa wc lw := h.kept (Kept.one w V o s) (fun z e hz => by omega)

end Go.Proofs.YtmdpmdmilgbfiaaGreatDoor

/-
  OK: whether a graph is well made: the specification's word and the program's. Own work.
-/
namespace Go.Proofs.YtmdpmdmilgbfiaaGreatDoor
open Go.RowKit

def okV (n : Nat) (v : GV) : Bool :=
  if v.kind = 0 then decide (v.num = 0 ∧ v.text.toList = [] ∧ v.node = 0)
  else if v.kind = 1 ∨ v.kind = 2 then decide (v.text.toList = [] ∧ v.node = 0)
  else if v.kind = 3 then decide (v.num = 0 ∧ v.node = 0 ∧ v.text.size ≤ 1000)
  else if v.kind = 4 then decide (v.num = 0 ∧ v.text.toList = [] ∧ 0 ≤ v.node ∧ v.node < n)
  else false

set_option maxRecDepth 100000 in
theorem specVal_any (a : Option Addr) (cap : Nat) (g : GG) (v : GV) (w : World) :
    Calls Tryz.prog 87 #[g.val a cap, v.val] w fun e w' => e = .returned (.bool (okV g.nodes.length v)) ∧ Below w.heap.size w w' := by
  go_enter Tryz.func87, Tryz.ntmps87
  go_wp2
  all_goals go_ret
  all_goals refine ⟨ret_bool ?_, gal (gal (gre _) _) _⟩
  all_goals simp_all [okV]
  all_goals first | omega | rfl | (rw [Bool.eq_iff_iff]; simp)

set_option maxRecDepth 100000 in
theorem implVal_any (n : Nat) (v : GV) (w : World) :
    Calls Tryz.prog 79 #[v.val, .int .i64 n] w fun e w' => e = .returned (.bool (okV n v)) ∧ Below w.heap.size w w' := by
  go_enter Tryz.func79, Tryz.ntmps79
  go_wp2
  all_goals go_ret
  all_goals refine ⟨ret_bool ?_, gal (gre _) _⟩
  all_goals simp_all [okV]
  all_goals omega

end Go.Proofs.YtmdpmdmilgbfiaaGreatDoor

/-
  OK2: nodes and graphs that are well made: the specification's word and the program's. Own work.
-/
namespace Go.Proofs.YtmdpmdmilgbfiaaGreatDoor
open Go.RowKit

def okN (n : Nat) (x : GN) : Bool := decide (0 ≤ x.tag ∧ x.tag ≤ 1000 ∧ x.vals.length ≤ 100) && x.vals.all (okV n)
def okG (g : GG) : Bool := decide (g.nodes.length ≤ 300) && okV g.nodes.length g.root && g.nodes.all (okN g.nodes.length)

set_option maxRecDepth 100000 in
theorem all_take_succ {α : Type} [Inhabited α] {p : α → Bool} {l : List α} {k : Nat} (h : k < l.length) (h1 : (l.take k).all p = true) (h2 : p l[k]! = true) : (l.take (k + 1)).all p = true := by
  rw [take_snoc l k h, List.all_append, h1, List.all_cons, h2]; rfl
theorem all_false_at {α : Type} [Inhabited α] {p : α → Bool} {l : List α} {k : Nat} (h : k < l.length) (h2 : p l[k]! = false) : l.all p = false := by
  rw [List.all_eq_false]; exact ⟨l[k]!, mem_at h, by rw [h2]; exact Bool.false_ne_true⟩

set_option maxRecDepth 100000 in
theorem okN_false {n : Nat} {x : GN} (h : x.tag < 0 ∨ 1000 < x.tag ∨ 100 < x.vals.length) : okN n x = false := by
  unfold okN; rw [decide_eq_false (by omega)]; rfl
theorem okN_vals {n : Nat} {x : GN} (h : 0 ≤ x.tag ∧ x.tag ≤ 1000 ∧ x.vals.length ≤ 100) : okN n x = x.vals.all (okV n) := by
  unfold okN; rw [decide_eq_true h]; rfl

set_option maxRecDepth 100000 in
theorem implNode_any (n : Nat) (x : GN) (a : Option Addr) (cap : Nat) (w : World) (hl : x.vals.length ≤ maxLen) (ha : ValsAt w.heap.size w a x.vals) :
    Calls Tryz.prog 80 #[.agg #[.int .i64 x.tag, .slice a x.vals.length cap], .int .i64 n] w fun e w' => e = .returned (.bool (okN n x)) ∧ Below w.heap.size w w' := by
  unfold maxLen at hl
  by_cases hok : 0 ≤ x.tag ∧ x.tag ≤ 1000 ∧ x.vals.length ≤ 100
  · have hkv : Hid _ := okN_vals (n := n) hok
    obtain ⟨h1, h2, h3⟩ := hok
    have t0 : decide (x.tag < 0) = false := decide_eq_false (by omega)
    have t1 : decide (1000 < x.tag) = false := decide_eq_false (by omega)
    have t2 : decide (100 < (x.vals.length : Int)) = false := decide_eq_false (by omega)
    go_enter Tryz.func80, Tryz.ntmps80
    go_wp2
    go_loopw [24] (fun i wr => ∃ k : Nat, k ≤ x.vals.length ∧ i = .int .i64 k ∧ (x.vals.take k).all (okV n) = true ∧ Below w.heap.size w wr) (fun i _ => x.vals.length - (intOf i).toNat)
    case atStart => exact ⟨0, Nat.zero_le _, rfl, by simp, gal (gre _) _⟩
    case round =>
      obtain ⟨k, hk, rfl, hall, hb⟩ := hrel
      by_cases hlt : k < x.vals.length
      · obtain ⟨v, b, off, hvk, hvm, rfl, hbs, hva⟩ := ha.get hlt
        have hva := hva.below hb hbs
        have c0 := hva.kind
        have c1 := hva.num
        have c2 := hva.text
        have c3 := hva.node
        have hall' : Hid _ := hall
        clear hall
        cases hr : okV n v with
        | false =>
          have hf : Hid (x.vals.all (okV n) = false) := all_false_at hlt (by rw [← hvk.out]; exact hr)
          go_wp2_with (go_at_call 79; refine (implVal_any n v _).mono ?_; rintro e w' ⟨rfl, hb'⟩)
          go_ret
          exact ⟨ret_bool (by rw [hkv.out, hf.out]), gca (gal hb _) hb'⟩
        | true =>
          have hf : Hid ((x.vals.take (k + 1)).all (okV n) = true) := all_take_succ hlt hall'.out (by rw [← hvk.out]; exact hr)
          go_wp2_with (go_at_call 79; refine (implVal_any n v _).mono ?_; rintro e w' ⟨rfl, hb'⟩)
          go_roundw
          case rel => exact ⟨k + 1, by omega, by go_num, hf.out, gca (gal hb _) hb'⟩
          case measure => simp [intOf]; omega
      · have e : k = x.vals.length := by omega
        have hall' : Hid (x.vals.all (okV n) = true) := by rw [e, List.take_length] at hall; exact hall
        clear hall
        go_wp2
        go_ret
        exact ⟨ret_bool (by rw [hkv.out, hall'.out]), hb⟩
  · have hkf : Hid _ := okN_false (n := n) (x := x) (by omega)
    go_enter Tryz.func80, Tryz.ntmps80
    go_wp2
    all_goals first | (go_ret; exact ⟨ret_bool hkf.out.symm, gal (gre _) _⟩) | (exfalso; omega)

end Go.Proofs.YtmdpmdmilgbfiaaGreatDoor

/-
  CANONPLAIN: a graph's one form, as lists and numbers. Own work.
-/
namespace Go.Proofs.YtmdpmdmilgbfiaaGreatDoor

/-- the nodes met, behind one value more -/
def renOrd (ord : List Nat) (v : GV) : List Nat := if v.kind = 4 ∧ v.node.toNat ∉ ord then ord ++ [v.node.toNat] else ord
/-- the value, its node by the new number -/
def renVal (ord : List Nat) (v : GV) : GV := if v.kind = 4 then { v with node := ((renOrd ord v).idxOf v.node.toNat : Nat) } else v
def renOrds (ord : List Nat) (vs : List GV) : List Nat := vs.foldl renOrd ord
def renVals (ord : List Nat) : List GV → List GV
  | [] => []
  | v :: r => renVal ord v :: renVals (renOrd ord v) r

theorem renOrds_snoc (ord : List Nat) (l : List GV) (v : GV) : renOrds ord (l ++ [v]) = renOrd (renOrds ord l) v := by
  simp [renOrds, List.foldl_append]
theorem renVals_snoc (ord : List Nat) (l : List GV) (v : GV) : renVals ord (l ++ [v]) = renVals ord l ++ [renVal (renOrds ord l) v] := by
  induction l generalizing ord with
  | nil => rfl
  | cons x r ih => simp only [List.cons_append, renVals, ih]; rfl
theorem renVals_length (ord : List Nat) (l : List GV) : (renVals ord l).length = l.length := by
  induction l generalizing ord with
  | nil => rfl
  | cons x r ih => simp [renVals, ih]

theorem renOrds_take_succ (ord : List Nat) (l : List GV) (k : Nat) (h : k < l.length) : renOrds ord (l.take (k + 1)) = renOrd (renOrds ord (l.take k)) l[k]! := by
  rw [take_snoc l k h, renOrds_snoc]
theorem renVals_take_succ (ord : List Nat) (l : List GV) (k : Nat) (h : k < l.length) : renVals ord (l.take (k + 1)) = renVals ord (l.take k) ++ [renVal (renOrds ord (l.take k)) l[k]!] := by
  rw [take_snoc l k h, renVals_snoc]

/-- the nodes met behind k rounds -/
def canonO (nodes : List GN) (ord0 : List Nat) : Nat → List Nat
  | 0 => ord0
  | k + 1 => if k < (canonO nodes ord0 k).length then renOrds (canonO nodes ord0 k) (nodes[(canonO nodes ord0 k)[k]!]!).vals else canonO nodes ord0 k
/-- the new nodes behind k rounds -/
def canonN (nodes : List GN) (ord0 : List Nat) : Nat → List GN
  | 0 => []
  | k + 1 => if k < (canonO nodes ord0 k).length then canonN nodes ord0 k ++ [⟨(nodes[(canonO nodes ord0 k)[k]!]!).tag, renVals (canonO nodes ord0 k) (nodes[(canonO nodes ord0 k)[k]!]!).vals⟩] else canonN nodes ord0 k

def canon (g : GG) : GG := ⟨renVal [] g.root, canonN g.nodes (renOrd [] g.root) g.nodes.length⟩

theorem canonO_succ (nodes : List GN) (ord0 : List Nat) (k : Nat) : canonO nodes ord0 (k + 1) = if k < (canonO nodes ord0 k).length then renOrds (canonO nodes ord0 k) (nodes[(canonO nodes ord0 k)[k]!]!).vals else canonO nodes ord0 k := by
  conv => lhs; unfold canonO
theorem canonN_succ (nodes : List GN) (ord0 : List Nat) (k : Nat) : canonN nodes ord0 (k + 1) = if k < (canonO nodes ord0 k).length then canonN nodes ord0 k ++ [⟨(nodes[(canonO nodes ord0 k)[k]!]!).tag, renVals (canonO nodes ord0 k) (nodes[(canonO nodes ord0 k)[k]!]!).vals⟩] else canonN nodes ord0 k := by
  conv => lhs; unfold canonN

theorem canon_stable (nodes : List GN) (ord0 : List Nat) (k : Nat) (h : (canonO nodes ord0 k).length ≤ k) : ∀ j, canonO nodes ord0 (k + j) = canonO nodes ord0 k ∧ canonN nodes ord0 (k + j) = canonN nodes ord0 k
  | 0 => ⟨rfl, rfl⟩
  | j + 1 => by
    obtain ⟨h1, h2⟩ := canon_stable nodes ord0 k h j
    have hn : ¬ k + j < (canonO nodes ord0 (k + j)).length := by rw [h1]; omega
    rw [show k + (j + 1) = (k + j) + 1 by omega, canonO_succ, canonN_succ, if_neg hn, if_neg hn]
    exact ⟨h1, h2⟩

/-- met once each, and all there -/
def InvO (n : Nat) (ord : List Nat) : Prop := ord.Nodup ∧ ∀ x, x ∈ ord → x < n

theorem nodup_le : ∀ (n : Nat) (l : List Nat), l.Nodup → (∀ x, x ∈ l → x < n) → l.length ≤ n
  | 0, l, _, h => by
    cases l with
    | nil => simp
    | cons x r => exact absurd (h x (List.mem_cons_self ..)) (Nat.not_lt_zero _)
  | n + 1, l, hd, h => by
    by_cases hn : n ∈ l
    · have h1 := nodup_le n (l.erase n) (hd.erase n) (fun x hx => by
        obtain ⟨h2, h3⟩ := hd.mem_erase_iff.1 hx
        have := h x h3
        omega)
      rw [List.length_erase_of_mem hn] at h1
      omega
    · have := nodup_le n l hd (fun x hx => by
        have h1 := h x hx
        have h2 : x ≠ n := fun e => hn (e ▸ hx)
        omega)
      omega
theorem InvO.le {n : Nat} {ord : List Nat} (h : InvO n ord) : ord.length ≤ n := nodup_le n ord h.1 h.2
theorem InvO.nil (n : Nat) : InvO n [] := ⟨List.nodup_nil, fun x hx => by cases hx⟩

/-- what a well made value's node says -/
theorem okV_node {n : Nat} {v : GV} (h : okV n v = true) (hk : v.kind = 4) : 0 ≤ v.node ∧ v.node < n := by
  unfold okV at h
  rw [if_neg (by omega), if_neg (by omega), if_neg (by omega), if_pos hk] at h
  have := of_decide_eq_true h
  omega

theorem InvO.ren {n : Nat} {ord : List Nat} {v : GV} (h : InvO n ord) (hv : okV n v = true) : InvO n (renOrd ord v) := by
  unfold renOrd
  split
  · rename_i hc
    have := okV_node hv hc.1
    refine ⟨List.nodup_append.2 ⟨h.1, by simp, fun a ha b hb e => ?_⟩, fun x hx => ?_⟩
    · simp at hb
      subst e hb
      exact hc.2 ha
    · rcases List.mem_append.1 hx with h1 | h1
      · exact h.2 x h1
      · simp at h1
        omega
  · exact h

theorem InvO.rens {n : Nat} {ord : List Nat} {l : List GV} (h : InvO n ord) (hv : ∀ v, v ∈ l → okV n v = true) : InvO n (renOrds ord l) := by
  induction l generalizing ord with
  | nil => exact h
  | cons v r ih => exact ih (h.ren (hv v (List.mem_cons_self ..))) (fun x hx => hv x (List.mem_cons_of_mem _ hx))

theorem okG_parts {g : GG} (h : okG g = true) : g.nodes.length ≤ 300 ∧ okV g.nodes.length g.root = true ∧ ∀ n, n ∈ g.nodes → okN g.nodes.length n = true := by
  unfold okG at h
  simp only [Bool.and_eq_true, decide_eq_true_eq, List.all_eq_true] at h
  exact ⟨h.1.1, h.1.2, h.2⟩
theorem okN_parts {n : Nat} {x : GN} (h : okN n x = true) : x.vals.length ≤ 100 ∧ ∀ v, v ∈ x.vals → okV n v = true := by
  unfold okN at h
  simp only [Bool.and_eq_true, decide_eq_true_eq, List.all_eq_true] at h
  exact ⟨h.1.2.2, h.2⟩

theorem canonO_inv {nodes : List GN} {ord0 : List Nat} (h0 : InvO nodes.length ord0) (hn : ∀ n, n ∈ nodes → okN nodes.length n = true) : ∀ k, InvO nodes.length (canonO nodes ord0 k)
  | 0 => by unfold canonO; exact h0
  | k + 1 => by
    have ih := canonO_inv h0 hn k
    rw [canonO_succ]
    split
    · rename_i hlt
      refine ih.rens (okN_parts (hn _ (mem_at (ih.2 _ (mem_at hlt))))).2
    · exact ih

theorem canon_at {g : GG} {k : Nat} (hk : k ≤ g.nodes.length) (h : (canonO g.nodes (renOrd [] g.root) k).length ≤ k) : canon g = ⟨renVal [] g.root, canonN g.nodes (renOrd [] g.root) k⟩ := by
  have h1 := (canon_stable g.nodes (renOrd [] g.root) k h (g.nodes.length - k)).2
  rw [show k + (g.nodes.length - k) = g.nodes.length by omega] at h1
  unfold canon
  rw [h1]

theorem renOrd_le (ord : List Nat) (v : GV) : ord.length ≤ (renOrd ord v).length := by
  unfold renOrd; split <;> simp
theorem renOrds_le (ord : List Nat) (l : List GV) : ord.length ≤ (renOrds ord l).length := by
  induction l generalizing ord with
  | nil => exact Nat.le_refl _
  | cons v r ih => exact Nat.le_trans (renOrd_le ord v) (ih (renOrd ord v))

/-- where a node is among those met; -1 where it is not -/
def whereOf (ord : List Nat) (i : Nat) : Int := if i ∈ ord then (ord.idxOf i : Int) else -1

theorem whereOf_neg {ord : List Nat} {i : Nat} (h : i ∉ ord) : whereOf ord i = -1 := if_neg h
theorem whereOf_pos {ord : List Nat} {i : Nat} (h : i ∈ ord) : whereOf ord i = (ord.idxOf i : Int) := if_pos h
theorem whereOf_snoc {ord : List Nat} {x : Nat} (h : x ∉ ord) (i : Nat) : whereOf (ord ++ [x]) i = if i = x then (ord.length : Int) else whereOf ord i := by
  unfold whereOf
  by_cases hi : i = x
  · subst hi
    rw [if_pos (by simp), if_pos rfl, List.idxOf_append, if_neg h]
    simp
  · rw [if_neg hi]
    by_cases hm : i ∈ ord
    · rw [if_pos hm, if_pos (by simp [hm]), List.idxOf_append, if_pos hm]
    · rw [if_neg hm, if_neg (by simp [hm, hi])]

theorem ren_old {ord : List Nat} {v : GV} (hk : v.kind = 4) (h : v.node.toNat ∈ ord) : renOrd ord v = ord ∧ renVal ord v = { v with node := (ord.idxOf v.node.toNat : Nat) } := by
  have h1 : renOrd ord v = ord := by unfold renOrd; rw [if_neg (fun c => c.2 h)]
  refine ⟨h1, ?_⟩
  unfold renVal
  rw [if_pos hk, h1]
theorem ren_new {ord : List Nat} {v : GV} (hk : v.kind = 4) (h : v.node.toNat ∉ ord) : renOrd ord v = ord ++ [v.node.toNat] ∧ renVal ord v = { v with node := (ord.length : Nat) } := by
  have h1 : renOrd ord v = ord ++ [v.node.toNat] := by unfold renOrd; rw [if_pos ⟨hk, h⟩]
  refine ⟨h1, ?_⟩
  unfold renVal
  rw [if_pos hk, h1, List.idxOf_append, if_neg h]
  simp
theorem ren_not {ord : List Nat} {v : GV} (hk : v.kind ≠ 4) : renOrd ord v = ord ∧ renVal ord v = v := by
  unfold renOrd renVal
  rw [if_neg (fun c => hk c.1), if_neg hk]
  exact ⟨rfl, rfl⟩

end Go.Proofs.YtmdpmdmilgbfiaaGreatDoor

/-
  IMGPLAIN: images as lists of numbers. Own work.
-/
namespace Go.Proofs.YtmdpmdmilgbfiaaGreatDoor

/-- a number in groups of seven bits -/
def numB (n : Nat) : List Nat := if n < 128 then [n] else (n % 128 + 128) :: numB (n / 128)
termination_by n
decreasing_by omega

/-- so many bytes of a number, the lowest first -/
def lowB : Nat → Nat → List Nat
  | 0, _ => []
  | k + 1, n => n % 256 :: lowB k (n / 256)

/-- a number with a sign as one without -/
def zig (n : Int) : Nat := if n < 0 then (-2 * n - 1).toNat else (2 * n).toNat
/-- 64 bits of a number -/
def u64n (n : Int) : Nat := (n % 18446744073709551616).toNat
/-- a text's bytes -/
def bsOf (s : ByteArray) : List Nat := s.data.toList.map UInt8.toNat

def valB (v : GV) : List Nat :=
  v.kind.toNat :: (if v.kind = 1 then numB (zig v.num) else if v.kind = 2 then lowB 8 (u64n v.num) else if v.kind = 3 then numB v.text.size ++ bsOf v.text else if v.kind = 4 then numB v.node.toNat else [])
def valsB : List GV → List Nat
  | [] => []
  | v :: r => valB v ++ valsB r
def nodeB (n : GN) : List Nat := numB n.tag.toNat ++ (numB n.vals.length ++ valsB n.vals)
def nodesB : List GN → List Nat
  | [] => []
  | n :: r => nodeB n ++ nodesB r
def graphB (g : GG) : List Nat := [72, 49] ++ (numB g.nodes.length ++ (valB g.root ++ nodesB g.nodes))

/-- one byte more into a sum -/
def sumStep (h x : Nat) : Nat := (h ^^^ x) * 1099511628211 % 18446744073709551616
def sumN (b : List Nat) : Nat := b.foldl sumStep 14695981039346656037

/-- the image of a graph in its one form -/
def formB (c : GG) : List Nat := graphB c ++ lowB 8 (sumN (graphB c))
def imageB (g : GG) : List Nat := formB (canon g)
/-- what Pack answers -/
def packB (g : GG) : List Nat := if okG g = true ∧ (imageB g).length ≤ 4096 then imageB g else []

theorem numB_small {n : Nat} (h : n < 128) : numB n = [n] := by rw [numB, if_pos h]
theorem numB_great {n : Nat} (h : ¬ n < 128) : numB n = (n % 128 + 128) :: numB (n / 128) := by rw [numB, if_neg h]

theorem valsB_append (a b : List GV) : valsB (a ++ b) = valsB a ++ valsB b := by
  induction a with
  | nil => rfl
  | cons v r ih => simp [valsB, ih]
theorem nodesB_append (a b : List GN) : nodesB (a ++ b) = nodesB a ++ nodesB b := by
  induction a with
  | nil => rfl
  | cons v r ih => simp [nodesB, ih]
theorem valsB_take_succ (l : List GV) (k : Nat) (h : k < l.length) : valsB (l.take (k + 1)) = valsB (l.take k) ++ valB l[k]! := by
  rw [take_snoc l k h, valsB_append]; simp [valsB]
theorem nodesB_take_succ (l : List GN) (k : Nat) (h : k < l.length) : nodesB (l.take (k + 1)) = nodesB (l.take k) ++ nodeB l[k]! := by
  rw [take_snoc l k h, nodesB_append]; simp [nodesB]
theorem valsB_take_le (l : List GV) (k : Nat) : (valsB (l.take k)).length ≤ (valsB l).length := by
  have h : valsB l = valsB (l.take k) ++ valsB (l.drop k) := by rw [← valsB_append, List.take_append_drop]
  rw [h, List.length_append]; omega
theorem nodesB_take_le (l : List GN) (k : Nat) : (nodesB (l.take k)).length ≤ (nodesB l).length := by
  have h : nodesB l = nodesB (l.take k) ++ nodesB (l.drop k) := by rw [← nodesB_append, List.take_append_drop]
  rw [h, List.length_append]; omega

theorem lowB_length : ∀ k n, (lowB k n).length = k
  | 0, _ => rfl
  | k + 1, n => by simp [lowB, lowB_length k]
theorem lowB_byte : ∀ (k n x : Nat), x ∈ lowB k n → x < 256
  | 0, _, _, h => by cases h
  | k + 1, n, x, h => by
    rcases List.mem_cons.1 h with h | h
    · omega
    · exact lowB_byte k _ x h
theorem lowB_get : ∀ (k n i : Nat), i < k → (lowB k n)[i]! = n / 256 ^ i % 256
  | 0, _, _, h => absurd h (Nat.not_lt_zero _)
  | k + 1, n, 0, _ => by simp [lowB]
  | k + 1, n, i + 1, h => by
    have h1 := lowB_get k (n / 256) i (by omega)
    show (lowB k (n / 256))[i]! = _
    rw [h1, Nat.div_div_eq_div_mul, Nat.pow_succ', Nat.mul_comm]
theorem lowB_snoc : ∀ (k n : Nat), lowB (k + 1) n = lowB k n ++ [n / 256 ^ k % 256]
  | 0, n => by simp [lowB]
  | k + 1, n => by
    have h1 := lowB_snoc k (n / 256)
    show n % 256 :: lowB (k + 1) (n / 256) = n % 256 :: (lowB k (n / 256) ++ _)
    rw [h1, Nat.div_div_eq_div_mul, Nat.pow_succ', Nat.mul_comm]

theorem numB_byte (n x : Nat) (h : x ∈ numB n) : x < 256 := by
  induction n using Nat.strongRecOn with
  | _ n ih =>
    by_cases hn : n < 128
    · rw [numB_small hn] at h
      have := List.mem_singleton.1 h
      omega
    · rw [numB_great hn] at h
      rcases List.mem_cons.1 h with h | h
      · omega
      · exact ih (n / 128) (by omega) h
theorem bsOf_byte {s : ByteArray} {x : Nat} (h : x ∈ bsOf s) : x < 256 := by
  obtain ⟨y, _, rfl⟩ := List.mem_map.1 h
  exact y.toNat_lt
theorem bsOf_length (s : ByteArray) : (bsOf s).length = s.size := by unfold bsOf; rw [List.length_map, Array.length_toList]; rfl

theorem sumStep_lt (h x : Nat) : sumStep h x < 18446744073709551616 := Nat.mod_lt _ (by omega)
theorem sumN_snoc (b : List Nat) (x : Nat) : sumN (b ++ [x]) = sumStep (sumN b) x := by unfold sumN; rw [List.foldl_append, List.foldl_cons, List.foldl_nil]
theorem sumN_lt (b : List Nat) : sumN b < 18446744073709551616 := by
  rcases List.eq_nil_or_concat b with rfl | ⟨l, x, rfl⟩
  · unfold sumN; rw [List.foldl_nil]; omega
  · rw [List.concat_eq_append, sumN_snoc]; exact sumStep_lt _ _
theorem sumN_take_succ (l : List Nat) (k : Nat) (h : k < l.length) : sumN (l.take (k + 1)) = sumStep (sumN (l.take k)) l[k]! := by
  rw [take_snoc l k h, sumN_snoc]

theorem u64n_nat {n : Nat} (h : n < 18446744073709551616) : u64n (n : Int) = n := by unfold u64n; omega
theorem zig_lt {n : Int} (h : I64 n) : zig n < 18446744073709551616 := by unfold zig; unfold I64 at h; split <;> omega
theorem u64n_lt (n : Int) : u64n n < 18446744073709551616 := by unfold u64n; omega

end Go.Proofs.YtmdpmdmilgbfiaaGreatDoor

/-
  OB: bytes that are appended to. Own work.
-/
namespace Go.Proofs.YtmdpmdmilgbfiaaGreatDoor
open Go.RowKit

/-- bytes of one's own, since a world -/
structure Ob (w0 : World) (base : Nat) (oa0 : Option Addr) (w : World) (oa : Option Addr) (cap : Nat) (zs : List Nat) : Prop where
  own : w.ownsRow base 5 1 (.slice oa zs.length cap) zs.length (bcells zs)
  loc : ∀ k, k < w0.heap.size → oa = some ⟨k, 0, none⟩ → oa0 = some ⟨k, 0, none⟩
  kept : Kept (fun k => oa0 = some ⟨k, 0, none⟩) w0 w

set_option maxRecDepth 100000 in
theorem Ob.start {base : Nat} {w : World} {oa : Option Addr} {cap : Nat} {zs : List Nat} (h : w.ownsRow base 5 1 (.slice oa zs.length cap) zs.length (bcells zs)) : Ob w base oa w oa cap zs := ⟨h, fun _ _ e => e, Kept.refl _ _⟩
theorem Ob.lt {w0 w : World} {base : Nat} {oa0 oa : Option Addr} {cap : Nat} {zs : List Nat} (h : Ob w0 base oa0 w oa cap zs) {k : Nat} (e : oa = some ⟨k, 0, none⟩) : base ≤ k ∧ k < w.heap.size := h.own.lt k (by rw [e]; rfl)
theorem Ob.grow {w0 w w' : World} {base : Nat} {oa0 oa : Option Addr} {cap : Nat} {zs : List Nat} (h : Ob w0 base oa0 w oa cap zs) (hb : Below w.heap.size w w') : Ob w0 base oa0 w' oa cap zs :=
  ⟨(Kept.of_below hb (fun _ => False)).owns h.own (fun _ _ e => e), h.loc, h.kept.trans (Kept.of_below hb _) (fun _ _ e => e)⟩
set_option maxRecDepth 100000 in
theorem Ob.call {w0 w w1 : World} {base : Nat} {oa0 oa oa1 : Option Addr} {cap cap1 : Nat} {zs ys : List Nat} (h : Ob w0 base oa0 w oa cap zs) (k : Ob w base oa w1 oa1 cap1 ys) : Ob w0 base oa0 w1 oa1 cap1 ys :=
  ⟨k.own, fun b hb e => h.loc b hb (k.loc b (Nat.lt_of_lt_of_le hb h.kept.size) e), h.kept.trans k.kept (fun b hb e => h.loc b hb e)⟩
theorem Ob.push {w0 w wa w1 : World} {base : Nat} {oa0 oa : Option Addr} {cap cap1 g : Nat} {zs ys : List Nat} (h : Ob w0 base oa0 w oa cap zs) (hb : Below w.heap.size w wa)
    (hown : w1.ownsRow base 5 1 (.slice (some ⟨g, 0, none⟩) (zs.length + ys.length) cap1) (zs.length + ys.length) (bcells zs ++ bcells ys)) (hgrow : wa.grownBy w1 (Value.slice oa zs.length cap).ownBlock)
    (hat : (Value.slice oa zs.length cap).ownBlock = some g ∨ w.heap.size ≤ g) : Ob w0 base oa0 w1 (some ⟨g, 0, none⟩) cap1 (zs ++ ys) := by
  refine ⟨?_, fun k hk e => ?_, ?_⟩
  · rw [List.length_append, show bcells (zs ++ ys) = bcells zs ++ bcells ys by simp [bcells]]; exact hown
  · have e2 := some_addr e
    subst e2
    rcases hat with hg | hg
    · exact h.loc g hk (owns_addr h.own hg)
    · have := h.kept.size; omega
  · exact (h.kept.trans (Kept.of_below hb _) (fun _ _ e => e)).trans (Kept.of_grown hgrow) (fun k hk e => h.loc k hk (owns_addr h.own e))

/-- what a call leaves that appends so much -/
def APost (base : Nat) (oa : Option Addr) (xs ys : List Nat) (w : World) (e : Ending) (w' : World) : Prop :=
  ∃ oa' cap', e = .returned (.slice oa' (xs ++ ys).length cap') ∧ Ob w base oa w' oa' cap' (xs ++ ys)

set_option maxRecDepth 100000 in
theorem numB_len : ∀ (f n : Nat), n < 128 ^ f → 0 < f → (numB n).length ≤ f
  | 0, _, _, h => absurd h (Nat.lt_irrefl _)
  | f + 1, n, hn, _ => by
    by_cases h : n < 128
    · rw [numB_small h]; simp
    · rw [numB_great h]
      have hf : 0 < f := by
        rcases Nat.eq_zero_or_pos f with rfl | h2
        · simp at hn; omega
        · exact h2
      have := numB_len f (n / 128) (by rw [Nat.div_lt_iff_lt_mul (by omega)]; rw [Nat.pow_succ] at hn; exact hn) hf
      simp only [List.length_cons]
      omega
set_option maxRecDepth 100000 in
theorem numB_ten {n : Nat} (h : n < 18446744073709551616) : (numB n).length ≤ 10 := numB_len 10 n (Nat.lt_of_lt_of_le h (by decide)) (by omega)

theorem and_or128 (m : Nat) (hm : m < 18446744073709551616) : IntKind.u8.wrap (bits .or .u64 (bits .and .u64 (m : Int) 127) 128) = ((m % 128 + 128 : Nat) : Int) := by
  have e1 : bits .and .u64 (m : Int) 127 = ((m % 128 : Nat) : Int) := by
    rw [u64_and _ _ (by omega) (by omega) (by omega) (by omega)]
    have h1 : (127 : Int).toNat = 127 := rfl
    rw [h1, Int.toNat_natCast, nat_mask7]
  have e2 : bits .or .u64 ((m % 128 : Nat) : Int) 128 = ((m % 128 + 128 : Nat) : Int) := by
    rw [u64_or _ _ (by omega) (by omega) (by omega) (by omega)]
    have h1 : (128 : Int).toNat = 128 := rfl
    rw [h1, Int.toNat_natCast, Nat.or_comm, nat_join 7 128 (m % 128) (by decide) (by omega)]
    omega
  rw [e1, e2, IntKind.wrap_u8']
  omega

set_option maxRecDepth 100000 in
theorem l2num_any (base : Nat) (oa : Option Addr) (len cap : Nat) (xs : List Nat) (n : Nat) (z : Int) (w : World) (hlen : len = xs.length) (hz : z = (n : Int)) (hn : n < 18446744073709551616) (hbase : base ≤ w.heap.size) (hl : xs.length ≤ 1099511627776)
    (hO : w.ownsRow base 5 1 (.slice oa xs.length cap) xs.length (bcells xs)) :
    Calls Tryz.prog 88 #[.slice oa len cap, .int .u64 z] w (APost base oa xs (numB n) w) := by
  subst hz hlen
  obtain ⟨i0, hi, hz0, hz1, hz2⟩ := info_parts info_u8
  have hten := numB_ten hn
  go_enter Tryz.func88, Tryz.ntmps88
  go_wp2
  go_loopw [0, 1] (fun o i ws => ∃ (m : Nat) (ys zs : List Nat) (oa1 : Option Addr) (cap1 : Nat), o = .slice oa1 zs.length cap1 ∧ i = .int .u64 m ∧ Hid (zs = xs ++ ys) ∧ Hid (numB n = ys ++ numB m) ∧ m < 18446744073709551616 ∧ Ob w base oa ws oa1 cap1 zs) (fun _ i _ => (intOf i).toNat)
  case atStart => exact ⟨n, [], xs, oa, cap, rfl, rfl, (List.append_nil _).symm, rfl, hn, Ob.start hO⟩
  case round =>
    obtain ⟨m, ys, zs, oa1, cap1, rfl, rfl, hzs, hm, hm64, hOb⟩ := hrel
    have hyl : zs.length ≤ xs.length + 10 := by
      have h1 := congrArg List.length hm.out
      rw [hzs.out]
      simp only [List.length_append] at h1 ⊢
      omega
    have hsz := hOb.kept.size
    by_cases hlt : m < 128
    · have hd : ¬ ((127 : Int) < (m : Int)) := by omega
      have e2 : IntKind.u8.wrap (m : Int) = (m : Int) := by rw [IntKind.wrap_u8']; omega
      go_wp2_with (at_builtin; refine wpList_append_lies _ rfl (.tmp 16) (.tmp 19) 22 rfl base 5 i0 (.int .u8 0) 1 1 Tryz.underlying22 hi hz0 hz1 hz2 rfl (by decide) _ _ _ rfl (hOb.own.alloc _) ⟨wr.heap.size, 0, none⟩ 1 1 [.int .u8 (m : Int)] rfl rfl (World.news_of_block (cs := #[.int .u8 (m : Int)]) (t := 5) (fr := (0, 0)) (blk_new_at _ _ _ (by simp))) (by simp [Value.oneCell']) (by decide) (by unfold maxLen; omega) (by omega) (by simp; omega) (wr.heap.size + 1) (by simp) ?_; intro g cap2 w1 hown1 hgrow hat hlt2)
      go_ret
      have hP := hOb.push (ys := [m]) (gal (gre _) _) hown1 hgrow (hat.elim Or.inl (fun h => Or.inr (by omega)))
      have e3 : zs ++ [m] = xs ++ numB n := by rw [hm.out, hzs.out, numB_small hlt, List.append_assoc]
      rw [e3] at hP
      exact ⟨_, cap2, by rw [← e3]; simp, hP⟩
    · have hd : ((127 : Int) < (m : Int)) := by omega
      obtain ⟨x, hx⟩ : ∃ x, Hid (x = m % 128 + 128) := ⟨_, rfl⟩
      have e2 : IntKind.u8.wrap (bits .or .u64 (bits .and .u64 (m : Int) 127) 128) = (x : Int) := by rw [hx.out]; exact and_or128 m hm64
      go_wp2_with (at_builtin; refine wpList_append_lies _ rfl (.tmp 7) (.tmp 12) 22 rfl base 5 i0 (.int .u8 0) 1 1 Tryz.underlying22 hi hz0 hz1 hz2 rfl (by decide) _ _ _ rfl (hOb.own.alloc _) ⟨wr.heap.size, 0, none⟩ 1 1 [.int .u8 (x : Int)] rfl rfl (World.news_of_block (cs := #[.int .u8 (x : Int)]) (t := 5) (fr := (0, 0)) (blk_new_at _ _ _ (by simp))) (by simp [Value.oneCell']) (by decide) (by unfold maxLen; omega) (by omega) (by simp; omega) (wr.heap.size + 1) (by simp) ?_; intro g cap2 w1 hown1 hgrow hat hlt2)
      have hP := hOb.push (ys := [x]) (gal (gre _) _) hown1 hgrow (hat.elim Or.inl (fun h => Or.inr (by omega)))
      go_roundw
      case rel =>
        refine ⟨m / 128, ys ++ [x], zs ++ [x], _, _, by simp, by go_num, by show _ = _; rw [hzs.out, List.append_assoc], ?_, by omega, hP⟩
        show _ = _
        rw [hm.out, numB_great hlt, hx.out]; simp
      case measure => simp [intOf]; omega

end Go.Proofs.YtmdpmdmilgbfiaaGreatDoor
