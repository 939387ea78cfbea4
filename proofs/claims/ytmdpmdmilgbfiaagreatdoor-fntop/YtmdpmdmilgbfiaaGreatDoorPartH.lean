import Derived.Laws.OwnMore
import Derived.Deep.Cut
import Derived.Test.YtmdpmdmilgbfiaaGreatDoorPartG
namespace Go.Proofs.YtmdpmdmilgbfiaaGreatDoor
open Go.RowKit
set_option maxRecDepth 100000
set_option maxHeartbeats 8000000
structure LW where
 x : DW
 a : Option Addr
 cap : Nat
 deriving Inhabited
def LW.two (y : LW) : List Value := [.int .i64 y.x.block, .slice y.a y.x.bytes.length y.cap]
theorem LW.two_length (y : LW) : y.two.length = 2 := rfl
def wCells (l : List LW) : List Value := l.flatMap LW.two
theorem wCells_snoc (l : List LW) (y : LW) : wCells (l ++ [y]) = wCells l ++ [.int .i64 y.x.block, .slice y.a y.x.bytes.length y.cap] := by simp [wCells, LW.two]
theorem wCells_get : ∀ (l : List LW) (i j : Nat), i < l.length → j < 2 → (wCells l)[i * 2 + j]? = (l[i]!.two)[j]?
 | [], _, _, hi, _ => absurd hi (Nat.not_lt_zero _)
 | x :: r, 0, j, _, hj => by
  rw [wCells, List.flatMap_cons, Nat.zero_mul, Nat.zero_add, List.getElem?_append_left (by rw [LW.two_length]; exact hj)]
  rfl
 | x :: r, i + 1, j, hi, hj => by
  have hlt : i < r.length := by simpa using hi
  have ih := wCells_get r i j hlt hj
  rw [wCells, List.flatMap_cons, List.getElem?_append_right (by rw [LW.two_length, Nat.add_mul]; omega), LW.two_length, show (i + 1) * 2 + j - 2 = i * 2 + j by rw [Nat.add_mul]; omega]
  rw [wCells] at ih
  rw [ih, getElem!_pos r i hlt, getElem!_pos (x :: r) (i + 1) hi]
  rfl
theorem owns_isW {w : World} {base size n cap : Nat} {a : Option Addr} {xs : List Value} (h : w.ownsRow base 125 size (.slice a n cap) n xs) {z : Nat} (hz : (Value.slice a n cap).ownBlock = some z) : IsW w z ∧ base ≤ z := by
 have ha := owns_addr h hz
 rcases h.2 with ⟨e, _⟩ | ⟨g, cap', cur, hv, hb, hg, _⟩
 ·
  simp at e
  rw [e.1] at ha
  cases ha
 ·
  simp only [Value.slice.injEq] at hv
  rw [ha] at hv
  obtain rfl := some_addr hv.1
  exact ⟨⟨cur, hg⟩, hb⟩
theorem owns_row {w : World} {base t size n cap : Nat} {a : Option Addr} {xs : List Value} (h : w.ownsRow base t size (.slice a n cap) n xs) (hn : 0 < n) : ∃ g f, a = some ⟨g, 0, none⟩ ∧ base ≤ g ∧ g < w.heap.size ∧ w.rowIs g t (cap * size) f ∧ n ≤ cap ∧ ∀ i u, xs[i]? = some u → f i = u := by
 have hc0 := h
 rcases h.2 with ⟨_, e⟩ | ⟨g, cap', cur, hv, hb, hg, h1, h2, h3, h4⟩
 · omega
 ·
  simp only [Value.slice.injEq] at hv
  obtain ⟨rfl, _, rfl⟩ := hv
  refine ⟨g, fun i => cur[i]!, rfl, hb, (Array.getElem?_eq_some_iff.1 hg).1, ⟨cur, hg, h3, fun i hi => ?_⟩, h1, fun i u hu => ?_⟩
  ·
   show cur[i]? = some cur[i]!
   rw [getElem!_pos cur i (by omega)]; exact Array.getElem?_eq_getElem (by omega)
  ·
   obtain ⟨g', ha', _, _, hc⟩ := owns_cell hc0 hu
   obtain rfl := some_addr ha'
   have hc' : cur[i]? = some u := by simpa [World.cell?, hg] using hc
   show cur[i]! = u
   have hlt := (Array.getElem?_eq_some_iff.1 hc').1
   rw [getElem!_pos cur i hlt]
   rw [Array.getElem?_eq_getElem hlt] at hc'
   exact Option.some.inj hc'
structure DkW (w wr : World) (N V : Nat) (bl : List (List Nat)) (f : Nat → Value) (bs cs : Nat → Nat) (va : Option Addr) (vc : Nat) (lw : List LW) (gs : Nat → Nat) : Prop where
 dk : DkB w wr N V (.slice va lw.length vc) bl 130 f bs cs
 own : wr.ownsRow (V + 1) 125 2 (.slice va lw.length vc) lw.length (wCells lw)
 byt : ∀ i, i < lw.length → lw[i]!.a = some ⟨gs i, 0, none⟩ ∧ BRow wr (gs i) lw[i]!.cap lw[i]!.x.bytes ∧ V < gs i ∧ (∀ j, j < 130 → bs j < gs i) ∧ ∀ j, j < i → gs j < gs i
theorem DkW.grow {w wr w' : World} {N V : Nat} {bl : List (List Nat)} {f : Nat → Value} {bs cs : Nat → Nat} {va : Option Addr} {vc : Nat} {lw : List LW} {gs : Nat → Nat} (h : DkW w wr N V bl f bs cs va vc lw gs) (hb : Below wr.heap.size wr w') : DkW w w' N V bl f bs cs va vc lw gs :=
 ⟨h.dk.grow hb, (Kept.of_below hb (fun _ => False)).owns h.own (fun _ _ e => e), fun i hi => let ⟨h1, h2, h3⟩ := h.byt i hi; ⟨h1, h2.of_block (hb.block _ h2.lt), h3⟩⟩
theorem snoc_at {α : Type} [Inhabited α] (l : List α) (y : α) (i : Nat) (hi : i < (l ++ [y]).length) : (l ++ [y])[i]! = if i = l.length then y else l[i]! := by
 have hi' : i < l.length + 1 := by simpa using hi
 rw [getElem!_pos _ i hi]
 by_cases h : i = l.length
 · subst h; simp
 · rw [if_neg h, List.getElem_append_left (by omega), getElem!_pos l i (by omega)]
theorem DkW.step {w wr w5 : World} {N V : Nat} {bl : List (List Nat)} {f : Nat → Value} {bs cs : Nat → Nat} {va : Option Addr} {vc : Nat} {lw : List LW} {gs : Nat → Nat} (h : DkW w wr N V bl f bs cs va vc lw gs)
  {G gcap gg cc : Nat} {x : DW} (hG : BRow wr G gcap x.bytes) (hVG : V < G) (hbs : ∀ j, j < 130 → bs j < G) (hgs : ∀ j, j < lw.length → gs j < G)
  (hown : w5.ownsRow (V + 1) 125 2 (.slice (some ⟨gg, 0, none⟩) (lw.length + 1) cc) (lw.length + 1) (wCells lw ++ [.int .i64 x.block, .slice (some ⟨G, 0, none⟩) x.bytes.length gcap])) (hgrow : wr.grownBy w5 (Value.slice va lw.length vc).ownBlock) :
  DkW w (w5.setCell ⟨V, 1, none⟩ (.slice (some ⟨gg, 0, none⟩) (lw.length + 1) cc)) N V bl f bs cs (some ⟨gg, 0, none⟩) cc (lw ++ [⟨x, some ⟨G, 0, none⟩, gcap⟩]) (fun i => if i = lw.length then G else gs i) := by
 have K1 := Kept.of_grown hgrow
 have hz : ∀ z, (Value.slice va lw.length vc).ownBlock = some z → IsW wr z ∧ V + 1 ≤ z := fun z hz => owns_isW h.own hz
 have hnv := h.dk.nv
 have hlo := h.dk.lo
 have K2 := (Kept.refl (fun b => b = V) w5).set (a := ⟨V, 1, none⟩) (fun _ => rfl) (.slice (some ⟨gg, 0, none⟩) (lw.length + 1) cc)
 have hB : ∀ {G' n' : Nat} {ys : List Nat}, BRow wr G' n' ys → V < G' → BRow (w5.setCell ⟨V, 1, none⟩ (.slice (some ⟨gg, 0, none⟩) (lw.length + 1) cc)) G' n' ys := fun hb hv => (hb.kept K1 (fun e => not_B_of_W (hz _ e).1 hb.isB)).kept K2 (fun e => by omega)
 have hVz : ¬ (Value.slice va lw.length vc).ownBlock = some V := fun e => by have := (hz V e).2; omega
 have hNz : ¬ (Value.slice va lw.length vc).ownBlock = some N := fun e => by have := (hz N e).2; omega
 have c1 := K1.cell h.dk.v1 hVz
 refine ⟨⟨K2.rowIs (K1.rowIs h.dk.row hNz) (by omega), fun i hi => ?_, (World.cell?_setCell_other _ _ _ _ (by simp)).trans (K1.cell h.dk.v0 hVz), ?_, fun o => ?_, ?_, hlo, hnv⟩, ?_, fun i hi => ?_⟩
 ·
  obtain ⟨h1, h2, h3, h4⟩ := h.dk.fs i hi
  exact ⟨h1, hB h2 h3, h3, h4⟩
 · rw [List.length_append]; exact World.cell?_setCell_same _ _ _ c1
 ·
  rw [World.frozen?_setCell]
  exact (World.frozen?_of_block (w := wr) (a := ⟨V, o, none⟩) (K1.block V (World.block_lt_of_cell? wr ⟨V, 0, none⟩ h.dk.v0) hVz)).trans (h.dk.vf o)
 · exact (h.dk.bel.trans (K1.below (Nat.le_trans h.dk.bel.size (Nat.le_refl _)) (fun k hk e => by have := (hz k e).2; omega))).trans (K2.below (by have := h.dk.bel.size; have := K1.size; omega) (fun k hk e => by omega))
 ·
  rw [wCells_snoc, List.length_append]
  exact K2.owns hown (fun z hz2 e => by have := (hown.lt z hz2).1; omega)
 ·
  rw [List.length_append] at hi
  rw [snoc_at _ _ _ (by rw [List.length_append]; exact hi)]
  by_cases e : i = lw.length
  ·
   subst e
   simp only [if_true]
   refine ⟨trivial, hB hG hVG, hVG, hbs, fun j hj => ?_⟩
   rw [if_neg (by omega)]; exact hgs j hj
  ·
   simp only [if_neg e]
   obtain ⟨h1, h2, h3, h4, h5⟩ := h.byt i (by simp at hi; omega)
   refine ⟨h1, hB h2 h3, h3, h4, fun j hj => ?_⟩
   rw [if_neg (by simp at hi; omega)]; exact h5 j hj
theorem DkW.md {w wr : World} {N V : Nat} {bl : List (List Nat)} {f : Nat → Value} {bs cs : Nat → Nat} {va : Option Addr} {vc : Nat} {lw : List LW} {gs : Nat → Nat} (h : DkW w wr N V bl f bs cs va vc lw gs) (hlen : bl.length = 130) (h64 : ∀ x, x ∈ bl → x.length = 64) :
  MD wr w.heap.size wr.heap.size ⟨some ⟨N, 0, none⟩, 130, va, vc⟩ ⟨bl, lw.map (·.x)⟩ (fun i => some ⟨bs i, 0, none⟩) (fun i => lw[i]!.a) cs (fun i => lw[i]!.cap) := by
 have hnv := h.dk.nv
 have hlo := h.dk.lo
 have hmap : ∀ i, i < lw.length → (lw.map (·.x))[i]! = lw[i]!.x := fun i hi => by
  rw [getElem!_pos _ i (by simpa using hi), getElem!_pos lw i hi]; simp
 refine ⟨⟨fun _ => ⟨N, 130, f, rfl, hlo, h.dk.row.lt, h.dk.row, by show bl.length ≤ 130; omega, fun i hi => ?_⟩, fun i hi => ?_, fun i j hij hj => ?_⟩, ⟨fun hn => ?_, fun i hi => ?_, fun i j hij hj => ?_⟩, fun i j hi hj => ?_⟩
 ·
  have hi' : i < bl.length := hi
  rw [(h.dk.fs i (by omega)).1, h64 _ (mem_at hi')]
 ·
  have hi' : i < bl.length := hi
  obtain ⟨_, h2, h3, _⟩ := h.dk.fs i (by omega)
  exact Or.inr ⟨bs i, cs i, rfl, by omega, h2.lt, h2⟩
 ·
  intro b e1 e2
  have hj' : j < bl.length := hj
  have := (h.dk.fs j (by omega)).2.2.2 i hij
  have := some_addr e1
  have := some_addr e2
  omega
 ·
  have hn' : 0 < lw.length := by simpa using hn
  obtain ⟨g, f', h1, h2, h3, h4, h5, h6⟩ := owns_row h.own hn'
  refine ⟨g, vc * 2, f', h1, by omega, h3, h4, by simp; omega, fun i hi => ?_⟩
  have hi' : i < lw.length := by simpa using hi
  simp only [hmap i hi']
  exact ⟨h6 _ _ ((wCells_get lw i 0 hi' (by omega)).trans rfl), h6 _ _ ((wCells_get lw i 1 hi' (by omega)).trans rfl)⟩
 ·
  have hi' : i < lw.length := by simpa using hi
  simp only [hmap i hi']
  obtain ⟨h1, h2, h3, _⟩ := h.byt i hi'
  exact Or.inr ⟨gs i, _, h1, by omega, h2.lt, h2⟩
 ·
  have hj' : j < lw.length := by simpa using hj
  intro b e1 e2
  rw [(h.byt i (by omega)).1] at e1
  rw [(h.byt j hj').1] at e2
  have := (h.byt j hj').2.2.2.2 i hij
  have := some_addr e1
  have := some_addr e2
  omega
 ·
  have hi' : i < bl.length := hi
  have hj' : j < lw.length := by simpa using hj
  intro b e1 e2
  rw [(h.byt j hj').1] at e2
  have := (h.byt j hj').2.2.2.1 i (by omega)
  have := some_addr e1
  have := some_addr e2
  omega
def GWInv (w wr : World) (N V : Nat) (bl : List (List Nat)) (f : Nat → Value) (bs cs : Nat → Nat) (ws : List DW) (k : Nat) : Prop :=
 ∃ (va : Option Addr) (vc : Nat) (lw : List LW) (gs : Nat → Nat), Hid (lw.length = k) ∧ Hid (lw.map (·.x) = ws.take k) ∧ DkW w wr N V bl f bs cs va vc lw gs
theorem MBs.mono {w : World} {lo hi lo' hi' : Nat} {a : Option Addr} {n : Nat} {F : Nat → List Nat} {fa : Nat → Option Addr} {fc : Nat → Nat} (h : MBs w lo hi a n F fa fc) (h1 : lo' ≤ lo) (h2 : hi ≤ hi') : MBs w lo' hi' a n F fa fc :=
 ⟨fun h0 => let ⟨g, m, f, a1, a2, a3, a4⟩ := h.row h0; ⟨g, m, f, a1, by omega, by omega, a4⟩, fun i hi => (h.byt i hi).mono h1 h2, h.far⟩
theorem MWs.mono {w : World} {lo hi lo' hi' : Nat} {a : Option Addr} {n : Nat} {B : Nat → Int} {F : Nat → List Nat} {fa : Nat → Option Addr} {fc : Nat → Nat} (h : MWs w lo hi a n B F fa fc) (h1 : lo' ≤ lo) (h2 : hi ≤ hi') : MWs w lo' hi' a n B F fa fc :=
 ⟨fun h0 => let ⟨g, m, f, a1, a2, a3, a4⟩ := h.row h0; ⟨g, m, f, a1, by omega, by omega, a4⟩, fun i hi => (h.byt i hi).mono h1 h2, h.far⟩
theorem MD.mono {w : World} {lo hi lo' hi' : Nat} {l : DL} {d : DD} {fa ga : Nat → Option Addr} {fc gc : Nat → Nat} (h : MD w lo hi l d fa ga fc gc) (h1 : lo' ≤ lo) (h2 : hi ≤ hi') : MD w lo' hi' l d fa ga fc gc := ⟨h.b.mono h1 h2, h.w.mono h1 h2, h.far⟩
theorem owns_bytes {w : World} {base t cap : Nat} {a : Option Addr} {bs : List Nat} (h : w.ownsRow base t 1 (.slice a bs.length cap) bs.length (bcells bs)) : BytesAt w a bs := fun i hi => by
 obtain ⟨g, ha, _, _, hc⟩ := owns_cell h (bcells_get hi)
 exact ⟨g, 0, ha, by rw [Nat.zero_add]; exact hc⟩
theorem owns_isB {w : World} {base size n cap : Nat} {a : Option Addr} {xs : List Value} (h : w.ownsRow base 5 size (.slice a n cap) n xs) {z : Nat} (hz : (Value.slice a n cap).ownBlock = some z) : IsB w z ∧ base ≤ z := by
 have ha := owns_addr h hz
 rcases h.2 with ⟨e, _⟩ | ⟨g, cap', cur, hv, hb, hg, _⟩
 ·
  simp at e
  rw [e.1] at ha
  cases ha
 ·
  simp only [Value.slice.injEq] at hv
  rw [ha] at hv
  obtain rfl := some_addr hv.1
  exact ⟨⟨cur, hg⟩, hb⟩
def IsS (w : World) (b : Nat) : Prop := ∃ c, w.heap[b]? = some (.cells c 22 (0, 0))
theorem owns_isS {w : World} {base size n cap : Nat} {a : Option Addr} {xs : List Value} (h : w.ownsRow base 22 size (.slice a n cap) n xs) {z : Nat} (hz : (Value.slice a n cap).ownBlock = some z) : IsS w z ∧ base ≤ z := by
 have ha := owns_addr h hz
 rcases h.2 with ⟨e, _⟩ | ⟨g, cap', cur, hv, hb, hg, _⟩
 ·
  simp at e
  rw [e.1] at ha
  cases ha
 ·
  simp only [Value.slice.injEq] at hv
  rw [ha] at hv
  obtain rfl := some_addr hv.1
  exact ⟨⟨cur, hg⟩, hb⟩
theorem not_B_of_S {w : World} {b : Nat} (h : IsS w b) : ¬ IsB w b := fun ⟨c, hc⟩ => by
 obtain ⟨c', hc'⟩ := h
 rw [hc] at hc'
 simp at hc'
theorem not_W_of_S {w : World} {b : Nat} (h : IsS w b) : ¬ IsW w b := fun ⟨c, hc⟩ => by
 obtain ⟨c', hc'⟩ := h
 rw [hc] at hc'
 simp at hc'
theorem l2copy_any (a : Option Addr) (bs : List Nat) (cap : Nat) (w : World) (hl : bs.length ≤ 1048576) (ha : BytesAt w a bs) :
  Calls Tryz.prog 110 #[.slice a bs.length cap] w fun e w' => ∃ oa c, e = .returned (.slice oa bs.length c) ∧ w'.ownsRow w.heap.size 5 1 (.slice oa bs.length c) bs.length (bcells bs) ∧ Below w.heap.size w w' := by
 obtain ⟨i0, hi, hz0, hz1, hz2⟩ := info_parts info_u8
 go_enter Tryz.func110, Tryz.ntmps110
 go_wp2
 go_loopw [3, 8] (fun o i wr => ∃ (k : Nat) (oa : Option Addr) (c : Nat), k ≤ bs.length ∧ i = .int .i64 k ∧ o = .slice oa k c ∧ wr.ownsRow w.heap.size 5 1 (.slice oa k c) k (bcells (bs.take k)) ∧ Below w.heap.size w wr) (fun _ i _ => bs.length - (intOf i).toNat)
 case atStart => exact ⟨0, none, 0, Nat.zero_le _, rfl, rfl, owns_none _ _ _ _, gre _⟩
 case round =>
  obtain ⟨k, oa, c, hk, rfl, rfl, hO, hb⟩ := hrel
  by_cases hlt : k < bs.length
  ·
   obtain ⟨x, b, off, hxk, hxm, rfl, hc⟩ := (ha.grow hb).get hlt
   have hsz := hb.size
   go_wp2_with (at_builtin; refine wpList_append_lies _ rfl (.tmp 12) (.tmp 14) 22 rfl w.heap.size 5 i0 (.int .u8 0) 1 1 Tryz.underlying22 hi hz0 hz1 hz2 rfl (by decide) _ _ _ rfl (hO.alloc _) ⟨wr.heap.size, 0, none⟩ 1 1 [.int .u8 (x : Int)] rfl rfl (World.news_of_block (cs := #[.int .u8 (x : Int)]) (t := 5) (fr := (0, 0)) (blk_new_at _ _ _ (by simp))) (by simp [Value.oneCell']) (by decide) (by unfold maxLen; omega) (by omega) (by simp; omega) (wr.heap.size + 1) (by simp) ?_; intro g cap2 w1 hown1 hgrow hat hlt2)
   have hK := (Kept.of_grown hgrow).below (B := w.heap.size) (by simp; omega) (fun z hz e => by have := (hO.lt z e).1; omega)
   have e1 : bcells (bs.take (k + 1)) = bcells (bs.take k) ++ [.int .u8 (x : Int)] := by rw [take_snoc _ _ hlt, bcells_snoc, hxk.out]
   go_roundw
   case rel => exact ⟨k + 1, some ⟨g, 0, none⟩, cap2, by omega, by go_num, rfl, by rw [e1]; exact hown1, (gal hb _).trans hK⟩
   case measure => simp [intOf]; omega
  ·
   obtain rfl : k = bs.length := by omega
   rw [List.take_length] at hO
   go_wp2
   go_ret
   exact ⟨oa, c, rfl, hO, hb⟩
structure LB where
 l : List Nat
 a : Option Addr
 cap : Nat
 deriving Inhabited
def LB.v (y : LB) : Value := .slice y.a y.l.length y.cap
structure SB (base : Nat) (wr : World) (ba : Option Addr) (bc : Nat) (lb : List LB) : Prop where
 own : wr.ownsRow base 22 1 (.slice ba lb.length bc) lb.length (lb.map LB.v)
 byt : ∀ y, y ∈ lb → wr.ownsRow base 5 1 (.slice y.a y.l.length y.cap) y.l.length (bcells y.l)
theorem SB.kept {p : Nat → Prop} {base : Nat} {w w' : World} {ba : Option Addr} {bc : Nat} {lb : List LB} (h : SB base w ba bc lb) (K : Kept p w w') (hp : ∀ z, p z → base ≤ z → ¬ IsS w z ∧ ¬ IsB w z) : SB base w' ba bc lb :=
 ⟨K.owns h.own (fun z hz e => let r := owns_isS h.own hz; (hp z e r.2).1 r.1), fun y hy => K.owns (h.byt y hy) (fun z hz e => let r := owns_isB (h.byt y hy) hz; (hp z e r.2).2 r.1)⟩
theorem SB.grow {base : Nat} {w w' : World} {ba : Option Addr} {bc : Nat} {lb : List LB} (h : SB base w ba bc lb) (hb : Below w.heap.size w w') : SB base w' ba bc lb := h.kept (Kept.of_below hb (fun _ => False)) (fun _ e => e.elim)
theorem SB.nil (base : Nat) (w : World) : SB base w none 0 [] := ⟨owns_none _ _ _ _, fun y hy => by cases hy⟩
theorem SB.push {base : Nat} {w w5 : World} {ba : Option Addr} {bc : Nat} {lb : List LB} (h : SB base w ba bc lb) {y : LB} (hy : w.ownsRow base 5 1 (.slice y.a y.l.length y.cap) y.l.length (bcells y.l)) {gg cc : Nat}
  (hown : w5.ownsRow base 22 1 (.slice (some ⟨gg, 0, none⟩) (lb.length + 1) cc) (lb.length + 1) (lb.map LB.v ++ [y.v])) (hgrow : w.grownBy w5 (Value.slice ba lb.length bc).ownBlock) : SB base w5 (some ⟨gg, 0, none⟩) cc (lb ++ [y]) := by
 have K := Kept.of_grown hgrow
 refine ⟨by rw [List.map_append, List.length_append]; exact hown, fun x hx => ?_⟩
 have hb : ∀ {x : LB}, w.ownsRow base 5 1 (.slice x.a x.l.length x.cap) x.l.length (bcells x.l) → w5.ownsRow base 5 1 (.slice x.a x.l.length x.cap) x.l.length (bcells x.l) := fun hx => K.owns hx (fun z hz e => not_B_of_S (owns_isS h.own e).1 (owns_isB hx hz).1)
 rcases List.mem_append.1 hx with e | e
 · exact hb (h.byt x e)
 ·
  obtain rfl : x = y := by simpa using e
  exact hb hy
theorem LB.get {lb : List LB} {i : Nat} (hi : i < lb.length) : (lb.map LB.v)[i]? = some (lb[i]!.v) := by rw [getElem!_pos lb i hi]; simp [hi]
theorem SB.at_ {base : Nat} {w : World} {ba : Option Addr} {bc : Nat} {lb : List LB} (h : SB base w ba bc lb) : BlksAt w ba (lb.map (·.l)) := fun i hi => by
 have hi' : i < lb.length := by simpa using hi
 obtain ⟨g, ha, _, _, hc⟩ := owns_cell h.own (LB.get hi')
 have e : (lb.map (·.l))[i]! = lb[i]!.l := by rw [getElem!_pos _ i hi, getElem!_pos lb i hi']; simp
 rw [e]
 exact ⟨g, 0, lb[i]!.a, lb[i]!.cap, ha, by rw [Nat.zero_add]; exact hc, owns_bytes (h.byt _ (mem_at hi'))⟩
structure SW (base : Nat) (wr : World) (wa : Option Addr) (wc : Nat) (lw : List LW) : Prop where
 own : wr.ownsRow base 125 2 (.slice wa lw.length wc) lw.length (wCells lw)
 byt : ∀ y, y ∈ lw → wr.ownsRow base 5 1 (.slice y.a y.x.bytes.length y.cap) y.x.bytes.length (bcells y.x.bytes)
theorem SW.kept {p : Nat → Prop} {base : Nat} {w w' : World} {wa : Option Addr} {wc : Nat} {lw : List LW} (h : SW base w wa wc lw) (K : Kept p w w') (hp : ∀ z, p z → base ≤ z → ¬ IsW w z ∧ ¬ IsB w z) : SW base w' wa wc lw :=
 ⟨K.owns h.own (fun z hz e => let r := owns_isW h.own hz; (hp z e r.2).1 r.1), fun y hy => K.owns (h.byt y hy) (fun z hz e => let r := owns_isB (h.byt y hy) hz; (hp z e r.2).2 r.1)⟩
theorem SW.grow {base : Nat} {w w' : World} {wa : Option Addr} {wc : Nat} {lw : List LW} (h : SW base w wa wc lw) (hb : Below w.heap.size w w') : SW base w' wa wc lw := h.kept (Kept.of_below hb (fun _ => False)) (fun _ e => e.elim)
theorem SW.nil (base : Nat) (w : World) : SW base w none 0 [] := ⟨owns_none _ _ _ _, fun y hy => by cases hy⟩
theorem SW.push {base : Nat} {w w5 : World} {wa : Option Addr} {wc : Nat} {lw : List LW} (h : SW base w wa wc lw) {y : LW} (hy : w.ownsRow base 5 1 (.slice y.a y.x.bytes.length y.cap) y.x.bytes.length (bcells y.x.bytes)) {gg cc : Nat}
  (hown : w5.ownsRow base 125 2 (.slice (some ⟨gg, 0, none⟩) (lw.length + 1) cc) (lw.length + 1) (wCells lw ++ [.int .i64 y.x.block, .slice y.a y.x.bytes.length y.cap])) (hgrow : w.grownBy w5 (Value.slice wa lw.length wc).ownBlock) : SW base w5 (some ⟨gg, 0, none⟩) cc (lw ++ [y]) := by
 have K := Kept.of_grown hgrow
 refine ⟨by rw [wCells_snoc, List.length_append]; exact hown, fun x hx => ?_⟩
 have hb : ∀ {x : LW}, w.ownsRow base 5 1 (.slice x.a x.x.bytes.length x.cap) x.x.bytes.length (bcells x.x.bytes) → w5.ownsRow base 5 1 (.slice x.a x.x.bytes.length x.cap) x.x.bytes.length (bcells x.x.bytes) := fun hx => K.owns hx (fun z hz e => not_B_of_W (owns_isW h.own e).1 (owns_isB hx hz).1)
 rcases List.mem_append.1 hx with e | e
 · exact hb (h.byt x e)
 ·
  obtain rfl : x = y := by simpa using e
  exact hb hy
theorem SW.at_ {base : Nat} {w : World} {wa : Option Addr} {wc : Nat} {lw : List LW} (h : SW base w wa wc lw) : WrsAt w wa (lw.map (·.x)) := fun i hi => by
 have hi' : i < lw.length := by simpa using hi
 obtain ⟨g, ha, _, _, hc⟩ := owns_cell h.own ((wCells_get lw i 0 hi' (by omega)).trans rfl)
 obtain ⟨g1, ha1, _, _, hc1⟩ := owns_cell h.own ((wCells_get lw i 1 hi' (by omega)).trans rfl)
 rw [ha] at ha1
 obtain rfl := some_addr ha1
 have e : (lw.map (·.x))[i]! = lw[i]!.x := by rw [getElem!_pos _ i hi, getElem!_pos lw i hi']; simp
 rw [e]
 exact ⟨g, 0, lw[i]!.a, lw[i]!.cap, ha, by rw [Nat.zero_add]; exact hc, by rw [Nat.zero_add]; exact hc1, owns_bytes (h.byt _ (mem_at hi'))⟩
structure VB (wr : World) (V : Nat) (s0 s1 : Value) : Prop where
 v0 : wr.cell? ⟨V, 0, none⟩ = some s0
 v1 : wr.cell? ⟨V, 1, none⟩ = some s1
 vf : ∀ o, wr.frozen? ⟨V, o, none⟩ = false
theorem VB.lt {w : World} {V : Nat} {s0 s1 : Value} (h : VB w V s0 s1) : V < w.heap.size := World.block_lt_of_cell? w ⟨V, 0, none⟩ h.v0
theorem VB.kept {p : Nat → Prop} {w w' : World} {V : Nat} {s0 s1 : Value} (h : VB w V s0 s1) (K : Kept p w w') (hn : ¬ p V) : VB w' V s0 s1 :=
 ⟨K.cell h.v0 hn, K.cell h.v1 hn, fun o => (World.frozen?_of_block (w := w) (a := ⟨V, o, none⟩) (K.block V h.lt hn)).trans (h.vf o)⟩
theorem VB.grow {w w' : World} {V : Nat} {s0 s1 : Value} (h : VB w V s0 s1) (hb : Below w.heap.size w w') : VB w' V s0 s1 := h.kept (Kept.of_below hb (fun _ => False)) (fun e => e)
theorem VB.set0 {w : World} {V : Nat} {s0 s1 : Value} (h : VB w V s0 s1) (s : Value) : VB (w.setCell ⟨V, 0, none⟩ s) V s s1 :=
 ⟨World.cell?_setCell_same _ _ _ h.v0, (World.cell?_setCell_other _ _ _ _ (by simp)).trans h.v1, fun o => by rw [World.frozen?_setCell]; exact h.vf o⟩
theorem VB.set1 {w : World} {V : Nat} {s0 s1 : Value} (h : VB w V s0 s1) (s : Value) : VB (w.setCell ⟨V, 1, none⟩ s) V s0 s :=
 ⟨(World.cell?_setCell_other _ _ _ _ (by simp)).trans h.v0, World.cell?_setCell_same _ _ _ h.v1, fun o => by rw [World.frozen?_setCell]; exact h.vf o⟩
theorem VB.new (w : World) (s0 s1 : Value) (t : TypeId) : VB (w.alloc (.cells #[s0, s1] t)) w.heap.size s0 s1 := ⟨by simp, by simp, fun o => by simp⟩
theorem VB.new_at (w : World) (s0 s1 : Value) (t : TypeId) (V : Nat) (hV : V = w.heap.size) : VB (w.alloc (.cells #[s0, s1] t)) V s0 s1 := by subst hV; exact VB.new w s0 s1 t
theorem Kept.one (w : World) (V o : Nat) (s : Value) : Kept (fun b => b = V) w (w.setCell ⟨V, o, none⟩ s) := (Kept.refl (fun b => b = V) w).set (a := ⟨V, o, none⟩) (fun _ => rfl) s
theorem SB.set {base : Nat} {w : World} {ba : Option Addr} {bc : Nat} {lb : List LB} (h : SB base w ba bc lb) {V : Nat} (hV : V < base) (o : Nat) (s : Value) : SB base (w.setCell ⟨V, o, none⟩ s) ba bc lb := h.kept (Kept.one w V o s) (fun z e hz => by omega)
theorem SW.set {base : Nat} {w : World} {wa : Option Addr} {wc : Nat} {lw : List LW} (h : SW base w wa wc lw) {V : Nat} (hV : V < base) (o : Nat) (s : Value) : SW base (w.setCell ⟨V, o, none⟩ s) wa wc lw := h.kept (Kept.one w V o s) (fun z e hz => by omega)
theorem l2eight_any (base : Nat) (oa : Option Addr) (len cap : Nat) (xs : List Nat) (n : Nat) (z : Int) (w : World) (hlen : len = xs.length) (hz : z = (n : Int)) (hn : n < 18446744073709551616) (hbase : base ≤ w.heap.size) (hl : xs.length ≤ 1099511627776)
  (hO : w.ownsRow base 5 1 (.slice oa xs.length cap) xs.length (bcells xs)) :
  Calls Tryz.prog 90 #[.slice oa len cap, .int .u64 z] w (APost base oa xs (lowB 8 n) w) := by
 subst hz hlen
 obtain ⟨i0, hi, hz0, hz1, hz2⟩ := info_parts info_u8
 go_enter Tryz.func90, Tryz.ntmps90
 go_wp2
 go_loopw [0, 1, 5] (fun o i c ws => ∃ (k m : Nat) (zs : List Nat) (oa1 : Option Addr) (cap1 : Nat), o = .slice oa1 zs.length cap1 ∧ i = .int .u64 m ∧ c = .int .i64 k ∧ k ≤ 8 ∧ Hid (zs = xs ++ lowB k n) ∧ Hid (m = n / 256 ^ k) ∧ zs.length ≤ xs.length + k ∧ m < 18446744073709551616 ∧ Ob w base oa ws oa1 cap1 zs) (fun _ _ c _ => 8 - (intOf c).toNat)
 case atStart => exact ⟨0, n, xs, oa, cap, rfl, rfl, rfl, by omega, (List.append_nil _).symm, by show _ = _; simp, Nat.le_refl _, hn, Ob.start hO⟩
 case round =>
  obtain ⟨k, m, zs, oa1, cap1, rfl, rfl, rfl, hk, hzs, hm, hzl, hm64, hOb⟩ := hrel
  have hsz := hOb.kept.size
  by_cases hlt : k < 8
  ·
   have hd : (k : Int) < 8 := by omega
   obtain ⟨x, hx⟩ : ∃ x, Hid (x = m % 256) := ⟨_, rfl⟩
   have e2 : IntKind.u8.wrap (m : Int) = (x : Int) := by rw [hx.out, IntKind.wrap_u8']; omega
   go_wp2_with (at_builtin; refine wpList_append_lies _ rfl (.tmp 10) (.tmp 13) 22 rfl base 5 i0 (.int .u8 0) 1 1 Tryz.underlying22 hi hz0 hz1 hz2 rfl (by decide) _ _ _ rfl (hOb.own.alloc _) ⟨wr.heap.size, 0, none⟩ 1 1 [.int .u8 (x : Int)] rfl rfl (World.news_of_block (cs := #[.int .u8 (x : Int)]) (t := 5) (fr := (0, 0)) (blk_new_at _ _ _ (by simp))) (by simp [Value.oneCell']) (by decide) (by unfold maxLen; omega) (by omega) (by simp; omega) (wr.heap.size + 1) (by simp) ?_; intro g cap2 w1 hown1 hgrow hat hlt2)
   have hP := hOb.push (ys := [x]) (gal (gre _) _) hown1 hgrow (hat.elim Or.inl (fun h => Or.inr (by omega)))
   go_roundw
   case rel =>
    refine ⟨k + 1, m / 256, zs ++ [x], _, _, by simp, by go_num, by go_num, by omega, ?_, ?_, by simp; omega, by omega, hP⟩
    ·
     show _ = _
     rw [hzs.out, lowB_snoc, hx.out, hm.out, List.append_assoc]
    ·
     show _ = _
     rw [hm.out, Nat.div_div_eq_div_mul, Nat.pow_succ]
   case measure => simp [intOf]; omega
  ·
   obtain rfl : k = 8 := by omega
   go_wp2
   go_ret
   have e3 := hzs.out
   subst e3
   exact ⟨_, _, rfl, hOb⟩
theorem l2signed_any (n : Int) (w : World) (hn : I64 n) :
  Calls Tryz.prog 129 #[.int .i64 n] w fun e w' => e = .returned (.int .u64 (zig n : Int)) ∧ Below w.heap.size w w' := by
 unfold I64 at hn
 by_cases h0 : n < 0
 ·
  have e1 : Hid (zig n = (-2 * n - 1).toNat) := if_pos h0
  go_enter Tryz.func129, Tryz.ntmps129
  go_wp2
  go_ret
  refine ⟨ret_int ?_, gre _⟩
  rw [e1.out]
  try simp only [IntKind.wrap_u64, wrap64]
  omega
 ·
  have e1 : Hid (zig n = (2 * n).toNat) := if_neg h0
  go_enter Tryz.func129, Tryz.ntmps129
  go_wp2
  go_ret
  refine ⟨ret_int ?_, gre _⟩
  rw [e1.out]
  try simp only [IntKind.wrap_u64, wrap64]
  omega
theorem l2val_nil (base : Nat) (oa : Option Addr) (cap : Nat) (xs : List Nat)  (w : World)  (hbase : base ≤ w.heap.size) (hl : xs.length ≤ 1099511600000)
  (hO : w.ownsRow base 5 1 (.slice oa xs.length cap) xs.length (bcells xs)) :
  Calls Tryz.prog 89 #[.slice oa xs.length cap, (GV.mk 0 0 ⟨#[]⟩ 0).val] w (APost base oa xs (0 :: []) w) := by
 obtain ⟨i0, hi, hz0, hz1, hz2⟩ := info_parts info_u8
 have hF := (Four.new w ⟨0, 0, ⟨#[]⟩, 0⟩ 29).alloc (.cells #[.int .u8 0] 5)
 have hn0 : ¬ ((Value.slice oa xs.length cap).ownBlock = some w.heap.size) := fun e => by have := (hO.lt _ e).2; omega
 go_enter Tryz.func89, Tryz.ntmps89
 go_wp2_with (at_builtin; refine wpList_append_lies _ rfl (.tmp 5) (.tmp 9) 22 rfl base 5 i0 (.int .u8 0) 1 1 Tryz.underlying22 hi hz0 hz1 hz2 rfl (by decide) _ _ _ rfl ((hO.alloc _).alloc _) ⟨w.heap.size + 1, 0, none⟩ 1 1 [.int .u8 0] rfl rfl (World.news_of_block (cs := #[.int .u8 0]) (t := 5) (fr := (0, 0)) (blk_new_at _ _ _ (by simp))) (by simp [Value.oneCell']) (by decide) (by unfold maxLen; omega) (by omega) (by simp; omega) (w.heap.size + 2) (by simp) ?_; intro g cap2 w1 hown1 hgrow hat hlt2; have hF1 := hF.kept (Kept.of_grown hgrow) hn0; obtain ⟨fz, f0, f1, f2, f3, ff⟩ := id hF1; have hP := (Ob.start hO).push (ys := [0]) (gal (gal (gre _) _) _) hown1 hgrow (hat.elim Or.inl (fun h => Or.inr (by omega))); have hs1 := hP.kept.size)
 go_ret
 exact ⟨_, _, by simp, hP⟩
theorem l2val_num (base : Nat) (oa : Option Addr) (cap : Nat) (xs : List Nat) (num : Int) (w : World) (hn : I64 num) (hbase : base ≤ w.heap.size) (hl : xs.length ≤ 1099511600000)
  (hO : w.ownsRow base 5 1 (.slice oa xs.length cap) xs.length (bcells xs)) :
  Calls Tryz.prog 89 #[.slice oa xs.length cap, (GV.mk 1 num ⟨#[]⟩ 0).val] w (APost base oa xs (1 :: numB (zig num)) w) := by
 obtain ⟨i0, hi, hz0, hz1, hz2⟩ := info_parts info_u8
 have hF := (Four.new w ⟨1, num, ⟨#[]⟩, 0⟩ 29).alloc (.cells #[.int .u8 1] 5)
 have hn0 : ¬ ((Value.slice oa xs.length cap).ownBlock = some w.heap.size) := fun e => by have := (hO.lt _ e).2; omega
 go_enter Tryz.func89, Tryz.ntmps89
 go_wp2_with (first
  | (at_builtin; refine wpList_append_lies _ rfl (.tmp 5) (.tmp 9) 22 rfl base 5 i0 (.int .u8 0) 1 1 Tryz.underlying22 hi hz0 hz1 hz2 rfl (by decide) _ _ _ rfl ((hO.alloc _).alloc _) ⟨w.heap.size + 1, 0, none⟩ 1 1 [.int .u8 1] rfl rfl (World.news_of_block (cs := #[.int .u8 1]) (t := 5) (fr := (0, 0)) (blk_new_at _ _ _ (by simp))) (by simp [Value.oneCell']) (by decide) (by unfold maxLen; omega) (by omega) (by simp; omega) (w.heap.size + 2) (by simp) ?_; intro g cap2 w1 hown1 hgrow hat hlt2; have hF1 := hF.kept (Kept.of_grown hgrow) hn0; obtain ⟨fz, f0, f1, f2, f3, ff⟩ := id hF1; have hP := (Ob.start hO).push (ys := [1]) (gal (gal (gre _) _) _) hown1 hgrow (hat.elim Or.inl (fun h => Or.inr (by omega))); have hs1 := hP.kept.size)
  | (go_at_call 129; refine (l2signed_any num _ hn).mono ?_; rintro e w2 ⟨rfl, hb2⟩; have hP2 := hP.grow hb2; have hs2 := hP2.kept.size)
  | (go_at_call 88; refine (l2num_any base _ _ _ (xs ++ [1]) (zig num) _ _ (by simp) rfl (zig_lt hn) (by omega) (by simp; omega) hP2.own).mono ?_; rintro e w3 ⟨oa3, cap3, rfl, hQ⟩))
 go_ret
 have hR := hP2.call hQ
 rw [List.append_assoc] at hR
 exact ⟨_, _, by simp, hR⟩
theorem l2val_bits (base : Nat) (oa : Option Addr) (cap : Nat) (xs : List Nat) (num : Int) (w : World)  (hbase : base ≤ w.heap.size) (hl : xs.length ≤ 1099511600000)
  (hO : w.ownsRow base 5 1 (.slice oa xs.length cap) xs.length (bcells xs)) :
  Calls Tryz.prog 89 #[.slice oa xs.length cap, (GV.mk 2 num ⟨#[]⟩ 0).val] w (APost base oa xs (2 :: lowB 8 (u64n num)) w) := by
 obtain ⟨i0, hi, hz0, hz1, hz2⟩ := info_parts info_u8
 have hF := (Four.new w ⟨2, num, ⟨#[]⟩, 0⟩ 29).alloc (.cells #[.int .u8 2] 5)
 have hn0 : ¬ ((Value.slice oa xs.length cap).ownBlock = some w.heap.size) := fun e => by have := (hO.lt _ e).2; omega
 have e6 : IntKind.u64.wrap num = ((u64n num : Nat) : Int) := by rw [IntKind.wrap_u64]; unfold u64n; omega
 go_enter Tryz.func89, Tryz.ntmps89
 go_wp2_with (first
  | (at_builtin; refine wpList_append_lies _ rfl (.tmp 5) (.tmp 9) 22 rfl base 5 i0 (.int .u8 0) 1 1 Tryz.underlying22 hi hz0 hz1 hz2 rfl (by decide) _ _ _ rfl ((hO.alloc _).alloc _) ⟨w.heap.size + 1, 0, none⟩ 1 1 [.int .u8 2] rfl rfl (World.news_of_block (cs := #[.int .u8 2]) (t := 5) (fr := (0, 0)) (blk_new_at _ _ _ (by simp))) (by simp [Value.oneCell']) (by decide) (by unfold maxLen; omega) (by omega) (by simp; omega) (w.heap.size + 2) (by simp) ?_; intro g cap2 w1 hown1 hgrow hat hlt2; have hF1 := hF.kept (Kept.of_grown hgrow) hn0; obtain ⟨fz, f0, f1, f2, f3, ff⟩ := id hF1; have hP := (Ob.start hO).push (ys := [2]) (gal (gal (gre _) _) _) hown1 hgrow (hat.elim Or.inl (fun h => Or.inr (by omega))); have hs1 := hP.kept.size)
  | (go_at_call 90; refine (l2eight_any base _ _ _ (xs ++ [2]) (u64n num) _ _ (by simp) ?_ (u64n_lt num) (by omega) (by simp; omega) hP.own).mono ?_; (first | rfl | exact e6); rintro e w3 ⟨oa3, cap3, rfl, hQ⟩))
 go_ret
 have hR := hP.call hQ
 rw [List.append_assoc] at hR
 exact ⟨_, _, by simp, hR⟩
theorem l2val_node (base : Nat) (oa : Option Addr) (cap : Nat) (xs : List Nat) (node : Nat) (w : World) (hn : node < 300) (hbase : base ≤ w.heap.size) (hl : xs.length ≤ 1099511600000)
  (hO : w.ownsRow base 5 1 (.slice oa xs.length cap) xs.length (bcells xs)) :
  Calls Tryz.prog 89 #[.slice oa xs.length cap, (GV.mk 4 0 ⟨#[]⟩ node).val] w (APost base oa xs (4 :: numB node) w) := by
 obtain ⟨i0, hi, hz0, hz1, hz2⟩ := info_parts info_u8
 have hF := (Four.new w ⟨4, 0, ⟨#[]⟩, node⟩ 29).alloc (.cells #[.int .u8 4] 5)
 have hn0 : ¬ ((Value.slice oa xs.length cap).ownBlock = some w.heap.size) := fun e => by have := (hO.lt _ e).2; omega
 have e6 : IntKind.u64.wrap (node : Int) = (node : Int) := by rw [IntKind.wrap_u64]; omega
 go_enter Tryz.func89, Tryz.ntmps89
 go_wp2_with (first
  | (at_builtin; refine wpList_append_lies _ rfl (.tmp 5) (.tmp 9) 22 rfl base 5 i0 (.int .u8 0) 1 1 Tryz.underlying22 hi hz0 hz1 hz2 rfl (by decide) _ _ _ rfl ((hO.alloc _).alloc _) ⟨w.heap.size + 1, 0, none⟩ 1 1 [.int .u8 4] rfl rfl (World.news_of_block (cs := #[.int .u8 4]) (t := 5) (fr := (0, 0)) (blk_new_at _ _ _ (by simp))) (by simp [Value.oneCell']) (by decide) (by unfold maxLen; omega) (by omega) (by simp; omega) (w.heap.size + 2) (by simp) ?_; intro g cap2 w1 hown1 hgrow hat hlt2; have hF1 := hF.kept (Kept.of_grown hgrow) hn0; obtain ⟨fz, f0, f1, f2, f3, ff⟩ := id hF1; have hP := (Ob.start hO).push (ys := [4]) (gal (gal (gre _) _) _) hown1 hgrow (hat.elim Or.inl (fun h => Or.inr (by omega))); have hs1 := hP.kept.size)
  | (go_at_call 88; refine (l2num_any base _ _ _ (xs ++ [4]) node _ _ (by simp) ?_ (by omega) (by omega) (by simp; omega) hP.own).mono ?_; (first | rfl | exact e6); rintro e w3 ⟨oa3, cap3, rfl, hQ⟩))
 go_ret
 have hR := hP.call hQ
 rw [List.append_assoc] at hR
 exact ⟨_, _, by simp, hR⟩
theorem append_str_lies {P : Program} (w : World) (base : Nat) (t u ty e : TypeId) (i : TypeInfo) (ht : P.underlying t = some (.slice e)) (hu : P.underlying u = some .string) (hi : P.info? e = some i) (hz : i.zero = some (.int .u8 0))
  (hsize : i.size = 1) (hby : i.bytes = 1) (v : Value) (n : Nat) (xs : List Value) (hown : w.ownsRow base e 1 v n xs) (s : ByteArray)
  (h63 : n + s.size ≤ maxLen) (hbytes : n + s.size ≤ 140737488355328) (hbase : base ≤ w.heap.size) (hn : 0 < n) :
  ∃ g cap w', (Builtin.append_ #[t, u] ty #[v, .string s]).run P w = .ok (.slice (some ⟨g, 0, none⟩) (n + s.size) cap) w' ∧ w'.ownsRow base e 1 (.slice (some ⟨g, 0, none⟩) (n + s.size) cap) (n + s.size) (xs ++ Lib.strCells s) ∧ w.grownBy w' v.ownBlock ∧ (v.ownBlock = some g ∨ g = w.heap.size) := by
 obtain ⟨v', w', hr, h2, h3, _⟩ := Lib.run_append_own_string (P := P) w base t u ty e i ht hu hi hz hsize hby v n xs hown s h63 hbytes hbase
 obtain ⟨g, cap, rfl, _, hlt⟩ := h2.form (by omega)
 refine ⟨g, cap, w', hr, h2, h3, ?_⟩
 unfold maxLen at h63
 have hxl : xs.length = n := by simpa using hown.1
 rcases hown.2 with ⟨rfl, rfl⟩ | ⟨g0, cap0, cur, rfl, hbg, hg, hnc, hcm, hcs, htake⟩
 · omega
 ·
  have hcs' : cur.size = cap0 := by simpa using hcs
  by_cases hroom : n + s.size ≤ cap0
  ·
   have hr2 := Lib.run_append_room_string (P := P) w t u ty e i ht hu hi hsize g0 n cap0 cur hg s hroom (by omega)
   rw [hr] at hr2
   simp at hr2
   left
   rw [hr2.1.1]; rfl
  ·
   have holds : ∀ j u, xs[j]? = some u → w.cell? ((⟨g0, 0, none⟩ : Addr).add j) = some u := hown.cells (g := g0) rfl
   have hr2 := Lib.run_append_grow_string (P := P) w t u ty e i (.int .u8 0) ht hu hi hz ⟨g0, 0, none⟩ n cap0 xs (by rw [hsize]; simpa using hxl) holds s (by omega) (by omega) (by rw [hby]; exact growslice_fits (by omega) (by omega))
   rw [hr] at hr2
   simp at hr2
   right
   exact hr2.1.1
abbrev headV (ok : Bool) (gen len sum : Int) : Value := .agg #[.bool ok, .int .i64 gen, .int .i64 len, .int .i64 sum]
def headOkB (ok : Bool) (gen len : Int) : Bool := ok && decide (1 ≤ gen) && decide (gen ≤ 1000000000000) && decide (1 ≤ len) && decide (len ≤ 4096)
def headN (gen len sum : Int) : List Nat := [72, 69, 65, 68] ++ lowB 8 (u64n gen) ++ lowB 8 (u64n len) ++ lowB 8 (u64n sum)
def headB (gen len sum : Int) : List Nat := headN gen len sum ++ lowB 8 (sumN (headN gen len sum)) ++ List.replicate 28 0
theorem headN_length (gen len sum : Int) : (headN gen len sum).length = 28 := by simp [headN, lowB_length]
theorem headB_length (gen len sum : Int) : (headB gen len sum).length = 64 := by simp [headB, headN_length, lowB_length]
theorem owns_atH {w : World} {base n cap : Nat} {a : Option Addr} {bs : List Nat} (h : w.ownsRow base 5 1 (.slice a n cap) bs.length (bcells bs)) : BytesAt w a bs := fun i hi => by
 obtain ⟨g, ha, _, _, hc⟩ := owns_cell h (bcells_get hi)
 exact ⟨g, 0, ha, by rw [Nat.zero_add]; exact hc⟩
def sliceN : Value → Nat
 | .slice _ n _ => n
 | _ => 0
structure HBox (w : World) (p : Nat) (ok : Bool) (gen len sum : Int) : Prop where
 lt : p < w.heap.size
 c0 : w.cell? ⟨p, 0, none⟩ = some (.bool ok)
 c1 : w.cell? ⟨p, 1, none⟩ = some (.int .i64 gen)
 c2 : w.cell? ⟨p, 2, none⟩ = some (.int .i64 len)
 c3 : w.cell? ⟨p, 3, none⟩ = some (.int .i64 sum)
theorem HBox.new (w : World) (ok : Bool) (gen len sum : Int) (t : TypeId) : HBox (w.alloc (.cells #[.bool ok, .int .i64 gen, .int .i64 len, .int .i64 sum] t)) w.heap.size ok gen len sum := ⟨by simp, by simp, by simp, by simp, by simp⟩
theorem HBox.kept {p : Nat → Prop} {w w' : World} {b : Nat} {ok : Bool} {gen len sum : Int} (h : HBox w b ok gen len sum) (k : Kept p w w') (hn : ¬ p b) : HBox w' b ok gen len sum :=
 ⟨Nat.lt_of_lt_of_le h.lt k.size, k.cell h.c0 hn, k.cell h.c1 hn, k.cell h.c2 hn, k.cell h.c3 hn⟩
theorem l4headok_any (ok : Bool) (gen len sum : Int) (w : World) :
  Calls Tryz.prog 149 #[headV ok gen len sum] w fun e w' => e = .returned (.bool (headOkB ok gen len)) ∧ Below w.heap.size w w' := by
 go_enter Tryz.func149, Tryz.ntmps149
 go_wp2
 all_goals
  go_ret
  refine ⟨?_, gal (gre _) _⟩
  simp_all [headOkB]
  try omega
theorem l4block_any (ok : Bool) (gen len sum : Int) (w : World) :
  Calls Tryz.prog 112 #[headV ok gen len sum] w fun e w' => ∃ oa c, e = .returned (.slice oa (headB gen len sum).length c) ∧ w'.ownsRow w.heap.size 5 1 (.slice oa (headB gen len sum).length c) (headB gen len sum).length (bcells (headB gen len sum)) ∧ Below w.heap.size w w' := by
 obtain ⟨i0, hi, hz0, hz1, hz2⟩ := info_parts info_u8
 have g6 : IntKind.u64.wrap gen = ((u64n gen : Nat) : Int) := by rw [IntKind.wrap_u64]; unfold u64n; omega
 have l6 : IntKind.u64.wrap len = ((u64n len : Nat) : Int) := by rw [IntKind.wrap_u64]; unfold u64n; omega
 have s6 : IntKind.u64.wrap sum = ((u64n sum : Nat) : Int) := by rw [IntKind.wrap_u64]; unfold u64n; omega
 have hb1 : ∀ x, x ∈ headN gen len sum → x < 256 := fun x hx => by
  unfold headN at hx
  rcases List.mem_append.1 hx with hx | hx
  ·
   rcases List.mem_append.1 hx with hx | hx
   ·
    rcases List.mem_append.1 hx with hx | hx
    · simp at hx; omega
    · exact lowB_byte _ _ _ hx
   · exact lowB_byte _ _ _ hx
  · exact lowB_byte _ _ _ hx
 obtain ⟨wA, hwA⟩ : ∃ wA, Hid (wA = w.alloc (.cells #[.bool ok, .int .i64 gen, .int .i64 len, .int .i64 sum] 65)) := ⟨_, rfl⟩
 have hsA : wA.heap.size = w.heap.size + 1 := by rw [hwA.out]; simp
 have hHA : HBox wA w.heap.size ok gen len sum := by rw [hwA.out]; exact HBox.new w ok gen len sum _
 have hKA : Kept (fun _ => False) w wA := by rw [hwA.out]; exact (Kept.refl _ w).alloc _
 have hO0 := World.ownsRow_lit (base := w.heap.size + 1) (e := 5) (size := 1) wA #[.int .u8 72, .int .u8 69, .int .u8 65, .int .u8 68] 4 (by omega) (by decide) rfl
 have hK0 : Kept (fun _ => False) wA (wA.alloc (.cells #[.int .u8 72, .int .u8 69, .int .u8 65, .int .u8 68] 5)) := (Kept.refl _ wA).alloc _
 have hH0 := hHA.kept hK0 (fun e => e)
 have hKw := hKA.trans hK0 (fun _ _ e => e)
 have hs0 : (wA.alloc (.cells #[.int .u8 72, .int .u8 69, .int .u8 65, .int .u8 68] 5)).heap.size = w.heap.size + 1 + 1 := by simp [hsA]
 rw [hsA] at hO0
 go_enter Tryz.func112, Tryz.ntmps112
 go_upto_region 2 with fail
 rw [← hwA.out]
 generalize wA.alloc (.cells #[.int .u8 72, .int .u8 69, .int .u8 65, .int .u8 68] 5) = wB at hO0 hH0 hKw hs0 ⊢
 clear hK0 hHA hKA
 obtain ⟨zs, hzs⟩ := hid_ex ([72, 69, 65, 68] : List Nat)
 replace hO0 : wB.ownsRow (w.heap.size + 1) 5 1 (.slice (some ⟨w.heap.size + 1, 0, none⟩) zs.length 4) zs.length (bcells zs) := by rw [hzs.out]; exact hO0
 have hz4 : Hid (zs.length = 4) := by show _ = _; rw [hzs.out]; rfl
 have hlow : ∀ n, (lowB 8 n).length = 8 := lowB_length 8
 obtain ⟨_, _, b1, b2, b3⟩ := id hH0
 go_wp2_with (first
  | (go_at_call 90; refine (l2eight_any (w.heap.size + 1) oa3 z3.length c3 z3 (sumN z3) _ w5 rfl rfl (sumN_lt z3) (by have := hb5.size; have := hQ3.kept.size; have := hQ2.kept.size; have := hQ1.kept.size; omega) (by have := hl3.out; omega) ((Kept.of_below hb5 (fun _ => False)).owns hQ3.own (fun _ _ e => e))).mono ?_; rintro e w6 ⟨oa4, c4, rfl, hQ4⟩; obtain ⟨z4, hz4'⟩ := hid_ex (z3 ++ lowB 8 (sumN z3)); rw [← hz4'.out] at hQ4 ⊢)
  | (go_at_call 91; refine (l2sum_any oa3 z3 c3 w4 (owns_atH hQ3.own) (by have := hl3.out; unfold maxLen; omega) hb3).mono ?_; rintro e w5 ⟨rfl, hb5⟩)
  | (go_at_call 90; refine (l2eight_any (w.heap.size + 1) oa2 z2.length c2 z2 (u64n sum) _ w3 rfl (by first | rfl | exact s6) (u64n_lt sum) (by have := hQ2.kept.size; have := hQ1.kept.size; omega) (by have := hl2.out; omega) hQ2.own).mono ?_; rintro e w4 ⟨oa3, c3, rfl, hQ3⟩; obtain ⟨z3, hz3'⟩ := hid_ex (z2 ++ lowB 8 (u64n sum)); rw [← hz3'.out] at hQ3 ⊢; have hl3 : Hid (z3.length = 28) := (by show _ = _; rw [hz3'.out, List.length_append, hl2.out, hlow]); have hz3n : Hid (z3 = headN gen len sum) := (by show _ = _; rw [hz3'.out, hz2'.out, hz1'.out, hzs.out]; rfl); have hb3 : ∀ x, x ∈ z3 → x < 256 := (by rw [hz3n.out]; exact hb1))
  | (go_at_call 90; refine (l2eight_any (w.heap.size + 1) oa1 z1.length c1 z1 (u64n len) _ w2 rfl (by first | rfl | exact l6) (u64n_lt len) (by have := hQ1.kept.size; omega) (by have := hl1.out; omega) hQ1.own).mono ?_; rintro e w3 ⟨oa2, c2, rfl, hQ2⟩; obtain ⟨z2, hz2'⟩ := hid_ex (z1 ++ lowB 8 (u64n len)); rw [← hz2'.out] at hQ2 ⊢; have hl2 : Hid (z2.length = 20) := (by show _ = _; rw [hz2'.out, List.length_append, hl1.out, hlow]); have hH3 := hH2.kept hQ2.kept (fun e => (by have := (hQ1.lt e).1; omega)); obtain ⟨_, _, d1, d2, d3⟩ := id hH3)
  | (go_at_call 90; refine (l2eight_any (w.heap.size + 1) _ 4 4 zs (u64n gen) _ wB hz4.out.symm (by first | rfl | exact g6) (u64n_lt gen) (by omega) (by have := hz4.out; omega) hO0).mono ?_; rintro e w2 ⟨oa1, c1, rfl, hQ1⟩; obtain ⟨z1, hz1'⟩ := hid_ex (zs ++ lowB 8 (u64n gen)); rw [← hz1'.out] at hQ1 ⊢; have hl1 : Hid (z1.length = 12) := (by show _ = _; rw [hz1'.out, List.length_append, hz4.out, hlow]); have hH2 := hH0.kept hQ1.kept (fun e => (by have := some_addr e; omega)); obtain ⟨_, _, e1, e2, e3⟩ := id hH2))
 have hK6 : Kept (fun _ => False) w w6 := ((((hKw.trans hQ1.kept (fun k hk e => by have := some_addr e; omega)).trans hQ2.kept (fun k hk e => by have := (hQ1.lt e).1; omega)).trans hQ3.kept (fun k hk e => by have := (hQ2.lt e).1; omega)).trans (Kept.of_below hb5 (fun _ => False)) (fun _ _ e => e)).trans hQ4.kept (fun k hk e => by have := (hQ3.lt e).1; omega)
 have hl4 : Hid (z4.length = 36) := by show _ = _; rw [hz4'.out, List.length_append, hl3.out, hlow]
 have hfin : Hid (z4 ++ List.replicate 28 0 = headB gen len sum) := by show _ = _; rw [hz4'.out, hz3n.out]; rfl
 have hO6 := owns_le hQ4.own (show w.heap.size ≤ w.heap.size + 1 by omega)
 clear hQ1 hQ2 hQ3 hQ4 hH0 hH2 hH3 hO0 hKw b1 b2 b3 d1 d2 d3 e1 e2 e3 g6 l6 s6
 go_loopw [3] (fun v ws => ∃ (j : Nat) (ys : List Nat) (oa : Option Addr) (c : Nat), v = .slice oa ys.length c ∧ ys.length + j = 64 ∧ Hid (ys ++ List.replicate j 0 = headB gen len sum) ∧ ws.ownsRow w.heap.size 5 1 (.slice oa ys.length c) ys.length (bcells ys) ∧ Hid (Kept (fun _ => False) w ws)) (fun v _ => 64 - sliceN v)
 case atStart => exact ⟨28, z4, oa4, c4, rfl, by have := hl4.out; omega, hfin, hO6, hK6⟩
 case round =>
  obtain ⟨j, ys, oa, c, rfl, hj, hy, hO, hK⟩ := hrel
  by_cases hlt : ys.length < 64
  ·
   have hd : (ys.length : Int) < 64 := by omega
   have hsK := hK.out.size
   go_wp2_with (at_builtin; refine wpList_append_lies _ rfl (.tmp 27) (.tmp 28) 22 rfl w.heap.size 5 i0 (.int .u8 0) 1 1 Tryz.underlying22 hi hz0 hz1 hz2 rfl (by decide) _ _ _ rfl (hO.alloc _) ⟨wr.heap.size, 0, none⟩ 1 1 [.int .u8 0] rfl rfl (World.news_of_block (cs := #[.int .u8 0]) (t := 5) (fr := (0, 0)) (blk_new_at _ _ _ (by simp))) (by simp [Value.oneCell']) (by decide) (by unfold maxLen; omega) (by omega) (by simp; omega) (wr.heap.size + 1) (by simp) ?_; intro g2 cap2 w7 hown7 hgrow7 hat7 hlt7)
   have hG := Kept.of_grown hgrow7
   have hA : Kept (fun _ => False) wr (wr.alloc (.cells #[.int .u8 0] 5)) := (Kept.refl _ wr).alloc _
   go_roundw
   case rel =>
    refine ⟨j - 1, ys ++ [0], some ⟨g2, 0, none⟩, cap2, by simp, by simp; omega, ?_, by simpa [bcells_snoc] using hown7, (hK.out.trans hA (fun _ _ e => e)).trans hG (fun k hk e => by have := (hO.lt _ e).1; omega)⟩
    show ys ++ [0] ++ List.replicate (j - 1) 0 = headB gen len sum
    rw [← hy.out, List.append_assoc]
    congr 1
    rw [show j = j - 1 + 1 by omega, List.replicate_succ]
    simp
   case measure => simp [sliceN]; omega
  ·
   obtain rfl : j = 0 := by omega
   have hd : ¬ ((ys.length : Int) < 64) := by omega
   have e : ys = headB gen len sum := by rw [← hy.out]; simp
   go_wp2
   go_ret
   subst e
   exact ⟨oa, c, rfl, hO, hK.out.below (Nat.le_refl _) (fun k hk e => e)⟩
structure HH where
 ok : Bool
 gen : Int
 len : Int
 sum : Int
abbrev HH.val (h : HH) : Value := headV h.ok h.gen h.len h.sum
abbrev noH : HH := ⟨false, 0, 0, 0⟩
structure HH.Is (h : HH) (bs : List Nat) : Prop where
 ok : h.ok = true
 rng : headOkB true h.gen h.len = true
 sum : I64 h.sum
 eq : bs = headB h.gen h.len h.sum
def headOf (bs : List Nat) : HH :=
 match rdLow 8 0 0 (bs.drop 4) with
 | some (g, r) =>
  match rdLow 8 0 0 r with
  | some (l, r2) =>
   match rdLow 8 0 0 r2 with
   | some (s, _) => if headOkB true g l = true ∧ (-9223372036854775808 ≤ s ∧ s ≤ 9223372036854775807) ∧ bs = headB g l s then ⟨true, g, l, s⟩ else noH
   | none => noH
  | none => noH
 | none => noH
theorem rng_i64 {g l : Int} (h : headOkB true g l = true) : (1 ≤ g ∧ g ≤ 1000000000000) ∧ 1 ≤ l ∧ l ≤ 4096 := by
 unfold headOkB at h
 simp at h
 omega
theorem rng_mk {g l : Int} (h : (1 ≤ g ∧ g ≤ 1000000000000) ∧ 1 ≤ l ∧ l ≤ 4096) : headOkB true g l = true := by
 unfold headOkB
 simp
 omega
theorem headB_drop (g l s : Int) : (headB g l s).drop 4 = lowB 8 (u64n g) ++ (lowB 8 (u64n l) ++ (lowB 8 (u64n s) ++ (lowB 8 (sumN (headN g l s)) ++ List.replicate 28 0))) := by
 unfold headB headN
 simp [List.append_assoc]
theorem headOf_yes {x : HH} {bs : List Nat} (h : x.Is bs) : headOf bs = x := by
 obtain ⟨ok, g, l, s⟩ := x
 obtain ⟨h1, h2, h3, h4⟩ := h
 simp only at h1 h2 h3 h4
 subst h1
 have hr := rng_i64 h2
 unfold headOf
 rw [h4, headB_drop, rdLow_word (by unfold I64; omega)]
 simp only
 rw [rdLow_word (by unfold I64; omega)]
 simp only
 rw [rdLow_word h3]
 simp only
 rw [if_pos]
 refine ⟨h2, by unfold I64 at h3; omega, ?_⟩
 first | rfl | trivial
theorem headOf_no {bs : List Nat} (h : ∀ x : HH, ¬ x.Is bs) : headOf bs = noH := by
 unfold headOf
 split
 ·
  split
  ·
   split
   ·
    rename_i g r _ _ l r2 _ _ s _ _
    refine if_neg (fun h2 => h ⟨true, g, l, s⟩ ⟨rfl, h2.1, ?_, h2.2.2⟩)
    unfold I64; have := h2.2.1; simp only; omega
   · rfl
  · rfl
 · rfl
theorem headOf_cases (bs : List Nat) : (headOf bs).Is bs ∨ headOf bs = noH := by
 by_cases h : ∃ x : HH, x.Is bs
 ·
  obtain ⟨x, hx⟩ := h
  rw [headOf_yes hx]; exact Or.inl hx
 · exact Or.inr (headOf_no (fun x hx => h ⟨x, hx⟩))
def ZRow (w : World) (a n : Nat) (xs : List Nat) : Prop := xs.length ≤ n ∧ w.rowIs a 5 n (fun i => .int .u8 ((xs[i]! : Nat) : Int))
theorem ZRow.brow {w : World} {a n : Nat} {xs : List Nat} (h : ZRow w a n xs) : BRow w a n xs := BRow.of_row h.2 h.1 (fun _ _ => rfl)
theorem ZRow.kept {p : Nat → Prop} {w w' : World} {a n : Nat} {xs : List Nat} (h : ZRow w a n xs) (k : Kept p w w') (hn : ¬ p a) : ZRow w' a n xs := by
 have hlt := h.brow.lt
 obtain ⟨hl, c, hc, r⟩ := h
 exact ⟨hl, c, (k.block a hlt hn).trans hc, r⟩
theorem snoc_any (xs : List Nat) (x i : Nat) : (xs ++ [x])[i]! = if i = xs.length then x else xs[i]! := by
 by_cases hi : i < (xs ++ [x]).length
 · exact snoc_get hi
 ·
  have h2 : ¬ i < xs.length := by simp at hi; omega
  have h3 : i ≠ xs.length := by simp at hi; omega
  rw [if_neg h3, getElem!_neg _ i hi, getElem!_neg xs i h2]
theorem ZRow.push {w : World} {a n : Nat} {xs : List Nat} (h : ZRow w a n xs) (hl : xs.length < n) (x : Nat) : ZRow (w.setCell ⟨a, xs.length, none⟩ (.int .u8 (x : Int))) a n (xs ++ [x]) := by
 refine ⟨by simp; omega, ?_⟩
 have h1 := h.2.set xs.length (.int .u8 (x : Int))
 have e : (fun i => Value.int .u8 (((xs ++ [x])[i]! : Nat) : Int)) = (fun i => if i = xs.length then Value.int .u8 (x : Int) else .int .u8 ((xs[i]! : Nat) : Int)) := by
  funext i
  rw [snoc_any]
  split <;> rfl
 rw [e]
 exact h1
structure ZWr (w : World) (b a : Nat) (xs : List Nat) : Prop where
 cur : Cur w b (some ⟨a, 0, none⟩) 64 64 xs.length
 ne : a ≠ b
 row : ZRow w a 64 xs
theorem ZWr.kept {p : Nat → Prop} {w w' : World} {b a : Nat} {xs : List Nat} (h : ZWr w b a xs) (k : Kept p w w') (hb : ¬ p b) (ha : ¬ p a) : ZWr w' b a xs := ⟨h.cur.kept k hb, h.ne, h.row.kept k ha⟩
theorem ZWr.grow {w w' : World} {b a : Nat} {xs : List Nat} (h : ZWr w b a xs) (k : Below w.heap.size w w') : ZWr w' b a xs := h.kept (Kept.of_below k (fun _ => False)) (fun e => e) (fun e => e)
theorem zWriteByte (b a : Nat) (xs : List Nat) (x : Nat) (z : Int) (w : World) (hW : ZWr w b a xs) (hz : z = (x : Int)) (hl : xs.length + 1 ≤ 64) :
  Calls Tryz.prog 86 #[.pointer (some ⟨b, 0, none⟩), .int .u8 z] w fun e w' => e = .returned (.tuple #[]) ∧ ZWr w' b a (xs ++ [x]) ∧ Kept (fun k => k = b ∨ k = a) w w' := by
 subst hz
 go_enter Tryz.func86, Tryz.ntmps86
 go_wp2_with (go_at_call 124; refine (next_fits b _ 64 64 xs.length 1 _ hW.cur (by omega) (by decide) hl).mono ?_; rintro e w1 ⟨p, c, rfl, hp, hC, hK⟩; obtain rfl := hp (by omega) _ _ rfl; have hB := hW.row.kept hK hW.ne; obtain ⟨v, hv⟩ := hB.brow.any (i := xs.length) (by omega); have hfz := hB.brow.frozen xs.length)
 go_end0
 have hB2 := hB.push (by omega) x
 exact ⟨rfl, ⟨by rw [List.length_append]; exact hC.setOther (fun e => hW.ne e.symm) _, hW.ne, hB2⟩, (hK.mono (q := fun k => k = b ∨ k = a) (fun _ _ h => Or.inl h)).set (fun _ => Or.inr rfl) _⟩
theorem zWriteWord (b a : Nat) (xs : List Nat) (n : Int) (w : World) (hW : ZWr w b a xs) (hl : xs.length + 8 ≤ 64) :
  Calls Tryz.prog 45 #[.pointer (some ⟨b, 0, none⟩), .int .i64 n] w fun e w' => e = .returned (.tuple #[]) ∧ ZWr w' b a (xs ++ lowB 8 (u64n n)) ∧ Kept (fun k => k = b ∨ k = a) w w' := by
 go_enter Tryz.func45, Tryz.ntmps45
 go_wp2
 go_loopw [5] (fun i ws => ∃ (k : Nat), i = .int .i64 k ∧ k ≤ 8 ∧ ZWr ws b a (xs ++ lowB k (u64n n)) ∧ Kept (fun k => k = b ∨ k = a) w ws) (fun i _ => 8 - (intOf i).toNat)
 case atStart => exact ⟨0, rfl, by omega, by rw [lowB, List.append_nil]; exact hW, Kept.refl _ _⟩
 case round =>
  obtain ⟨k, rfl, hk, hWm, hK⟩ := hrel
  by_cases hlt : k < 8
  ·
   have hd : (k : Int) < 8 := by omega
   go_wp2_with (go_at_call 86; refine (zWriteByte b a _ (u64n n / 256 ^ k % 256) _ _ hWm (word_byte n k hlt) (by simp [lowB_length]; omega)).mono ?_; rintro e w1 ⟨rfl, hW1, hK1⟩)
   go_roundw
   case rel => exact ⟨k + 1, by go_num, by omega, by rw [lowB_snoc, ← List.append_assoc]; exact hW1, hK.trans hK1 (fun _ _ h => h)⟩
   case measure => simp [intOf]; omega
  ·
   obtain rfl : k = 8 := by omega
   go_wp2
   go_end0
   exact ⟨rfl, hWm, hK⟩
theorem ZRow.text {w : World} {a n : Nat} {cur : Array Value} (hc : w.heap[a]? = some (.cells cur 5 (0, 0))) (h : ZRow w a n []) (s : ByteArray) (hl : s.size ≤ n) :
  ZRow (w.setRow a (Lib.byteCells s.data.toList ++ cur.toList.drop s.size).toArray) a n (bsOf s) := by
 obtain ⟨_, c, hc', hs, hx⟩ := h
 rw [hc] at hc'
 obtain rfl : cur = c := by simpa using hc'
 have e2 : (Lib.byteCells s.data.toList).length = s.size := by rw [Lib.byteCells_length, ← Lib.size_eq]
 refine ⟨by rw [bsOf_length]; exact hl, _, setRow_heap _ _ _ _ _ _ hc, ?_, fun i hi => ?_⟩
 · simp only [List.size_toArray, List.length_append, e2, List.length_drop, Array.length_toList]; omega
 ·
  rw [List.getElem?_toArray]
  by_cases h : i < s.size
  ·
   rw [List.getElem?_append_left (by omega)]
   exact bsOf_get h
  ·
   rw [List.getElem?_append_right (by omega), e2, List.getElem?_drop, Array.getElem?_toList, show s.size + (i - s.size) = i by omega, hx i hi]
   show some (Value.int .u8 ((([] : List Nat)[i]! : Nat) : Int)) = some (Value.int .u8 (((bsOf s)[i]! : Nat) : Int))
   rw [getElem!_neg (bsOf s) i (by rw [bsOf_length]; exact h), getElem!_neg ([] : List Nat) i (by simp)]
theorem zWriteText (b a : Nat) (s : ByteArray) (w : World) (hW : ZWr w b a []) (hs : s.size ≤ 64) (h0 : 0 < s.size) :
  Calls Tryz.prog 81 #[.pointer (some ⟨b, 0, none⟩), .string s] w fun e w' => e = .returned (.tuple #[]) ∧ ZWr w' b a (bsOf s) ∧ Kept (fun k => k = b ∨ k = a) w w' := by
 have hbl := bsOf_length s
 go_enter Tryz.func81, Tryz.ntmps81
 go_wp2_with (go_at_call 124; refine (next_fits b _ 64 64 0 s.size _ hW.cur (by omega) (by decide) (by omega)).mono ?_; rintro e w1 ⟨p, c, rfl, hp, hC, hK⟩; obtain rfl := hp (by omega) _ _ rfl; have hB := hW.row.kept hK hW.ne; obtain ⟨cur, hcur, hcs, _⟩ := hB.brow; have hcp := Lib.run_copy_row_string (P := Tryz.prog) w1 22 9 3 5 a 0 s.size c s cur 5 Tryz.underlying22 size_byte hcur (Nat.le_refl _) (by omega))
 go_end0
 have hB2 := hB.text hcur s hs
 have hKs : Kept (fun k => k = a) w1 (w1.setRow a (Lib.byteCells s.data.toList ++ cur.toList.drop s.size).toArray) := ⟨rfl, rfl, rfl, by simp, fun k _ hn => setRow_other _ _ _ _ hn⟩
 have e0 : (0 : Nat) + s.size = s.size := by omega
 rw [e0] at hC
 refine ⟨rfl, ?_, ?_⟩
 ·
  try simp only [List.take_zero, List.nil_append, Nat.zero_add]
  exact ⟨by rw [hbl]; exact hC.kept hKs (fun e => hW.ne e.symm), hW.ne, hB2⟩
 ·
  try simp only [List.take_zero, List.nil_append, Nat.zero_add]
  exact (hK.mono (q := fun k => k = b ∨ k = a) (fun _ _ h => Or.inl h)).trans hKs (fun _ _ h => Or.inr h)
end Go.Proofs.YtmdpmdmilgbfiaaGreatDoor
