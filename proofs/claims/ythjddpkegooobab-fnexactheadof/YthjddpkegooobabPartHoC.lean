import Derived.Deep.RegionHeld3
import Derived.Deep.QuietTactic
import Derived.BigQuiet
import Derived.WalkLawsBesides
import Derived.Test.YthjddpkegooobabPartHoB

/-
  DRVG: where the disk's writes stand. Own work.
-/
namespace Go.Proofs.Ythjddpkegooobab
open Go.RowKit

/-- a write, and where its bytes lie -/
structure LW where
  x : DW
  a : Option Addr
  cap : Nat
  deriving Inhabited
def LW.two (y : LW) : List Value := [.int .i64 y.x.block, .slice y.a y.x.bytes.length y.cap]
theorem LW.two_length (y : LW) : y.two.length = 2 := rfl
def wCells (l : List LW) : List Value := l.flatMap LW.two
theorem wCells_snoc (l : List LW) (y : LW) : wCells (l ++ [y]) = wCells l ++ [.int .i64 y.x.block, .slice y.a y.x.bytes.length y.cap] := by simp [wCells, LW.two]
theorem wCells_get : ∀ (l : List LW) (i j : Nat), i < l.length → j < 2 → (wCells l)[i * 2 + j]? = (l[i]!.two)[j]?
  | [], _, _, hi, _ => absurd hi (Nat.not_lt_zero _)
  | x :: r, 0, j, _, hj => by
    rw [wCells, List.flatMap_cons, Nat.zero_mul, Nat.zero_add, List.getElem?_append_left (by rw [LW.two_length]; exact hj)]
    rfl
  | x :: r, i + 1, j, hi, hj => by
    have hlt : i < r.length := by simpa using hi
    have ih := wCells_get r i j hlt hj
    rw [wCells, List.flatMap_cons, List.getElem?_append_right (by rw [LW.two_length, Nat.add_mul]; omega), LW.two_length, show (i + 1) * 2 + j - 2 = i * 2 + j by rw [Nat.add_mul]; omega]
    rw [wCells] at ih
    rw [ih, getElem!_pos r i hlt, getElem!_pos (x :: r) (i + 1) hi]
    rfl

theorem owns_isW {w : World} {base size n cap : Nat} {a : Option Addr} {xs : List Value} (h : w.ownsRow base 133 size (.slice a n cap) n xs) {z : Nat} (hz : (Value.slice a n cap).ownBlock = some z) : IsW w z ∧ base ≤ z := by
  have ha := owns_addr h hz
  rcases h.2 with ⟨e, _⟩ | ⟨g, cap', cur, hv, hb, hg, _⟩
  · simp at e
    rw [e.1] at ha
    cases ha
  · simp only [Value.slice.injEq] at hv
    rw [ha] at hv
    obtain rfl := some_addr hv.1
    exact ⟨⟨cur, hg⟩, hb⟩
theorem owns_row {w : World} {base t size n cap : Nat} {a : Option Addr} {xs : List Value} (h : w.ownsRow base t size (.slice a n cap) n xs) (hn : 0 < n) : ∃ g f, a = some ⟨g, 0, none⟩ ∧ base ≤ g ∧ g < w.heap.size ∧ w.rowIs g t (cap * size) f ∧ n ≤ cap ∧ ∀ i u, xs[i]? = some u → f i = u := by
  have hc0 := h
  rcases h.2 with ⟨_, e⟩ | ⟨g, cap', cur, hv, hb, hg, h1, h2, h3, h4⟩
  · omega
  · simp only [Value.slice.injEq] at hv
    obtain ⟨rfl, _, rfl⟩ := hv
    refine ⟨g, fun i => cur[i]!, rfl, hb, (Array.getElem?_eq_some_iff.1 hg).1, ⟨cur, hg, h3, fun i hi => ?_⟩, h1, fun i u hu => ?_⟩
    · show cur[i]? = some cur[i]!
      rw [getElem!_pos cur i (by omega)]; exact Array.getElem?_eq_getElem (by omega)
    · obtain ⟨g', ha', _, _, hc⟩ := owns_cell hc0 hu
      obtain rfl := some_addr ha'
      have hc' : cur[i]? = some u := by simpa [World.cell?, hg] using hc
      show cur[i]! = u
      have hlt := (Array.getElem?_eq_some_iff.1 hc').1
      rw [getElem!_pos cur i hlt]
      rw [Array.getElem?_eq_getElem hlt] at hc'
      exact Option.some.inj hc'

/-- where the disk's writes stand -/
structure DkW (w wr : World) (N V : Nat) (bl : List (List Nat)) (f : Nat → Value) (bs cs : Nat → Nat) (va : Option Addr) (vc : Nat) (lw : List LW) (gs : Nat → Nat) : Prop where
  dk : DkB w wr N V (.slice va lw.length vc) bl 130 f bs cs
  own : wr.ownsRow (V + 1) 133 2 (.slice va lw.length vc) lw.length (wCells lw)
  byt : ∀ i, i < lw.length → lw[i]!.a = some ⟨gs i, 0, none⟩ ∧ BRow wr (gs i) lw[i]!.cap lw[i]!.x.bytes ∧ V < gs i ∧ (∀ j, j < 130 → bs j < gs i) ∧ ∀ j, j < i → gs j < gs i
theorem DkW.grow {w wr w' : World} {N V : Nat} {bl : List (List Nat)} {f : Nat → Value} {bs cs : Nat → Nat} {va : Option Addr} {vc : Nat} {lw : List LW} {gs : Nat → Nat} (h : DkW w wr N V bl f bs cs va vc lw gs) (hb : Below wr.heap.size wr w') : DkW w w' N V bl f bs cs va vc lw gs :=
  ⟨h.dk.grow hb, (Kept.of_below hb (fun _ => False)).owns h.own (fun _ _ e => e), fun i hi => let ⟨h1, h2, h3⟩ := h.byt i hi; ⟨h1, h2.of_block (hb.block _ h2.lt), h3⟩⟩
theorem snoc_at {α : Type} [Inhabited α] (l : List α) (y : α) (i : Nat) (hi : i < (l ++ [y]).length) : (l ++ [y])[i]! = if i = l.length then y else l[i]! := by
  have hi' : i < l.length + 1 := by simpa using hi
  rw [getElem!_pos _ i hi]
  by_cases h : i = l.length
  · subst h; simp
  · rw [if_neg h, List.getElem_append_left (by omega), getElem!_pos l i (by omega)]
theorem DkW.step {w wr w5 : World} {N V : Nat} {bl : List (List Nat)} {f : Nat → Value} {bs cs : Nat → Nat} {va : Option Addr} {vc : Nat} {lw : List LW} {gs : Nat → Nat} (h : DkW w wr N V bl f bs cs va vc lw gs)
    {G gcap gg cc : Nat} {x : DW} (hG : BRow wr G gcap x.bytes) (hVG : V < G) (hbs : ∀ j, j < 130 → bs j < G) (hgs : ∀ j, j < lw.length → gs j < G)
    (hown : w5.ownsRow (V + 1) 133 2 (.slice (some ⟨gg, 0, none⟩) (lw.length + 1) cc) (lw.length + 1) (wCells lw ++ [.int .i64 x.block, .slice (some ⟨G, 0, none⟩) x.bytes.length gcap])) (hgrow : wr.grownBy w5 (Value.slice va lw.length vc).ownBlock) :
    DkW w (w5.setCell ⟨V, 1, none⟩ (.slice (some ⟨gg, 0, none⟩) (lw.length + 1) cc)) N V bl f bs cs (some ⟨gg, 0, none⟩) cc (lw ++ [⟨x, some ⟨G, 0, none⟩, gcap⟩]) (fun i => if i = lw.length then G else gs i) := by
  have K1 := Kept.of_grown hgrow
  have hz : ∀ z, (Value.slice va lw.length vc).ownBlock = some z → IsW wr z ∧ V + 1 ≤ z := fun z hz => owns_isW h.own hz
  have hnv := h.dk.nv
  have hlo := h.dk.lo
  have K2 := (Kept.refl (fun b => b = V) w5).set (a := ⟨V, 1, none⟩) (fun _ => rfl) (.slice (some ⟨gg, 0, none⟩) (lw.length + 1) cc)
  have hB : ∀ {G' n' : Nat} {ys : List Nat}, BRow wr G' n' ys → V < G' → BRow (w5.setCell ⟨V, 1, none⟩ (.slice (some ⟨gg, 0, none⟩) (lw.length + 1) cc)) G' n' ys := fun hb hv => (hb.kept K1 (fun e => not_B_of_W (hz _ e).1 hb.isB)).kept K2 (fun e => by omega)
  have hVz : ¬ (Value.slice va lw.length vc).ownBlock = some V := fun e => by have := (hz V e).2; omega
  have hNz : ¬ (Value.slice va lw.length vc).ownBlock = some N := fun e => by have := (hz N e).2; omega
  have c1 := K1.cell h.dk.v1 hVz
  refine ⟨⟨K2.rowIs (K1.rowIs h.dk.row hNz) (by omega), fun i hi => ?_, (World.cell?_setCell_other _ _ _ _ (by simp)).trans (K1.cell h.dk.v0 hVz), ?_, fun o => ?_, ?_, hlo, hnv⟩, ?_, fun i hi => ?_⟩
  · obtain ⟨h1, h2, h3, h4⟩ := h.dk.fs i hi
    exact ⟨h1, hB h2 h3, h3, h4⟩
  · rw [List.length_append]; exact World.cell?_setCell_same _ _ _ c1
  · rw [World.frozen?_setCell]
    exact (World.frozen?_of_block (w := wr) (a := ⟨V, o, none⟩) (K1.block V (World.block_lt_of_cell? wr ⟨V, 0, none⟩ h.dk.v0) hVz)).trans (h.dk.vf o)
  · exact (h.dk.bel.trans (K1.below (Nat.le_trans h.dk.bel.size (Nat.le_refl _)) (fun k hk e => by have := (hz k e).2; omega))).trans (K2.below (by have := h.dk.bel.size; have := K1.size; omega) (fun k hk e => by omega))
  · rw [wCells_snoc, List.length_append]
    exact K2.owns hown (fun z hz2 e => by have := (hown.lt z hz2).1; omega)
  · rw [List.length_append] at hi
    rw [snoc_at _ _ _ (by rw [List.length_append]; exact hi)]
    by_cases e : i = lw.length
    · subst e
      simp only [if_true]
      refine ⟨trivial, hB hG hVG, hVG, hbs, fun j hj => ?_⟩
      rw [if_neg (by omega)]; exact hgs j hj
    · simp only [if_neg e]
      obtain ⟨h1, h2, h3, h4, h5⟩ := h.byt i (by simp at hi; omega)
      refine ⟨h1, hB h2 h3, h3, h4, fun j hj => ?_⟩
      rw [if_neg (by simp at hi; omega)]; exact h5 j hj

/-- the disk is done -/
theorem DkW.md {w wr : World} {N V : Nat} {bl : List (List Nat)} {f : Nat → Value} {bs cs : Nat → Nat} {va : Option Addr} {vc : Nat} {lw : List LW} {gs : Nat → Nat} (h : DkW w wr N V bl f bs cs va vc lw gs) (hlen : bl.length = 130) (h64 : ∀ x, x ∈ bl → x.length = 64) :
    MD wr w.heap.size wr.heap.size ⟨some ⟨N, 0, none⟩, 130, va, vc⟩ ⟨bl, lw.map (·.x)⟩ (fun i => some ⟨bs i, 0, none⟩) (fun i => lw[i]!.a) cs (fun i => lw[i]!.cap) := by
  have hnv := h.dk.nv
  have hlo := h.dk.lo
  have hmap : ∀ i, i < lw.length → (lw.map (·.x))[i]! = lw[i]!.x := fun i hi => by
    rw [getElem!_pos _ i (by simpa using hi), getElem!_pos lw i hi]; simp
  refine ⟨⟨fun _ => ⟨N, 130, f, rfl, hlo, h.dk.row.lt, h.dk.row, by show bl.length ≤ 130; omega, fun i hi => ?_⟩, fun i hi => ?_, fun i j hij hj => ?_⟩, ⟨fun hn => ?_, fun i hi => ?_, fun i j hij hj => ?_⟩, fun i j hi hj => ?_⟩
  · have hi' : i < bl.length := hi
    rw [(h.dk.fs i (by omega)).1, h64 _ (mem_at hi')]
  · have hi' : i < bl.length := hi
    obtain ⟨_, h2, h3, _⟩ := h.dk.fs i (by omega)
    exact Or.inr ⟨bs i, cs i, rfl, by omega, h2.lt, h2⟩
  · intro b e1 e2
    have hj' : j < bl.length := hj
    have := (h.dk.fs j (by omega)).2.2.2 i hij
    have := some_addr e1
    have := some_addr e2
    omega
  · have hn' : 0 < lw.length := by simpa using hn
    obtain ⟨g, f', h1, h2, h3, h4, h5, h6⟩ := owns_row h.own hn'
    refine ⟨g, vc * 2, f', h1, by omega, h3, h4, by simp; omega, fun i hi => ?_⟩
    have hi' : i < lw.length := by simpa using hi
    simp only [hmap i hi']
    exact ⟨h6 _ _ ((wCells_get lw i 0 hi' (by omega)).trans rfl), h6 _ _ ((wCells_get lw i 1 hi' (by omega)).trans rfl)⟩
  · have hi' : i < lw.length := by simpa using hi
    simp only [hmap i hi']
    obtain ⟨h1, h2, h3, _⟩ := h.byt i hi'
    exact Or.inr ⟨gs i, _, h1, by omega, h2.lt, h2⟩
  · have hj' : j < lw.length := by simpa using hj
    intro b e1 e2
    rw [(h.byt i (by omega)).1] at e1
    rw [(h.byt j hj').1] at e2
    have := (h.byt j hj').2.2.2.2 i hij
    have := some_addr e1
    have := some_addr e2
    omega
  · have hi' : i < bl.length := hi
    have hj' : j < lw.length := by simpa using hj
    intro b e1 e2
    rw [(h.byt j hj').1] at e2
    have := (h.byt j hj').2.2.2.1 i (by omega)
    have := some_addr e1
    have := some_addr e2
    omega

/-- the round of the writes -/
def GWInv (w wr : World) (N V : Nat) (bl : List (List Nat)) (f : Nat → Value) (bs cs : Nat → Nat) (ws : List DW) (k : Nat) : Prop :=
  ∃ (va : Option Addr) (vc : Nat) (lw : List LW) (gs : Nat → Nat), Hid (lw.length = k) ∧ Hid (lw.map (·.x) = ws.take k) ∧ DkW w wr N V bl f bs cs va vc lw gs

theorem MBs.mono {w : World} {lo hi lo' hi' : Nat} {a : Option Addr} {n : Nat} {F : Nat → List Nat} {fa : Nat → Option Addr} {fc : Nat → Nat} (h : MBs w lo hi a n F fa fc) (h1 : lo' ≤ lo) (h2 : hi ≤ hi') : MBs w lo' hi' a n F fa fc :=
  ⟨fun h0 => let ⟨g, m, f, a1, a2, a3, a4⟩ := h.row h0; ⟨g, m, f, a1, by omega, by omega, a4⟩, fun i hi => (h.byt i hi).mono h1 h2, h.far⟩
theorem MWs.mono {w : World} {lo hi lo' hi' : Nat} {a : Option Addr} {n : Nat} {B : Nat → Int} {F : Nat → List Nat} {fa : Nat → Option Addr} {fc : Nat → Nat} (h : MWs w lo hi a n B F fa fc) (h1 : lo' ≤ lo) (h2 : hi ≤ hi') : MWs w lo' hi' a n B F fa fc :=
  ⟨fun h0 => let ⟨g, m, f, a1, a2, a3, a4⟩ := h.row h0; ⟨g, m, f, a1, by omega, by omega, a4⟩, fun i hi => (h.byt i hi).mono h1 h2, h.far⟩
theorem MD.mono {w : World} {lo hi lo' hi' : Nat} {l : DL} {d : DD} {fa ga : Nat → Option Addr} {fc gc : Nat → Nat} (h : MD w lo hi l d fa ga fc gc) (h1 : lo' ≤ lo) (h2 : hi ≤ hi') : MD w lo' hi' l d fa ga fc gc := ⟨h.b.mono h1 h2, h.w.mono h1 h2, h.far⟩

end Go.Proofs.Ythjddpkegooobab

/-
  SCOPY: the specification's copy of bytes. Own work.
-/
namespace Go.Proofs.Ythjddpkegooobab
open Go.RowKit

theorem owns_bytes {w : World} {base t cap : Nat} {a : Option Addr} {bs : List Nat} (h : w.ownsRow base t 1 (.slice a bs.length cap) bs.length (bcells bs)) : BytesAt w a bs := fun i hi => by
  obtain ⟨g, ha, _, _, hc⟩ := owns_cell h (bcells_get hi)
  exact ⟨g, 0, ha, by rw [Nat.zero_add]; exact hc⟩
theorem owns_isB {w : World} {base size n cap : Nat} {a : Option Addr} {xs : List Value} (h : w.ownsRow base 5 size (.slice a n cap) n xs) {z : Nat} (hz : (Value.slice a n cap).ownBlock = some z) : IsB w z ∧ base ≤ z := by
  have ha := owns_addr h hz
  rcases h.2 with ⟨e, _⟩ | ⟨g, cap', cur, hv, hb, hg, _⟩
  · simp at e
    rw [e.1] at ha
    cases ha
  · simp only [Value.slice.injEq] at hv
    rw [ha] at hv
    obtain rfl := some_addr hv.1
    exact ⟨⟨cur, hg⟩, hb⟩
/-- a block of lists of bytes -/
def IsS (w : World) (b : Nat) : Prop := ∃ c, w.heap[b]? = some (.cells c 28 (0, 0))
theorem owns_isS {w : World} {base size n cap : Nat} {a : Option Addr} {xs : List Value} (h : w.ownsRow base 28 size (.slice a n cap) n xs) {z : Nat} (hz : (Value.slice a n cap).ownBlock = some z) : IsS w z ∧ base ≤ z := by
  have ha := owns_addr h hz
  rcases h.2 with ⟨e, _⟩ | ⟨g, cap', cur, hv, hb, hg, _⟩
  · simp at e
    rw [e.1] at ha
    cases ha
  · simp only [Value.slice.injEq] at hv
    rw [ha] at hv
    obtain rfl := some_addr hv.1
    exact ⟨⟨cur, hg⟩, hb⟩
theorem not_B_of_S {w : World} {b : Nat} (h : IsS w b) : ¬ IsB w b := fun ⟨c, hc⟩ => by
  obtain ⟨c', hc'⟩ := h
  rw [hc] at hc'
  simp at hc'
theorem not_W_of_S {w : World} {b : Nat} (h : IsS w b) : ¬ IsW w b := fun ⟨c, hc⟩ => by
  obtain ⟨c', hc'⟩ := h
  rw [hc] at hc'
  simp at hc'

set_option maxRecDepth 100000 in
theorem l2copy_any (a : Option Addr) (bs : List Nat) (cap : Nat) (w : World) (hl : bs.length ≤ 1048576) (ha : BytesAt w a bs) :
    Calls Try.prog 103 #[.slice a bs.length cap] w fun e w' => ∃ oa c, e = .returned (.slice oa bs.length c) ∧ w'.ownsRow w.heap.size 5 1 (.slice oa bs.length c) bs.length (bcells bs) ∧ Below w.heap.size w w' := by
  obtain ⟨i0, hi, hz0, hz1, hz2⟩ := info_parts info_u8
  go_enter Try.func103, Try.ntmps103
  go_wp2
  go_loopw [3, 8] (fun o i wr => ∃ (k : Nat) (oa : Option Addr) (c : Nat), k ≤ bs.length ∧ i = .int .i64 k ∧ o = .slice oa k c ∧ wr.ownsRow w.heap.size 5 1 (.slice oa k c) k (bcells (bs.take k)) ∧ Below w.heap.size w wr) (fun _ i _ => bs.length - (intOf i).toNat)
  case atStart => exact ⟨0, none, 0, Nat.zero_le _, rfl, rfl, owns_none _ _ _ _, gre _⟩
  case round =>
    obtain ⟨k, oa, c, hk, rfl, rfl, hO, hb⟩ := hrel
    by_cases hlt : k < bs.length
    · obtain ⟨x, b, off, hxk, hxm, rfl, hc⟩ := (ha.grow hb).get hlt
      have hsz := hb.size
      go_wp2_with (at_builtin; refine wpList_append_lies _ rfl (.tmp 12) (.tmp 14) 28 rfl w.heap.size 5 i0 (.int .u8 0) 1 1 Try.underlying28 hi hz0 hz1 hz2 rfl (by decide) _ _ _ rfl (hO.alloc _) ⟨wr.heap.size, 0, none⟩ 1 1 [.int .u8 (x : Int)] rfl rfl (World.news_of_block (cs := #[.int .u8 (x : Int)]) (t := 5) (fr := (0, 0)) (blk_new_at _ _ _ (by simp))) (by simp [Value.oneCell']) (by decide) (by unfold maxLen; omega) (by omega) (by simp; omega) (wr.heap.size + 1) (by simp) ?_; intro g cap2 w1 hown1 hgrow hat hlt2)
      have hK := (Kept.of_grown hgrow).below (B := w.heap.size) (by simp; omega) (fun z hz e => by have := (hO.lt z e).1; omega)
      have e1 : bcells (bs.take (k + 1)) = bcells (bs.take k) ++ [.int .u8 (x : Int)] := by rw [take_snoc _ _ hlt, bcells_snoc, hxk.out]
      go_roundw
      case rel => exact ⟨k + 1, some ⟨g, 0, none⟩, cap2, by omega, by go_num, rfl, by rw [e1]; exact hown1, (gal hb _).trans hK⟩
      case measure => simp [intOf]; omega
    · obtain rfl : k = bs.length := by omega
      rw [List.take_length] at hO
      go_wp2
      go_ret
      exact ⟨oa, c, rfl, hO, hb⟩

end Go.Proofs.Ythjddpkegooobab

/-
  DOK2: both DiskOk, walked. Own work.
-/
namespace Go.Proofs.Ythjddpkegooobab
open Go.RowKit

set_option maxRecDepth 100000 in
theorem writeOk_any (x : DW) (a : Option Addr) (cap : Nat) (w : World) (hi : I64 x.block) (_hl : x.bytes.length ≤ maxLen) :
    Calls Try.prog 101 #[x.val a cap] w fun e w' => e = .returned (.bool (wrOk x)) ∧ Below w.heap.size w w' := by
  obtain ⟨p, hp⟩ : ∃ p, Hid (p = (decide (0 ≤ x.block) && decide (x.block < 130))) := ⟨_, rfl⟩
  have hw : Hid (wrOk x = (p && decide (x.bytes.length = 64))) := by show _ = _; rw [hp.out]; rfl
  cases p with
  | false =>
    go_enter Try.func101, Try.ntmps101
    go_wp2_with (go_at_call 110; refine (hasBlock_any x.block _ hi).mono ?_; rintro e w' ⟨rfl, hb'⟩; rw [← hp.out])
    go_ret
    exact ⟨by rw [hw.out]; rfl, gca (gal (gre _) _) hb'⟩
  | true =>
    by_cases h : x.bytes.length = 64
    · have h' : ((x.bytes.length : Int) == 64) = true := by simp; omega
      have hh : Hid _ := h
      clear h
      go_enter Try.func101, Try.ntmps101
      go_wp2_with (go_at_call 110; refine (hasBlock_any x.block _ hi).mono ?_; rintro e w' ⟨rfl, hb'⟩; rw [← hp.out]; obtain ⟨hc, hf⟩ := bcell hb')
      go_ret
      exact ⟨by rw [hw.out]; simp [hh.out], gca (gal (gre _) _) hb'⟩
    · have h' : ((x.bytes.length : Int) == 64) = false := by simp; omega
      have hh : Hid _ := h
      clear h
      go_enter Try.func101, Try.ntmps101
      go_wp2_with (go_at_call 110; refine (hasBlock_any x.block _ hi).mono ?_; rintro e w' ⟨rfl, hb'⟩; rw [← hp.out]; obtain ⟨hc, hf⟩ := bcell hb')
      go_ret
      exact ⟨by rw [hw.out, decide_eq_false hh.out]; rfl, gca (gal (gre _) _) hb'⟩

theorem DD.ok_no1 {d : DD} (h : d.blocks.length ≠ 130) : d.ok = false := by simp [DD.ok, h]
theorem DD.ok_no2 {d : DD} (h : ¬ d.waiting.length ≤ 200) : d.ok = false := by simp [DD.ok, h]
theorem DD.ok_no3 {d : DD} (h : d.blocks.all blOk = false) : d.ok = false := by simp [DD.ok, h]
theorem DD.ok_no4 {d : DD} (h : d.waiting.all wrOk = false) : d.ok = false := by simp [DD.ok, h]
theorem DD.ok_yes {d : DD} (h1 : d.blocks.length = 130) (h2 : d.waiting.length ≤ 200) (h3 : d.blocks.all blOk = true) (h4 : d.waiting.all wrOk = true) : d.ok = true := by simp [DD.ok, h1, h2, h3, h4]

set_option maxRecDepth 100000 in
theorem implDiskOk_any (d : DD) (l : DL) (w : World) (hd : d.Ok) (ha : DAt w l d) :
    Calls Try.prog 38 #[d.val l] w fun e w' => e = .returned (.bool d.ok) ∧ Below w.heap.size w w' := by
  have hbl := hd.bl
  have hwl := hd.wl
  unfold maxLen at hbl hwl
  by_cases h1 : d.blocks.length = 130
  · have t1 : ((d.blocks.length : Int) != 130) = false := by simp; omega
    have h1' : Hid _ := h1
    clear h1
    by_cases h2 : d.waiting.length ≤ 200
    · have t2 : ¬ ((d.waiting.length : Int) > 200) := by omega
      have h2' : Hid _ := h2
      clear h2
      go_enter Try.func38, Try.ntmps38
      go_wp2
      have hA := gal (gre w) (.cells #[.slice l.ba d.blocks.length l.bc, .slice l.wa d.waiting.length l.wc] 50)
      have hX := DBox.new w d l 50
      generalize w.alloc (.cells #[.slice l.ba d.blocks.length l.bc, .slice l.wa d.waiting.length l.wc] 50) = wA at hA hX ⊢
      go_loopw [20] (fun i wr => ∃ k : Nat, k ≤ d.blocks.length ∧ i = .int .i64 k ∧ (d.blocks.take k).all blOk = true ∧ Below wA.heap.size wA wr) (fun i _ => d.blocks.length - (intOf i).toNat)
      case atStart => exact ⟨0, Nat.zero_le _, rfl, rfl, gre _⟩
      case round =>
        obtain ⟨k, hk, rfl, hall, hb⟩ := hrel
        by_cases hlt : k < d.blocks.length
        · obtain ⟨n, b, off, av, cv, hvk, hvm, hba, c0, hva⟩ := (ha.b.grow (gca hA hb)).get hlt
          rw [hba]
          have hnl := (hd.bb n hvm).len
          unfold maxLen at hnl
          have i0 : (0 : Int) ≤ (k : Int) := by omega
          have i1 : (k : Int) < (d.blocks.length : Int) := by omega
          have hall' : Hid _ := hall
          clear hall
          by_cases h64 : n.length = 64
          · have t3 : ((n.length : Int) != 64) = false := by simp; omega
            have hst : Hid ((d.blocks.take (k + 1)).all blOk = true) := by show _ = _; rw [dall_take_succ _ _ _ hlt, hall'.out, ← hvk.out]; simp [blOk, h64]
            clear h64
            go_wp2
            go_roundw
            case rel => exact ⟨k + 1, by omega, by go_num, hst.out, hb⟩
            case measure => simp [intOf]; omega
          · have t3 : ((n.length : Int) != 64) = true := by simp; omega
            have hst : Hid (d.blocks.all blOk = false) := all_take_false _ _ k hlt (by rw [← hvk.out]; simp [blOk, h64])
            clear h64
            go_wp2
            go_ret
            exact ⟨by rw [DD.ok_no3 hst.out]; rfl, gca hA hb⟩
        · have e : k = d.blocks.length := by omega
          subst e
          rw [List.take_length] at hall
          have hall' : Hid _ := hall
          have hX2 := hX.grow hb
          have x0 := hX2.c0
          have x1 := hX2.c1
          clear hall
          have hB := gca hA hb
          clear hb hX2
          rename World => wB
          go_wp2
          go_loopw [31] (fun i wr2 => ∃ k : Nat, k ≤ d.waiting.length ∧ i = .int .i64 k ∧ (d.waiting.take k).all wrOk = true ∧ Below wB.heap.size wB wr2) (fun i _ => d.waiting.length - (intOf i).toNat)
          case atStart => exact ⟨0, Nat.zero_le _, rfl, rfl, gre _⟩
          case round =>
            obtain ⟨k, hk, rfl, hall, hb⟩ := hrel
            by_cases hlt : k < d.waiting.length
            · obtain ⟨n, b, off, av, cv, hvk, hvm, hba, c0, c1, hva⟩ := (ha.w.grow (gca hB hb)).get hlt
              rw [hba]
              have i0 : (0 : Int) ≤ (k : Int) := by omega
              have i1 : (k : Int) < (d.waiting.length : Int) := by omega
              have hni := hd.wi n hvm
              have hnl := (hd.wb n hvm).len
              have hall2 : Hid _ := hall
              clear hall
              cases hok : wrOk n with
              | true =>
                have hst : Hid ((d.waiting.take (k + 1)).all wrOk = true) := by show _ = _; rw [dall_take_succ _ _ _ hlt, hall2.out, ← hvk.out, hok]; rfl
                have hok' : Hid _ := hok
                clear hok
                go_wp2_with (go_at_call 101; refine (writeOk_any n av cv _ hni hnl).mono ?_; rintro e w2 ⟨rfl, hb2⟩; rw [hok'.out])
                go_roundw
                case rel => exact ⟨k + 1, by omega, by go_num, hst.out, by first | exact gca hb hb2 | exact gca (gal hb _) hb2 | exact gca (gse (gse (gal hb _) (by simp) _) (by simp) _) hb2⟩
                case measure => simp [intOf]; omega
              | false =>
                have hst : Hid (d.waiting.all wrOk = false) := all_take_false _ _ k hlt (by rw [← hvk.out]; exact hok)
                have hok' : Hid _ := hok
                clear hok
                go_wp2_with (go_at_call 101; refine (writeOk_any n av cv _ hni hnl).mono ?_; rintro e w2 ⟨rfl, hb2⟩; rw [hok'.out])
                go_ret
                exact ⟨by rw [DD.ok_no4 hst.out]; rfl, by first | exact gca hB (gca hb hb2) | exact gca hB (gca (gal hb _) hb2) | exact gca hB (gca (gse (gse (gal hb _) (by simp) _) (by simp) _) hb2)⟩
            · have e : k = d.waiting.length := by omega
              subst e
              rw [List.take_length] at hall
              have hall2 : Hid _ := hall
              clear hall
              go_wp2
              go_ret
              exact ⟨by rw [DD.ok_yes h1'.out h2'.out hall'.out hall2.out]; rfl, gca hB hb⟩
    · have t2 : ((d.waiting.length : Int) > 200) := by omega
      have hst : Hid _ := DD.ok_no2 h2
      go_enter Try.func38, Try.ntmps38
      go_wp2
      go_ret
      exact ⟨by rw [hst.out]; rfl, gal (gre _) _⟩
  · have t1 : ((d.blocks.length : Int) != 130) = true := by simp; omega
    have hst : Hid _ := DD.ok_no1 h1
    clear h1
    go_enter Try.func38, Try.ntmps38
    go_wp2
    go_ret
    exact ⟨by rw [hst.out]; rfl, gal (gre _) _⟩

set_option maxRecDepth 100000 in
theorem specDiskOk_any (d : DD) (l : DL) (w : World) (hd : d.Ok) (ha : DAt w l d) :
    Calls Try.prog 36 #[d.val l] w fun e w' => e = .returned (.bool d.ok) ∧ Below w.heap.size w w' := by
  have hbl := hd.bl
  have hwl := hd.wl
  unfold maxLen at hbl hwl
  by_cases h1 : d.blocks.length = 130
  · have t1 : ((d.blocks.length : Int) != 130) = false := by simp; omega
    have h1' : Hid _ := h1
    clear h1
    by_cases h2 : d.waiting.length ≤ 200
    · have t2 : ¬ ((d.waiting.length : Int) > 200) := by omega
      have h2' : Hid _ := h2
      clear h2
      go_enter Try.func36, Try.ntmps36
      go_wp2
      have hA := gal (gre w) (.cells #[.slice l.ba d.blocks.length l.bc, .slice l.wa d.waiting.length l.wc] 50)
      have hX := DBox.new w d l 50
      generalize w.alloc (.cells #[.slice l.ba d.blocks.length l.bc, .slice l.wa d.waiting.length l.wc] 50) = wA at hA hX ⊢
      go_loopw [20] (fun i wr => ∃ k : Nat, k ≤ d.blocks.length ∧ i = .int .i64 k ∧ (d.blocks.take k).all blOk = true ∧ Below wA.heap.size wA wr) (fun i _ => d.blocks.length - (intOf i).toNat)
      case atStart => exact ⟨0, Nat.zero_le _, rfl, rfl, gre _⟩
      case round =>
        obtain ⟨k, hk, rfl, hall, hb⟩ := hrel
        by_cases hlt : k < d.blocks.length
        · obtain ⟨n, b, off, av, cv, hvk, hvm, hba, c0, hva⟩ := (ha.b.grow (gca hA hb)).get hlt
          rw [hba]
          have hnl := (hd.bb n hvm).len
          unfold maxLen at hnl
          have i0 : (0 : Int) ≤ (k : Int) := by omega
          have i1 : (k : Int) < (d.blocks.length : Int) := by omega
          have hall' : Hid _ := hall
          clear hall
          by_cases h64 : n.length = 64
          · have t3 : ((n.length : Int) != 64) = false := by simp; omega
            have hst : Hid ((d.blocks.take (k + 1)).all blOk = true) := by show _ = _; rw [dall_take_succ _ _ _ hlt, hall'.out, ← hvk.out]; simp [blOk, h64]
            clear h64
            go_wp2
            go_roundw
            case rel => exact ⟨k + 1, by omega, by go_num, hst.out, hb⟩
            case measure => simp [intOf]; omega
          · have t3 : ((n.length : Int) != 64) = true := by simp; omega
            have hst : Hid (d.blocks.all blOk = false) := all_take_false _ _ k hlt (by rw [← hvk.out]; simp [blOk, h64])
            clear h64
            go_wp2
            go_ret
            exact ⟨by rw [DD.ok_no3 hst.out]; rfl, gca hA hb⟩
        · have e : k = d.blocks.length := by omega
          subst e
          rw [List.take_length] at hall
          have hall' : Hid _ := hall
          have hX2 := hX.grow hb
          have x0 := hX2.c0
          have x1 := hX2.c1
          clear hall
          have hB := gca hA hb
          clear hb hX2
          rename World => wB
          go_wp2
          go_loopw [31] (fun i wr2 => ∃ k : Nat, k ≤ d.waiting.length ∧ i = .int .i64 k ∧ (d.waiting.take k).all wrOk = true ∧ Below wB.heap.size wB wr2) (fun i _ => d.waiting.length - (intOf i).toNat)
          case atStart => exact ⟨0, Nat.zero_le _, rfl, rfl, gre _⟩
          case round =>
            obtain ⟨k, hk, rfl, hall, hb⟩ := hrel
            by_cases hlt : k < d.waiting.length
            · obtain ⟨n, b, off, av, cv, hvk, hvm, hba, c0, c1, hva⟩ := (ha.w.grow (gca hB hb)).get hlt
              rw [hba]
              have i0 : (0 : Int) ≤ (k : Int) := by omega
              have i1 : (k : Int) < (d.waiting.length : Int) := by omega
              have hni := hd.wi n hvm
              have hnl := (hd.wb n hvm).len
              have hall2 : Hid _ := hall
              clear hall
              by_cases g0 : n.block < 0
              · have hst : Hid (d.waiting.all wrOk = false) := all_take_false _ _ k hlt (by rw [← hvk.out]; simp [wrOk]; omega)
                go_wp2
                go_ret
                exact ⟨by rw [DD.ok_no4 hst.out]; rfl, by first | exact gca hB hb | exact gca hB (gal hb _) | exact gca hB (gse (gse (gal hb _) (by simp) _) (by simp) _)⟩
              · by_cases g1 : n.block ≥ 130
                · have hst : Hid (d.waiting.all wrOk = false) := all_take_false _ _ k hlt (by rw [← hvk.out]; simp [wrOk]; omega)
                  go_wp2
                  go_ret
                  exact ⟨by rw [DD.ok_no4 hst.out]; rfl, by first | exact gca hB hb | exact gca hB (gal hb _) | exact gca hB (gse (gse (gal hb _) (by simp) _) (by simp) _)⟩
                · unfold maxLen at hnl
                  by_cases g2 : n.bytes.length = 64
                  · have t3 : ((n.bytes.length : Int) != 64) = false := by simp; omega
                    have hst : Hid ((d.waiting.take (k + 1)).all wrOk = true) := by show _ = _; rw [dall_take_succ _ _ _ hlt, hall2.out, ← hvk.out]; simp [wrOk, g2]; omega
                    clear g2
                    go_wp2
                    go_roundw
                    case rel => exact ⟨k + 1, by omega, by go_num, hst.out, by first | exact hb | exact gal hb _ | exact gse (gse (gal hb _) (by simp) _) (by simp) _⟩
                    case measure => simp [intOf]; omega
                  · have t3 : ((n.bytes.length : Int) != 64) = true := by simp; omega
                    have hst : Hid (d.waiting.all wrOk = false) := all_take_false _ _ k hlt (by rw [← hvk.out]; simp [wrOk, g2])
                    clear g2
                    go_wp2
                    go_ret
                    exact ⟨by rw [DD.ok_no4 hst.out]; rfl, by first | exact gca hB hb | exact gca hB (gal hb _) | exact gca hB (gse (gse (gal hb _) (by simp) _) (by simp) _)⟩
            · have e : k = d.waiting.length := by omega
              subst e
              rw [List.take_length] at hall
              have hall2 : Hid _ := hall
              clear hall
              go_wp2
              go_ret
              exact ⟨by rw [DD.ok_yes h1'.out h2'.out hall'.out hall2.out]; rfl, gca hB hb⟩
    · have t2 : ((d.waiting.length : Int) > 200) := by omega
      have hst : Hid _ := DD.ok_no2 h2
      go_enter Try.func36, Try.ntmps36
      go_wp2
      go_ret
      exact ⟨by rw [hst.out]; rfl, gal (gre _) _⟩
  · have t1 : ((d.blocks.length : Int) != 130) = true := by simp; omega
    have hst : Hid _ := DD.ok_no1 h1
    clear h1
    go_enter Try.func36, Try.ntmps36
    go_wp2
    go_ret
    exact ⟨by rw [hst.out]; rfl, gal (gre _) _⟩

end Go.Proofs.Ythjddpkegooobab

/-
  SRD: the specification's reading of blocks. Own work.
-/
namespace Go.Proofs.Ythjddpkegooobab
open Go.RowKit

/-- bytes that are handed back -/
def BPost (ys : List Nat) (w : World) (e : Ending) (w' : World) : Prop := ∃ oa c, e = .returned (.slice oa ys.length c) ∧ BytesAt w' oa ys ∧ Below w.heap.size w w'

/-- bytes that are handed back, in memory of their own -/
def OPost (ys : List Nat) (w : World) (e : Ending) (w' : World) : Prop := ∃ oa c, e = .returned (.slice oa ys.length c) ∧ w'.ownsRow w.heap.size 5 1 (.slice oa ys.length c) ys.length (bcells ys) ∧ Below w.heap.size w w'

set_option maxRecDepth 100000 in
theorem l3read_own (d : DD) (l : DL) (m : Nat) (w : World) (hd : d.Fit) (ha : DAt w l d) (hm : m < 130) : Calls Try.prog 109 #[d.val l, .int .i64 (m : Int)] w (OPost (readN d.blocks d.waiting (m : Int) d.waiting.length) w) := by
  obtain ⟨ys, hys⟩ := hid_ex (readN d.blocks d.waiting (m : Int) d.waiting.length)
  rw [← hys.out]
  have hA := gal (gre w) (.cells #[.slice l.ba d.blocks.length l.bc, .slice l.wa d.waiting.length l.wc] 50)
  have hX0 := DBox.new w d l 50
  have hwl := hd.wl
  go_enter Try.func109, Try.ntmps109
  go_wp2
  generalize w.alloc (.cells #[.slice l.ba d.blocks.length l.bc, .slice l.wa d.waiting.length l.wc] 50) = wA at hA hX0 ⊢
  go_loopw [5] (fun i wr => ∃ j : Nat, j ≤ d.waiting.length ∧ i = .int .i64 ((j : Int) - 1) ∧ Hid (ys = readN d.blocks d.waiting (m : Int) j) ∧ Below wA.heap.size wA wr) (fun i _ => (intOf i + 1).toNat)
  case atStart => exact ⟨d.waiting.length, Nat.le_refl _, by go_num, hys, gre _⟩
  case round =>
    obtain ⟨j, hj, rfl, hr, hb⟩ := hrel
    have hX := hX0.grow hb
    have x0 := hX.c0
    have x1 := hX.c1
    have hB := gca hA hb
    cases j with
    | zero =>
      have hlt : m < d.blocks.length := by rw [hd.bl]; exact hm
      obtain ⟨n, b, off, av, cv, hvk, hvm, hba, c0, hva⟩ := (ha.b.grow hB).get hlt
      rw [hba] at x0
      have hn64 := hd.bb n hvm
      have hyn : Hid (ys = n) := by show _ = _; rw [hr.out, hvk.out]; simp [readN]
      have i0 : (0 : Int) ≤ (m : Int) := by omega
      have i1 : (m : Int) < (d.blocks.length : Int) := by omega
      have hn64' : Hid _ := hn64
      clear hn64
      rw [show ((0 : Nat) : Int) - 1 = -1 by rfl]
      go_wp2_with (go_at_call 103; refine (l2copy_any av n cv _ (by rw [hn64'.out]; decide) hva).mono ?_; rintro e w2 ⟨oa, oc, rfl, hown, hb2⟩)
      go_ret
      exact ⟨oa, oc, by rw [hyn.out]; rfl, by rw [hyn.out]; exact owns_le hown hB.size, gca hB hb2⟩
    | succ k =>
      have hlt : k < d.waiting.length := by omega
      obtain ⟨n, b, off, av, cv, hvk, hvm, hba, c0, c1, hva⟩ := (ha.w.grow hB).get hlt
      rw [hba] at x1
      have hn64 := (hd.wb n hvm).2.2
      have i0 : (0 : Int) ≤ (k : Int) := by omega
      have i1 : (k : Int) < (d.waiting.length : Int) := by omega
      have i2 : ((k : Int) ≥ 0) := by omega
      have hn64' : Hid _ := hn64
      clear hn64
      rw [show ((k + 1 : Nat) : Int) - 1 = (k : Int) by omega]
      by_cases heq : n.block = (m : Int)
      · have t1 : (n.block == (m : Int)) = true := by simp [heq]
        have hyn : Hid (ys = n.bytes) := by show _ = _; rw [hr.out]; simp only [readN]; rw [← hvk.out, if_pos heq]
        have heq' : Hid _ := heq
        clear heq
        go_wp2_with (go_at_call 103; refine (l2copy_any av n.bytes cv _ (by rw [hn64'.out]; decide) hva).mono ?_; rintro e w2 ⟨oa, oc, rfl, hown, hb2⟩)
        go_ret
        exact ⟨oa, oc, by rw [hyn.out]; rfl, by rw [hyn.out]; exact owns_le hown hB.size, gca hB hb2⟩
      · have t1 : (n.block == (m : Int)) = false := by simpa using heq
        have hst : Hid (ys = readN d.blocks d.waiting (m : Int) k) := by show _ = _; rw [hr.out]; simp only [readN]; rw [← hvk.out, if_neg heq]
        clear heq
        go_wp2
        go_roundw
        case rel => exact ⟨k, by omega, by go_num, hst, hb⟩
        case measure => first | (simp [intOf]; done) | (simp [intOf]; omega)

theorem l3read_any (d : DD) (l : DL) (m : Nat) (w : World) (hd : d.Fit) (ha : DAt w l d) (hm : m < 130) : Calls Try.prog 109 #[d.val l, .int .i64 (m : Int)] w (BPost (readN d.blocks d.waiting (m : Int) d.waiting.length) w) :=
  (l3read_own d l m w hd ha hm).mono fun _ _ ⟨oa, c, h1, h2, h3⟩ => ⟨oa, c, h1, owns_bytes h2, h3⟩

theorem read_no1 {d : DD} {b : Int} (h : d.ok = false) : d.read b = [] := by simp [DD.read, h]
theorem read_no2 {d : DD} {b : Int} (h : (decide (0 ≤ b) && decide (b < 130)) = false) : d.read b = [] := by simp only [DD.read, h, Bool.and_false]; rfl
theorem read_yes {d : DD} {m : Nat} (h : d.ok = true) (hm : m < 130) : d.read (m : Int) = readN d.blocks d.waiting (m : Int) d.waiting.length := by
  have h2 : (decide (0 ≤ (m : Int)) && decide ((m : Int) < 130)) = true := by simp; omega
  simp only [DD.read, h, h2, Bool.and_self, if_true]

end Go.Proofs.Ythjddpkegooobab

/-
  DREAD: the drive reads. Own work.
-/
namespace Go.Proofs.Ythjddpkegooobab
open Go.RowKit

theorem results_cell_mid {P : Program} {fn : Func} {p : Tmp} {ty : TypeId} (h : fn.results = #[.cell p ty]) (tmps : Array Value) (w : World) (g o : Nat) (cs : List Value) (d : TypeDesc)
    (hp : tmps.getD p undef = .pointer (some ⟨g, o, none⟩)) (hc : w.rangeAt g o cs) (hu : P.underlying ty = some d) (hd : d.isRow = true) (hi : (P.info? ty).map (·.size) = some cs.length) :
    (results fn tmps).run P w = .ok (.agg cs.toArray) w := by
  have hp' : tmps[p]?.getD undef = .pointer (some ⟨g, o, none⟩) := by simpa [Array.getD_eq_getD_getElem?] using hp
  simp [results, h, hp', asAddr, run_loadVar_mid w g o ty cs d hc hu hd hi]

/-- while it looks for the last write -/
structure RdS (w wr : World) (A B : Nat) (cur : List Nat) : Prop where
  bel : Below w.heap.size w wr
  ta : wr.there A 0 64
  rb : wr.rangeAt B 0 (bcells cur)
  tb : wr.there B 0 64
  len : cur.length = 64
theorem RdS.grow {w wr w' : World} {A B : Nat} {cur : List Nat} (h : RdS w wr A B cur) (hb : Below wr.heap.size wr w') (hA : A < wr.heap.size) (hB : B < wr.heap.size) : RdS w w' A B cur :=
  ⟨gca h.bel hb, there_same h.ta (hb.block A hA), range_same h.rb (hb.block B hB), there_same h.tb (hb.block B hB), h.len⟩
theorem there_lt {w : World} {b o n : Nat} (h : w.there b o n) (hn : 0 < n) : b < w.heap.size := by
  obtain ⟨v, hv⟩ := Option.isSome_iff_exists.1 (h 0 hn).1
  exact World.block_lt_of_cell? w ⟨b, o + 0, none⟩ hv

set_option maxHeartbeats 4000000 in
set_option maxRecDepth 100000 in
theorem read_any (p : Nat) (bl : List (List Nat)) (pa : Option Addr) (pc : Nat) (ws : List DW) (kv : Value) (b : Int) (w : World) (hb0 : 0 ≤ b) (hb1 : b < 130) (hw : ws.length ≤ 201) (h : Dr w p bl pa pc ws kv) :
    Calls Try.prog 111 #[.pointer (some ⟨p, 0, none⟩), .int .i64 b] w fun e w' => e = .returned (.agg (bcells (readN bl ws b ws.length)).toArray) ∧ Below w.heap.size w w' := by
  obtain ⟨m, rfl⟩ : ∃ m : Nat, b = (m : Int) := ⟨b.toNat, by omega⟩
  have hm : m < 130 := by omega
  have hz64 := (zero_of_info zero_content).1
  have hz65 := (zero_of_info zero_pending).1
  have hlen := h.d.len
  have h64 := h.d.all64
  obtain ⟨c0, hc0⟩ := hid_ex bl[m]!
  have hl0 : c0.length = 64 := by rw [hc0.out]; exact h64 _ (mem_at (by omega))
  have hcl : (bcells c0).length = 64 := by rw [bcells_length, hl0]
  have hr1 : (w.alloc (.cells (zeros 64).toArray 121)).rangeAt p (m * 64) (bcells c0) := by rw [hc0.out]; exact World.rangeAt_alloc (h.d.rng m hm) _
  go_enter Try.func111, Try.ntmps111
  go_upto_region 2 with (first
    | (refine wpList_load_mid rfl 121 _ rfl p (m * 64) rfl (bcells c0) _ hr1 Try.underlying121 rfl (by rw [size_content, hcl]) ?_)
    | (refine wpList_alloc_big rfl 121 rfl _ hz64 ?_)
    | (refine wpList_store_new rfl 121 _ _ rfl _ (bcells c0).toArray rfl rfl (by rw [size_content]; simp [hcl]) (by simp [zeros, hcl]) (all_oneCell_toArray cells_u8) ?_))
  have e0 : (w.alloc (.cells (zeros 64).toArray 121)).heap.size = w.heap.size + 1 := by simp
  try rw [e0]
  have hS0 : RdS w ((w.alloc (.cells (zeros 64).toArray 121)).alloc (.cells (bcells c0).toArray 121)) w.heap.size (w.heap.size + 1) c0 := by
    have e1 : (w.alloc (.cells (zeros 64).toArray 121)).heap.size = w.heap.size + 1 := by simp
    have r := range_new (w.alloc (.cells (zeros 64).toArray 121)) (bcells c0) 121
    have t := there_new (w.alloc (.cells (zeros 64).toArray 121)) (bcells c0) 121
    have t0 := there_new w (zeros 64) 121
    rw [e1] at r t
    rw [hcl] at t
    rw [show (zeros 64).length = 64 from List.length_replicate] at t0
    exact ⟨gal (gal (gre _) _) _, World.there_alloc t0 _, r, t, hl0⟩
  generalize (w.alloc (.cells (zeros 64).toArray 121)).alloc (.cells (bcells c0).toArray 121) = wA at hS0 ⊢
  obtain ⟨A, hA⟩ := hid_ex w.heap.size
  obtain ⟨B, hB⟩ := hid_ex (w.heap.size + 1)
  rw [← hB.out] at hS0 ⊢
  rw [← hA.out] at hS0 ⊢
  have hAB : A < B := by rw [hA.out, hB.out]; omega
  have hDr := h.grow hS0.bel
  have x0 := hDr.d.ws
  clear hr1 hcl hDr
  go_wp2
  go_loopw [19] (fun i wr => ∃ (k : Nat) (cur : List Nat), k ≤ ws.length ∧ i = .int .i64 k ∧ Hid (cur = readN bl ws (m : Int) k) ∧ RdS w wr A B cur) (fun i _ => ws.length - (intOf i).toNat)
  case atStart => exact ⟨0, c0, Nat.zero_le _, rfl, by show _ = _; rw [hc0.out]; rfl, hS0⟩
  case round =>
    obtain ⟨k, cur, hk, rfl, hcur, hS⟩ := hrel
    have hAl := there_lt hS.ta (by decide)
    have hBl := there_lt hS.tb (by decide)
    by_cases hlt : k < ws.length
    · have hDrk := h.grow hS.bel
      obtain ⟨g, rfl, _, hgl, hrg⟩ := owns_pend hDrk.own hDrk.w64 hlt
      obtain ⟨n, hn⟩ := hid_ex ws[k]!
      rw [← hn.out] at hrg
      have hn64 : Hid (n.bytes.length = 64) := by show _ = _; rw [hn.out]; exact h.w64 _ (mem_at hlt)
      have hpl : n.pc.length = 65 := pc_length hn64.out
      have hbl64 : (bcells n.bytes).length = 64 := by rw [bcells_length]; exact hn64.out
      have i0 : (0 : Int) ≤ (k : Int) := by omega
      have i1 : (k : Int) < (ws.length : Int) := by omega
      clear hDrk
      go_upto_region 5 with (first
        | (refine wpList_load_mid rfl 184 _ rfl g (k * 65) rfl n.pc _ hrg Try.underlying184 rfl (by rw [size_pending, hpl]) ?_)
        | (refine wpList_alloc_big rfl 184 rfl _ hz65 ?_)
        | (refine wpList_store_new rfl 184 _ _ rfl _ n.pc.toArray rfl rfl (by rw [size_pending]; simp [hpl]) (by simp [zeros, hpl]) (all_oneCell_toArray pc_one) ?_))
      have hSA := hS.grow (gal (gre wr) (.cells n.pc.toArray 184)) hAl hBl
      have hrn := range_new wr n.pc 184
      have hby : (wr.alloc (.cells n.pc.toArray 184)).rangeAt wr.heap.size 1 (bcells n.bytes) := range_drop (cs := [.int .i64 n.block]) hrn
      have hq0 : (wr.alloc (.cells n.pc.toArray 184)).cell? ⟨wr.heap.size, 0, none⟩ = some (.int .i64 n.block) := hrn 0 _ rfl
      generalize wr.alloc (.cells n.pc.toArray 184) = wC at hSA hby hq0 ⊢
      clear hrn hS
      generalize wr.heap.size = Q at hby hq0 hAl hBl ⊢
      by_cases heq : n.block = (m : Int)
      · have t1 : (n.block == (m : Int)) = true := by simp [heq]
        have hst : Hid (n.bytes = readN bl ws (m : Int) (k + 1)) := by show _ = _; simp only [readN]; rw [← hn.out, if_pos heq]
        clear heq
        go_wp2_with (first
          | (refine wpList_load_mid rfl 121 _ rfl Q 1 rfl (bcells n.bytes) _ hby Try.underlying121 rfl (by rw [size_content, hbl64]) ?_)
          | (refine wpList_store_mid rfl 121 _ _ rfl B 0 (bcells n.bytes).toArray rfl rfl (by rw [List.size_toArray, hbl64]; exact hSA.tb) (by rw [size_content, List.size_toArray, hbl64]) (all_oneCell_toArray cells_u8) ?_))
        go_roundw
        case rel =>
          refine ⟨k + 1, n.bytes, by omega, by go_num, hst, ?_⟩
          exact ⟨(Kept.setCells (p := fun z => z = B) _ _ (Kept.refl _ wC) (fun _ => rfl)).below (by have := hSA.bel.size; omega) (fun z hz e => by have := hB.out; omega) |> hSA.bel.trans, World.there_setCells hSA.ta _ _ _, World.rangeAt_setCells_same _ _ _ _ (by rw [hbl64]; exact hSA.tb), World.there_setCells hSA.tb _ _ _, hn64.out⟩
        case measure => simp [intOf]; omega
      · have t1 : (n.block == (m : Int)) = false := by simpa using heq
        have hst : Hid (cur = readN bl ws (m : Int) (k + 1)) := by show _ = _; simp only [readN]; rw [← hn.out, if_neg heq, hcur.out]
        clear heq
        go_wp2
        go_roundw
        case rel => exact ⟨k + 1, cur, by omega, by go_num, hst, hSA⟩
        case measure => simp [intOf]; omega
    · obtain rfl : k = ws.length := by omega
      have hcl : (bcells cur).length = 64 := by rw [bcells_length, hS.len]
      go_wp2_with (first
        | (refine wpList_load_mid rfl 121 _ rfl B 0 rfl (bcells cur) _ hS.rb Try.underlying121 rfl (by rw [size_content, hcl]) ?_)
        | (refine wpList_store_mid rfl 121 _ _ rfl A 0 (bcells cur).toArray rfl rfl (by rw [List.size_toArray, hcl]; exact hS.ta) (by rw [size_content, List.size_toArray, hcl]) (all_oneCell_toArray cells_u8) ?_))
      refine bodyPost_ret (results_cell_mid Try.results111 _ _ A 0 (bcells cur) _ rfl (World.rangeAt_setCells_same _ _ _ _ (by rw [hcl]; exact hS.ta)) Try.underlying121 rfl (by rw [size_content, hcl])) rfl ⟨by rw [hcur.out], ?_⟩
      exact hS.bel.trans ((Kept.setCells (p := fun z => z = A) _ _ (Kept.refl _ wr) (fun _ => rfl)).below hS.bel.size (fun z hz e => by have := hA.out; omega))

end Go.Proofs.Ythjddpkegooobab

/-
  IREAD: the program's Read. Own work.
-/
namespace Go.Proofs.Ythjddpkegooobab
open Go.RowKit

/-- bytes that open a row of any type -/
def TRow (w : World) (t a n : Nat) (xs : List Nat) : Prop := ∃ f, w.rowIs a t n f ∧ xs.length ≤ n ∧ ∀ i, i < xs.length → f i = .int .u8 ((xs[i]! : Nat) : Int)
theorem TRow.at_ {w : World} {t a n : Nat} {xs : List Nat} (h : TRow w t a n xs) : BytesAt w (some ⟨a, 0, none⟩) xs := fun i hi => by
  obtain ⟨f, hr, hl, hf⟩ := h
  exact ⟨a, 0, rfl, by rw [Nat.zero_add, ← hf i hi]; exact hr.cell (by omega)⟩
theorem TRow.lt {w : World} {t a n : Nat} {xs : List Nat} (h : TRow w t a n xs) : a < w.heap.size := by obtain ⟨f, hr, _⟩ := h; exact hr.lt
theorem TRow.kept {p : Nat → Prop} {w w' : World} {t a n : Nat} {xs : List Nat} (h : TRow w t a n xs) (k : Kept p w w') (hn : ¬ p a) : TRow w' t a n xs := by
  obtain ⟨f, hr, r⟩ := h
  exact ⟨f, k.rowIs hr hn, r⟩
/-- bytes that are handed back, in memory of their own -/
def MT (w : World) (lo hi : Nat) (oa : Option Addr) (ys : List Nat) : Prop := ys = [] ∨ ∃ q, oa = some ⟨q, 0, none⟩ ∧ lo ≤ q ∧ q < hi ∧ TRow w 121 q 64 ys
theorem MT.at_ {w : World} {lo hi : Nat} {oa : Option Addr} {ys : List Nat} (h : MT w lo hi oa ys) : BytesAt w oa ys := by
  rcases h with rfl | ⟨q, rfl, _, _, h⟩
  · exact fun i hi => absurd hi (Nat.not_lt_zero _)
  · exact h.at_
theorem MT.kept {p : Nat → Prop} {w w' : World} {lo hi : Nat} {oa : Option Addr} {ys : List Nat} (h : MT w lo hi oa ys) (k : Kept p w w') (hn : ∀ b, lo ≤ b → b < hi → ¬ p b) : MT w' lo hi oa ys := by
  rcases h with h | ⟨q, h1, h2, h3, h4⟩
  · exact Or.inl h
  · exact Or.inr ⟨q, h1, h2, h3, h4.kept k (hn q h2 h3)⟩
theorem MT.grow {w w' : World} {lo hi : Nat} {oa : Option Addr} {ys : List Nat} (h : MT w lo hi oa ys) (hb : Below w.heap.size w w') : MT w' lo hi oa ys := h.kept (Kept.of_below hb (fun _ => False)) (fun _ _ _ e => e)
def TPost (ys : List Nat) (w : World) (e : Ending) (w' : World) : Prop := ∃ oa c, e = .returned (.slice oa ys.length c) ∧ MT w' w.heap.size w'.heap.size oa ys ∧ Below w.heap.size w w'

theorem row_new (w : World) (ys : List Nat) (t : TypeId) : TRow (w.alloc (.cells (bcells ys).toArray t)) t w.heap.size ys.length ys := by
  refine ⟨fun i => .int .u8 ((ys[i]! : Nat) : Int), ⟨_, heap_alloc_last w _, by simp [bcells], fun i hi => ?_⟩, Nat.le_refl _, fun i hi => rfl⟩
  rw [List.getElem?_toArray, bcells_get hi]

end Go.Proofs.Ythjddpkegooobab

/-
  IREAD: the program's Read. Own work.
-/
namespace Go.Proofs.Ythjddpkegooobab
open Go.RowKit

set_option maxHeartbeats 1000000 in
set_option maxRecDepth 100000 in
theorem implRead_any (d : DD) (l : DL) (b : Int) (w : World) (hd : d.Ok) (ha : DAt w l d) (hb : I64 b) : Calls Try.prog 44 #[d.val l, .int .i64 b] w (TPost (d.read b) w) := by
  have hA := gal (gre w) (.cells #[.slice l.ba d.blocks.length l.bc, .slice l.wa d.waiting.length l.wc] 50)
  have hX0 := DBox.new w d l 50
  have hz64 := (zero_of_info zero_content).1
  have hSl := run_slice_content
  cases hok : d.ok with
  | false =>
    have hok' : Hid _ := hok
    clear hok
    rw [read_no1 hok'.out]
    go_enter Try.func44, Try.ntmps44
    go_wp2_with (go_at_call 38; refine (implDiskOk_any d l _ hd (ha.grow hA)).mono ?_; rintro e w2 ⟨rfl, hb2⟩; rw [hok'.out])
    go_ret
    exact ⟨none, 0, rfl, Or.inl rfl, gca hA hb2⟩
  | true =>
    have hok' : Hid _ := hok
    clear hok
    have hfit := DD.fit hok'.out
    cases hbk : (decide (0 ≤ b) && decide (b < 130)) with
    | false =>
      have hbk' : Hid _ := hbk
      clear hbk
      rw [read_no2 hbk'.out]
      go_enter Try.func44, Try.ntmps44
      go_wp2_with (first
        | (go_at_call 38; refine (implDiskOk_any d l _ hd (ha.grow hA)).mono ?_; rintro e w2 ⟨rfl, hb2⟩; rw [hok'.out])
        | (go_at_call 110; refine (hasBlock_any b _ hb).mono ?_; rintro e w3 ⟨rfl, hb3⟩; rw [hbk'.out]))
      go_ret
      exact ⟨none, 0, rfl, Or.inl rfl, gca (gca hA hb2) hb3⟩
    | true =>
      have hbk' : Hid _ := hbk
      have hb2' : 0 ≤ b ∧ b < 130 := by simpa using hbk
      obtain ⟨m, rfl⟩ : ∃ m : Nat, b = (m : Int) := ⟨b.toNat, by omega⟩
      have hm : m < 130 := by omega
      clear hbk
      rw [read_yes hok'.out hm]
      obtain ⟨ys, hys⟩ := hid_ex (readN d.blocks d.waiting (m : Int) d.waiting.length)
      have hy64 : ys.length = 64 := by
        rw [hys.out]
        exact readN_mem (p := fun x => x.length = 64) hfit.bb (fun x hx => (hfit.wb x hx).2.2) (by rw [hfit.bl]; simpa using hm) _ (Nat.le_refl _)
      have hyl : (bcells ys).length = 64 := by rw [bcells_length, hy64]
      rw [← hys.out]
      go_enter Try.func44, Try.ntmps44
      go_upto_region 4 with (first
        | (go_at_call 38; refine (implDiskOk_any d l _ hd (ha.grow hA)).mono ?_; rintro e w2 ⟨rfl, hb2⟩; rw [hok'.out])
        | (go_at_call 110; refine (hasBlock_any _ _ hb).mono ?_; rintro e w3 ⟨rfl, hb3⟩; rw [hbk'.out]; obtain ⟨_, x0, x1⟩ := (hX0.grow hb2).grow hb3)
        | (go_at_call 104; refine (driveOf_any d l _ hfit (ha.grow (gca (gca hA hb2) hb3))).mono ?_; rintro e w4 ⟨p, pa, pc, rfl, hp4, hDr, hb4⟩)
        | (go_at_call 111; refine (read_any p d.blocks pa pc d.waiting .nilFunc (m : Int) _ (by omega) (by omega) (by have := hfit.wl; omega) hDr).mono ?_; rw [← hys.out]; rintro e w5 ⟨rfl, hb5⟩)
        | (refine wpList_alloc_big rfl 121 rfl _ hz64 ?_)
        | (refine wpList_store_new rfl 121 _ _ rfl _ (bcells ys).toArray rfl rfl (by rw [size_content]; simp [hyl]) (by simp [zeros, hyl]) (all_oneCell_toArray cells_u8) ?_))
      have hr := row_new w5 ys 121
      have hbA := gal (gca (gca (gca (gca hA hb2) hb3) hb4) hb5) (.cells (bcells ys).toArray 121)
      have hs5 := (gca (gca (gca (gca hA hb2) hb3) hb4) hb5).size
      rw [hy64] at hr
      have hy64' : Hid _ := hy64
      clear hy64
      go_wp2
      go_ret
      exact ⟨some ⟨w5.heap.size, 0, none⟩, 64, by rw [hy64'.out]; rfl, Or.inr ⟨w5.heap.size, rfl, hs5, by simp, hr⟩, hbA⟩

end Go.Proofs.Ythjddpkegooobab

/-
  OK: whether a graph is well made: the specification's word and the program's. Own work.
-/
namespace Go.Proofs.Ythjddpkegooobab
open Go.RowKit

def okV (n : Nat) (v : GV) : Bool :=
  if v.kind = 0 then decide (v.num = 0 ∧ v.text.toList = [] ∧ v.node = 0)
  else if v.kind = 1 ∨ v.kind = 2 then decide (v.text.toList = [] ∧ v.node = 0)
  else if v.kind = 3 then decide (v.num = 0 ∧ v.node = 0 ∧ v.text.size ≤ 1000)
  else if v.kind = 4 then decide (v.num = 0 ∧ v.text.toList = [] ∧ 0 ≤ v.node ∧ v.node < n)
  else false

set_option maxRecDepth 100000 in
theorem specVal_any (a : Option Addr) (cap : Nat) (g : GG) (v : GV) (w : World) :
    Calls Try.prog 126 #[g.val a cap, v.val] w fun e w' => e = .returned (.bool (okV g.nodes.length v)) ∧ Below w.heap.size w w' := by
  go_enter Try.func126, Try.ntmps126
  go_wp2
  all_goals go_ret
  all_goals refine ⟨ret_bool ?_, gal (gal (gre _) _) _⟩
  all_goals simp_all [okV]
  all_goals first | omega | rfl | (rw [Bool.eq_iff_iff]; simp)

set_option maxRecDepth 100000 in
theorem implVal_any (n : Nat) (v : GV) (w : World) :
    Calls Try.prog 133 #[v.val, .int .i64 n] w fun e w' => e = .returned (.bool (okV n v)) ∧ Below w.heap.size w w' := by
  go_enter Try.func133, Try.ntmps133
  go_wp2
  all_goals go_ret
  all_goals refine ⟨ret_bool ?_, gal (gre _) _⟩
  all_goals simp_all [okV]
  all_goals omega

end Go.Proofs.Ythjddpkegooobab

/-
  OK2: nodes and graphs that are well made: the specification's word and the program's. Own work.
-/
namespace Go.Proofs.Ythjddpkegooobab
open Go.RowKit

def okN (n : Nat) (x : GN) : Bool := decide (0 ≤ x.tag ∧ x.tag ≤ 1000 ∧ x.vals.length ≤ 100) && x.vals.all (okV n)
def okG (g : GG) : Bool := decide (g.nodes.length ≤ 300) && okV g.nodes.length g.root && g.nodes.all (okN g.nodes.length)

set_option maxRecDepth 100000 in
theorem all_take_succ {α : Type} [Inhabited α] {p : α → Bool} {l : List α} {k : Nat} (h : k < l.length) (h1 : (l.take k).all p = true) (h2 : p l[k]! = true) : (l.take (k + 1)).all p = true := by
  rw [take_snoc l k h, List.all_append, h1, List.all_cons, h2]; rfl
theorem all_false_at {α : Type} [Inhabited α] {p : α → Bool} {l : List α} {k : Nat} (h : k < l.length) (h2 : p l[k]! = false) : l.all p = false := by
  rw [List.all_eq_false]; exact ⟨l[k]!, mem_at h, by rw [h2]; exact Bool.false_ne_true⟩

set_option maxRecDepth 100000 in
theorem okN_false {n : Nat} {x : GN} (h : x.tag < 0 ∨ 1000 < x.tag ∨ 100 < x.vals.length) : okN n x = false := by
  unfold okN; rw [decide_eq_false (by omega)]; rfl
theorem okN_vals {n : Nat} {x : GN} (h : 0 ≤ x.tag ∧ x.tag ≤ 1000 ∧ x.vals.length ≤ 100) : okN n x = x.vals.all (okV n) := by
  unfold okN; rw [decide_eq_true h]; rfl

set_option maxRecDepth 100000 in
theorem implNode_any (n : Nat) (x : GN) (a : Option Addr) (cap : Nat) (w : World) (hl : x.vals.length ≤ maxLen) (ha : ValsAt w.heap.size w a x.vals) :
    Calls Try.prog 134 #[.agg #[.int .i64 x.tag, .slice a x.vals.length cap], .int .i64 n] w fun e w' => e = .returned (.bool (okN n x)) ∧ Below w.heap.size w w' := by
  unfold maxLen at hl
  by_cases hok : 0 ≤ x.tag ∧ x.tag ≤ 1000 ∧ x.vals.length ≤ 100
  · have hkv : Hid _ := okN_vals (n := n) hok
    obtain ⟨h1, h2, h3⟩ := hok
    have t0 : decide (x.tag < 0) = false := decide_eq_false (by omega)
    have t1 : decide (1000 < x.tag) = false := decide_eq_false (by omega)
    have t2 : decide (100 < (x.vals.length : Int)) = false := decide_eq_false (by omega)
    go_enter Try.func134, Try.ntmps134
    go_wp2
    go_loopw [24] (fun i wr => ∃ k : Nat, k ≤ x.vals.length ∧ i = .int .i64 k ∧ (x.vals.take k).all (okV n) = true ∧ Below w.heap.size w wr) (fun i _ => x.vals.length - (intOf i).toNat)
    case atStart => exact ⟨0, Nat.zero_le _, rfl, by simp, gal (gre _) _⟩
    case round =>
      obtain ⟨k, hk, rfl, hall, hb⟩ := hrel
      by_cases hlt : k < x.vals.length
      · obtain ⟨v, b, off, hvk, hvm, rfl, hbs, hva⟩ := ha.get hlt
        have hva := hva.below hb hbs
        have c0 := hva.kind
        have c1 := hva.num
        have c2 := hva.text
        have c3 := hva.node
        have hall' : Hid _ := hall
        clear hall
        cases hr : okV n v with
        | false =>
          have hf : Hid (x.vals.all (okV n) = false) := all_false_at hlt (by rw [← hvk.out]; exact hr)
          go_wp2_with (go_at_call 133; refine (implVal_any n v _).mono ?_; rintro e w' ⟨rfl, hb'⟩)
          go_ret
          exact ⟨ret_bool (by rw [hkv.out, hf.out]), gca (gal hb _) hb'⟩
        | true =>
          have hf : Hid ((x.vals.take (k + 1)).all (okV n) = true) := all_take_succ hlt hall'.out (by rw [← hvk.out]; exact hr)
          go_wp2_with (go_at_call 133; refine (implVal_any n v _).mono ?_; rintro e w' ⟨rfl, hb'⟩)
          go_roundw
          case rel => exact ⟨k + 1, by omega, by go_num, hf.out, gca (gal hb _) hb'⟩
          case measure => simp [intOf]; omega
      · have e : k = x.vals.length := by omega
        have hall' : Hid (x.vals.all (okV n) = true) := by rw [e, List.take_length] at hall; exact hall
        clear hall
        go_wp2
        go_ret
        exact ⟨ret_bool (by rw [hkv.out, hall'.out]), hb⟩
  · have hkf : Hid _ := okN_false (n := n) (x := x) (by omega)
    go_enter Try.func134, Try.ntmps134
    go_wp2
    all_goals first | (go_ret; exact ⟨ret_bool hkf.out.symm, gal (gre _) _⟩) | (exfalso; omega)

end Go.Proofs.Ythjddpkegooobab
