import Derived.Deep.QuietTactic
import Derived.BigQuiet
import Derived.Test.YthjddpkegooobabPartRdB

/-
  DRVG: where the disk's writes stand. Own work.
-/
namespace Go.Proofs.Ythjddpkegooobab
open Go.RowKit

/-- a write, and where its bytes lie -/
structure LW where
  x : DW
  a : Option Addr
  cap : Nat
  deriving Inhabited
def LW.two (y : LW) : List Value := [.int .i64 y.x.block, .slice y.a y.x.bytes.length y.cap]
theorem LW.two_length (y : LW) : y.two.length = 2 := rfl
def wCells (l : List LW) : List Value := l.flatMap LW.two
theorem wCells_snoc (l : List LW) (y : LW) : wCells (l ++ [y]) = wCells l ++ [.int .i64 y.x.block, .slice y.a y.x.bytes.length y.cap] := by simp [wCells, LW.two]
theorem wCells_get : ∀ (l : List LW) (i j : Nat), i < l.length → j < 2 → (wCells l)[i * 2 + j]? = (l[i]!.two)[j]?
  | [], _, _, hi, _ => absurd hi (Nat.not_lt_zero _)
  | x :: r, 0, j, _, hj => by
    rw [wCells, List.flatMap_cons, Nat.zero_mul, Nat.zero_add, List.getElem?_append_left (by rw [LW.two_length]; exact hj)]
    rfl
  | x :: r, i + 1, j, hi, hj => by
    have hlt : i < r.length := by simpa using hi
    have ih := wCells_get r i j hlt hj
    rw [wCells, List.flatMap_cons, List.getElem?_append_right (by rw [LW.two_length, Nat.add_mul]; omega), LW.two_length, show (i + 1) * 2 + j - 2 = i * 2 + j by rw [Nat.add_mul]; omega]
    rw [wCells] at ih
    rw [ih, getElem!_pos r i hlt, getElem!_pos (x :: r) (i + 1) hi]
    rfl

theorem owns_isW {w : World} {base size n cap : Nat} {a : Option Addr} {xs : List Value} (h : w.ownsRow base 133 size (.slice a n cap) n xs) {z : Nat} (hz : (Value.slice a n cap).ownBlock = some z) : IsW w z ∧ base ≤ z := by
  have ha := owns_addr h hz
  rcases h.2 with ⟨e, _⟩ | ⟨g, cap', cur, hv, hb, hg, _⟩
  · simp at e
    rw [e.1] at ha
    cases ha
  · simp only [Value.slice.injEq] at hv
    rw [ha] at hv
    obtain rfl := some_addr hv.1
    exact ⟨⟨cur, hg⟩, hb⟩
theorem owns_row {w : World} {base t size n cap : Nat} {a : Option Addr} {xs : List Value} (h : w.ownsRow base t size (.slice a n cap) n xs) (hn : 0 < n) : ∃ g f, a = some ⟨g, 0, none⟩ ∧ base ≤ g ∧ g < w.heap.size ∧ w.rowIs g t (cap * size) f ∧ n ≤ cap ∧ ∀ i u, xs[i]? = some u → f i = u := by
  have hc0 := h
  rcases h.2 with ⟨_, e⟩ | ⟨g, cap', cur, hv, hb, hg, h1, h2, h3, h4⟩
  · omega
  · simp only [Value.slice.injEq] at hv
    obtain ⟨rfl, _, rfl⟩ := hv
    refine ⟨g, fun i => cur[i]!, rfl, hb, (Array.getElem?_eq_some_iff.1 hg).1, ⟨cur, hg, h3, fun i hi => ?_⟩, h1, fun i u hu => ?_⟩
    · show cur[i]? = some cur[i]!
      rw [getElem!_pos cur i (by omega)]; exact Array.getElem?_eq_getElem (by omega)
    · obtain ⟨g', ha', _, _, hc⟩ := owns_cell hc0 hu
      obtain rfl := some_addr ha'
      have hc' : cur[i]? = some u := by simpa [World.cell?, hg] using hc
      show cur[i]! = u
      have hlt := (Array.getElem?_eq_some_iff.1 hc').1
      rw [getElem!_pos cur i hlt]
      rw [Array.getElem?_eq_getElem hlt] at hc'
      exact Option.some.inj hc'

/-- where the disk's writes stand -/
structure DkW (w wr : World) (N V : Nat) (bl : List (List Nat)) (f : Nat → Value) (bs cs : Nat → Nat) (va : Option Addr) (vc : Nat) (lw : List LW) (gs : Nat → Nat) : Prop where
  dk : DkB w wr N V (.slice va lw.length vc) bl 130 f bs cs
  own : wr.ownsRow (V + 1) 133 2 (.slice va lw.length vc) lw.length (wCells lw)
  byt : ∀ i, i < lw.length → lw[i]!.a = some ⟨gs i, 0, none⟩ ∧ BRow wr (gs i) lw[i]!.cap lw[i]!.x.bytes ∧ V < gs i ∧ (∀ j, j < 130 → bs j < gs i) ∧ ∀ j, j < i → gs j < gs i
theorem DkW.grow {w wr w' : World} {N V : Nat} {bl : List (List Nat)} {f : Nat → Value} {bs cs : Nat → Nat} {va : Option Addr} {vc : Nat} {lw : List LW} {gs : Nat → Nat} (h : DkW w wr N V bl f bs cs va vc lw gs) (hb : Below wr.heap.size wr w') : DkW w w' N V bl f bs cs va vc lw gs :=
  ⟨h.dk.grow hb, (Kept.of_below hb (fun _ => False)).owns h.own (fun _ _ e => e), fun i hi => let ⟨h1, h2, h3⟩ := h.byt i hi; ⟨h1, h2.of_block (hb.block _ h2.lt), h3⟩⟩
theorem snoc_at {α : Type} [Inhabited α] (l : List α) (y : α) (i : Nat) (hi : i < (l ++ [y]).length) : (l ++ [y])[i]! = if i = l.length then y else l[i]! := by
  have hi' : i < l.length + 1 := by simpa using hi
  rw [getElem!_pos _ i hi]
  by_cases h : i = l.length
  · subst h; simp
  · rw [if_neg h, List.getElem_append_left (by omega), getElem!_pos l i (by omega)]
theorem DkW.step {w wr w5 : World} {N V : Nat} {bl : List (List Nat)} {f : Nat → Value} {bs cs : Nat → Nat} {va : Option Addr} {vc : Nat} {lw : List LW} {gs : Nat → Nat} (h : DkW w wr N V bl f bs cs va vc lw gs)
    {G gcap gg cc : Nat} {x : DW} (hG : BRow wr G gcap x.bytes) (hVG : V < G) (hbs : ∀ j, j < 130 → bs j < G) (hgs : ∀ j, j < lw.length → gs j < G)
    (hown : w5.ownsRow (V + 1) 133 2 (.slice (some ⟨gg, 0, none⟩) (lw.length + 1) cc) (lw.length + 1) (wCells lw ++ [.int .i64 x.block, .slice (some ⟨G, 0, none⟩) x.bytes.length gcap])) (hgrow : wr.grownBy w5 (Value.slice va lw.length vc).ownBlock) :
    DkW w (w5.setCell ⟨V, 1, none⟩ (.slice (some ⟨gg, 0, none⟩) (lw.length + 1) cc)) N V bl f bs cs (some ⟨gg, 0, none⟩) cc (lw ++ [⟨x, some ⟨G, 0, none⟩, gcap⟩]) (fun i => if i = lw.length then G else gs i) := by
  have K1 := Kept.of_grown hgrow
  have hz : ∀ z, (Value.slice va lw.length vc).ownBlock = some z → IsW wr z ∧ V + 1 ≤ z := fun z hz => owns_isW h.own hz
  have hnv := h.dk.nv
  have hlo := h.dk.lo
  have K2 := (Kept.refl (fun b => b = V) w5).set (a := ⟨V, 1, none⟩) (fun _ => rfl) (.slice (some ⟨gg, 0, none⟩) (lw.length + 1) cc)
  have hB : ∀ {G' n' : Nat} {ys : List Nat}, BRow wr G' n' ys → V < G' → BRow (w5.setCell ⟨V, 1, none⟩ (.slice (some ⟨gg, 0, none⟩) (lw.length + 1) cc)) G' n' ys := fun hb hv => (hb.kept K1 (fun e => not_B_of_W (hz _ e).1 hb.isB)).kept K2 (fun e => by omega)
  have hVz : ¬ (Value.slice va lw.length vc).ownBlock = some V := fun e => by have := (hz V e).2; omega
  have hNz : ¬ (Value.slice va lw.length vc).ownBlock = some N := fun e => by have := (hz N e).2; omega
  have c1 := K1.cell h.dk.v1 hVz
  refine ⟨⟨K2.rowIs (K1.rowIs h.dk.row hNz) (by omega), fun i hi => ?_, (World.cell?_setCell_other _ _ _ _ (by simp)).trans (K1.cell h.dk.v0 hVz), ?_, fun o => ?_, ?_, hlo, hnv⟩, ?_, fun i hi => ?_⟩
  · obtain ⟨h1, h2, h3, h4⟩ := h.dk.fs i hi
    exact ⟨h1, hB h2 h3, h3, h4⟩
  · rw [List.length_append]; exact World.cell?_setCell_same _ _ _ c1
  · rw [World.frozen?_setCell]
    exact (World.frozen?_of_block (w := wr) (a := ⟨V, o, none⟩) (K1.block V (World.block_lt_of_cell? wr ⟨V, 0, none⟩ h.dk.v0) hVz)).trans (h.dk.vf o)
  · exact (h.dk.bel.trans (K1.below (Nat.le_trans h.dk.bel.size (Nat.le_refl _)) (fun k hk e => by have := (hz k e).2; omega))).trans (K2.below (by have := h.dk.bel.size; have := K1.size; omega) (fun k hk e => by omega))
  · rw [wCells_snoc, List.length_append]
    exact K2.owns hown (fun z hz2 e => by have := (hown.lt z hz2).1; omega)
  · rw [List.length_append] at hi
    rw [snoc_at _ _ _ (by rw [List.length_append]; exact hi)]
    by_cases e : i = lw.length
    · subst e
      simp only [if_true]
      refine ⟨trivial, hB hG hVG, hVG, hbs, fun j hj => ?_⟩
      rw [if_neg (by omega)]; exact hgs j hj
    · simp only [if_neg e]
      obtain ⟨h1, h2, h3, h4, h5⟩ := h.byt i (by simp at hi; omega)
      refine ⟨h1, hB h2 h3, h3, h4, fun j hj => ?_⟩
      rw [if_neg (by simp at hi; omega)]; exact h5 j hj

/-- the disk is done -/
theorem DkW.md {w wr : World} {N V : Nat} {bl : List (List Nat)} {f : Nat → Value} {bs cs : Nat → Nat} {va : Option Addr} {vc : Nat} {lw : List LW} {gs : Nat → Nat} (h : DkW w wr N V bl f bs cs va vc lw gs) (hlen : bl.length = 130) (h64 : ∀ x, x ∈ bl → x.length = 64) :
    MD wr w.heap.size wr.heap.size ⟨some ⟨N, 0, none⟩, 130, va, vc⟩ ⟨bl, lw.map (·.x)⟩ (fun i => some ⟨bs i, 0, none⟩) (fun i => lw[i]!.a) cs (fun i => lw[i]!.cap) := by
  have hnv := h.dk.nv
  have hlo := h.dk.lo
  have hmap : ∀ i, i < lw.length → (lw.map (·.x))[i]! = lw[i]!.x := fun i hi => by
    rw [getElem!_pos _ i (by simpa using hi), getElem!_pos lw i hi]; simp
  refine ⟨⟨fun _ => ⟨N, 130, f, rfl, hlo, h.dk.row.lt, h.dk.row, by show bl.length ≤ 130; omega, fun i hi => ?_⟩, fun i hi => ?_, fun i j hij hj => ?_⟩, ⟨fun hn => ?_, fun i hi => ?_, fun i j hij hj => ?_⟩, fun i j hi hj => ?_⟩
  · have hi' : i < bl.length := hi
    rw [(h.dk.fs i (by omega)).1, h64 _ (mem_at hi')]
  · have hi' : i < bl.length := hi
    obtain ⟨_, h2, h3, _⟩ := h.dk.fs i (by omega)
    exact Or.inr ⟨bs i, cs i, rfl, by omega, h2.lt, h2⟩
  · intro b e1 e2
    have hj' : j < bl.length := hj
    have := (h.dk.fs j (by omega)).2.2.2 i hij
    have := some_addr e1
    have := some_addr e2
    omega
  · have hn' : 0 < lw.length := by simpa using hn
    obtain ⟨g, f', h1, h2, h3, h4, h5, h6⟩ := owns_row h.own hn'
    refine ⟨g, vc * 2, f', h1, by omega, h3, h4, by simp; omega, fun i hi => ?_⟩
    have hi' : i < lw.length := by simpa using hi
    simp only [hmap i hi']
    exact ⟨h6 _ _ ((wCells_get lw i 0 hi' (by omega)).trans rfl), h6 _ _ ((wCells_get lw i 1 hi' (by omega)).trans rfl)⟩
  · have hi' : i < lw.length := by simpa using hi
    simp only [hmap i hi']
    obtain ⟨h1, h2, h3, _⟩ := h.byt i hi'
    exact Or.inr ⟨gs i, _, h1, by omega, h2.lt, h2⟩
  · have hj' : j < lw.length := by simpa using hj
    intro b e1 e2
    rw [(h.byt i (by omega)).1] at e1
    rw [(h.byt j hj').1] at e2
    have := (h.byt j hj').2.2.2.2 i hij
    have := some_addr e1
    have := some_addr e2
    omega
  · have hi' : i < bl.length := hi
    have hj' : j < lw.length := by simpa using hj
    intro b e1 e2
    rw [(h.byt j hj').1] at e2
    have := (h.byt j hj').2.2.2.1 i (by omega)
    have := some_addr e1
    have := some_addr e2
    omega

/-- the round of the writes -/
def GWInv (w wr : World) (N V : Nat) (bl : List (List Nat)) (f : Nat → Value) (bs cs : Nat → Nat) (ws : List DW) (k : Nat) : Prop :=
  ∃ (va : Option Addr) (vc : Nat) (lw : List LW) (gs : Nat → Nat), Hid (lw.length = k) ∧ Hid (lw.map (·.x) = ws.take k) ∧ DkW w wr N V bl f bs cs va vc lw gs

theorem MBs.mono {w : World} {lo hi lo' hi' : Nat} {a : Option Addr} {n : Nat} {F : Nat → List Nat} {fa : Nat → Option Addr} {fc : Nat → Nat} (h : MBs w lo hi a n F fa fc) (h1 : lo' ≤ lo) (h2 : hi ≤ hi') : MBs w lo' hi' a n F fa fc :=
  ⟨fun h0 => let ⟨g, m, f, a1, a2, a3, a4⟩ := h.row h0; ⟨g, m, f, a1, by omega, by omega, a4⟩, fun i hi => (h.byt i hi).mono h1 h2, h.far⟩
theorem MWs.mono {w : World} {lo hi lo' hi' : Nat} {a : Option Addr} {n : Nat} {B : Nat → Int} {F : Nat → List Nat} {fa : Nat → Option Addr} {fc : Nat → Nat} (h : MWs w lo hi a n B F fa fc) (h1 : lo' ≤ lo) (h2 : hi ≤ hi') : MWs w lo' hi' a n B F fa fc :=
  ⟨fun h0 => let ⟨g, m, f, a1, a2, a3, a4⟩ := h.row h0; ⟨g, m, f, a1, by omega, by omega, a4⟩, fun i hi => (h.byt i hi).mono h1 h2, h.far⟩
theorem MD.mono {w : World} {lo hi lo' hi' : Nat} {l : DL} {d : DD} {fa ga : Nat → Option Addr} {fc gc : Nat → Nat} (h : MD w lo hi l d fa ga fc gc) (h1 : lo' ≤ lo) (h2 : hi ≤ hi') : MD w lo' hi' l d fa ga fc gc := ⟨h.b.mono h1 h2, h.w.mono h1 h2, h.far⟩

end Go.Proofs.Ythjddpkegooobab

/-
  SCOPY: the specification's copy of bytes. Own work.
-/
namespace Go.Proofs.Ythjddpkegooobab
open Go.RowKit

theorem owns_bytes {w : World} {base t cap : Nat} {a : Option Addr} {bs : List Nat} (h : w.ownsRow base t 1 (.slice a bs.length cap) bs.length (bcells bs)) : BytesAt w a bs := fun i hi => by
  obtain ⟨g, ha, _, _, hc⟩ := owns_cell h (bcells_get hi)
  exact ⟨g, 0, ha, by rw [Nat.zero_add]; exact hc⟩
theorem owns_isB {w : World} {base size n cap : Nat} {a : Option Addr} {xs : List Value} (h : w.ownsRow base 5 size (.slice a n cap) n xs) {z : Nat} (hz : (Value.slice a n cap).ownBlock = some z) : IsB w z ∧ base ≤ z := by
  have ha := owns_addr h hz
  rcases h.2 with ⟨e, _⟩ | ⟨g, cap', cur, hv, hb, hg, _⟩
  · simp at e
    rw [e.1] at ha
    cases ha
  · simp only [Value.slice.injEq] at hv
    rw [ha] at hv
    obtain rfl := some_addr hv.1
    exact ⟨⟨cur, hg⟩, hb⟩
/-- a block of lists of bytes -/
def IsS (w : World) (b : Nat) : Prop := ∃ c, w.heap[b]? = some (.cells c 28 (0, 0))
theorem owns_isS {w : World} {base size n cap : Nat} {a : Option Addr} {xs : List Value} (h : w.ownsRow base 28 size (.slice a n cap) n xs) {z : Nat} (hz : (Value.slice a n cap).ownBlock = some z) : IsS w z ∧ base ≤ z := by
  have ha := owns_addr h hz
  rcases h.2 with ⟨e, _⟩ | ⟨g, cap', cur, hv, hb, hg, _⟩
  · simp at e
    rw [e.1] at ha
    cases ha
  · simp only [Value.slice.injEq] at hv
    rw [ha] at hv
    obtain rfl := some_addr hv.1
    exact ⟨⟨cur, hg⟩, hb⟩
theorem not_B_of_S {w : World} {b : Nat} (h : IsS w b) : ¬ IsB w b := fun ⟨c, hc⟩ => by
  obtain ⟨c', hc'⟩ := h
  rw [hc] at hc'
  simp at hc'
theorem not_W_of_S {w : World} {b : Nat} (h : IsS w b) : ¬ IsW w b := fun ⟨c, hc⟩ => by
  obtain ⟨c', hc'⟩ := h
  rw [hc] at hc'
  simp at hc'

set_option maxRecDepth 100000 in
theorem l2copy_any (a : Option Addr) (bs : List Nat) (cap : Nat) (w : World) (hl : bs.length ≤ 1048576) (ha : BytesAt w a bs) :
    Calls Try.prog 103 #[.slice a bs.length cap] w fun e w' => ∃ oa c, e = .returned (.slice oa bs.length c) ∧ w'.ownsRow w.heap.size 5 1 (.slice oa bs.length c) bs.length (bcells bs) ∧ Below w.heap.size w w' := by
  obtain ⟨i0, hi, hz0, hz1, hz2⟩ := info_parts info_u8
  go_enter Try.func103, Try.ntmps103
  go_wp2
  go_loopw [3, 8] (fun o i wr => ∃ (k : Nat) (oa : Option Addr) (c : Nat), k ≤ bs.length ∧ i = .int .i64 k ∧ o = .slice oa k c ∧ wr.ownsRow w.heap.size 5 1 (.slice oa k c) k (bcells (bs.take k)) ∧ Below w.heap.size w wr) (fun _ i _ => bs.length - (intOf i).toNat)
  case atStart => exact ⟨0, none, 0, Nat.zero_le _, rfl, rfl, owns_none _ _ _ _, gre _⟩
  case round =>
    obtain ⟨k, oa, c, hk, rfl, rfl, hO, hb⟩ := hrel
    by_cases hlt : k < bs.length
    · obtain ⟨x, b, off, hxk, hxm, rfl, hc⟩ := (ha.grow hb).get hlt
      have hsz := hb.size
      go_wp2_with (at_builtin; refine wpList_append_lies _ rfl (.tmp 12) (.tmp 14) 28 rfl w.heap.size 5 i0 (.int .u8 0) 1 1 Try.underlying28 hi hz0 hz1 hz2 rfl (by decide) _ _ _ rfl (hO.alloc _) ⟨wr.heap.size, 0, none⟩ 1 1 [.int .u8 (x : Int)] rfl rfl (World.news_of_block (cs := #[.int .u8 (x : Int)]) (t := 5) (fr := (0, 0)) (blk_new_at _ _ _ (by simp))) (by simp [Value.oneCell']) (by decide) (by unfold maxLen; omega) (by omega) (by simp; omega) (wr.heap.size + 1) (by simp) ?_; intro g cap2 w1 hown1 hgrow hat hlt2)
      have hK := (Kept.of_grown hgrow).below (B := w.heap.size) (by simp; omega) (fun z hz e => by have := (hO.lt z e).1; omega)
      have e1 : bcells (bs.take (k + 1)) = bcells (bs.take k) ++ [.int .u8 (x : Int)] := by rw [take_snoc _ _ hlt, bcells_snoc, hxk.out]
      go_roundw
      case rel => exact ⟨k + 1, some ⟨g, 0, none⟩, cap2, by omega, by go_num, rfl, by rw [e1]; exact hown1, (gal hb _).trans hK⟩
      case measure => simp [intOf]; omega
    · obtain rfl : k = bs.length := by omega
      rw [List.take_length] at hO
      go_wp2
      go_ret
      exact ⟨oa, c, rfl, hO, hb⟩

end Go.Proofs.Ythjddpkegooobab

/-
  DOK2: both DiskOk, walked. Own work.
-/
namespace Go.Proofs.Ythjddpkegooobab
open Go.RowKit

set_option maxRecDepth 100000 in
theorem writeOk_any (x : DW) (a : Option Addr) (cap : Nat) (w : World) (hi : I64 x.block) (_hl : x.bytes.length ≤ maxLen) :
    Calls Try.prog 101 #[x.val a cap] w fun e w' => e = .returned (.bool (wrOk x)) ∧ Below w.heap.size w w' := by
  obtain ⟨p, hp⟩ : ∃ p, Hid (p = (decide (0 ≤ x.block) && decide (x.block < 130))) := ⟨_, rfl⟩
  have hw : Hid (wrOk x = (p && decide (x.bytes.length = 64))) := by show _ = _; rw [hp.out]; rfl
  cases p with
  | false =>
    go_enter Try.func101, Try.ntmps101
    go_wp2_with (go_at_call 110; refine (hasBlock_any x.block _ hi).mono ?_; rintro e w' ⟨rfl, hb'⟩; rw [← hp.out])
    go_ret
    exact ⟨by rw [hw.out]; rfl, gca (gal (gre _) _) hb'⟩
  | true =>
    by_cases h : x.bytes.length = 64
    · have h' : ((x.bytes.length : Int) == 64) = true := by simp; omega
      have hh : Hid _ := h
      clear h
      go_enter Try.func101, Try.ntmps101
      go_wp2_with (go_at_call 110; refine (hasBlock_any x.block _ hi).mono ?_; rintro e w' ⟨rfl, hb'⟩; rw [← hp.out]; obtain ⟨hc, hf⟩ := bcell hb')
      go_ret
      exact ⟨by rw [hw.out]; simp [hh.out], gca (gal (gre _) _) hb'⟩
    · have h' : ((x.bytes.length : Int) == 64) = false := by simp; omega
      have hh : Hid _ := h
      clear h
      go_enter Try.func101, Try.ntmps101
      go_wp2_with (go_at_call 110; refine (hasBlock_any x.block _ hi).mono ?_; rintro e w' ⟨rfl, hb'⟩; rw [← hp.out]; obtain ⟨hc, hf⟩ := bcell hb')
      go_ret
      exact ⟨by rw [hw.out, decide_eq_false hh.out]; rfl, gca (gal (gre _) _) hb'⟩

theorem DD.ok_no1 {d : DD} (h : d.blocks.length ≠ 130) : d.ok = false := by simp [DD.ok, h]
theorem DD.ok_no2 {d : DD} (h : ¬ d.waiting.length ≤ 200) : d.ok = false := by simp [DD.ok, h]
theorem DD.ok_no3 {d : DD} (h : d.blocks.all blOk = false) : d.ok = false := by simp [DD.ok, h]
theorem DD.ok_no4 {d : DD} (h : d.waiting.all wrOk = false) : d.ok = false := by simp [DD.ok, h]
theorem DD.ok_yes {d : DD} (h1 : d.blocks.length = 130) (h2 : d.waiting.length ≤ 200) (h3 : d.blocks.all blOk = true) (h4 : d.waiting.all wrOk = true) : d.ok = true := by simp [DD.ok, h1, h2, h3, h4]

set_option maxRecDepth 100000 in
theorem implDiskOk_any (d : DD) (l : DL) (w : World) (hd : d.Ok) (ha : DAt w l d) :
    Calls Try.prog 38 #[d.val l] w fun e w' => e = .returned (.bool d.ok) ∧ Below w.heap.size w w' := by
  have hbl := hd.bl
  have hwl := hd.wl
  unfold maxLen at hbl hwl
  by_cases h1 : d.blocks.length = 130
  · have t1 : ((d.blocks.length : Int) != 130) = false := by simp; omega
    have h1' : Hid _ := h1
    clear h1
    by_cases h2 : d.waiting.length ≤ 200
    · have t2 : ¬ ((d.waiting.length : Int) > 200) := by omega
      have h2' : Hid _ := h2
      clear h2
      go_enter Try.func38, Try.ntmps38
      go_wp2
      have hA := gal (gre w) (.cells #[.slice l.ba d.blocks.length l.bc, .slice l.wa d.waiting.length l.wc] 50)
      have hX := DBox.new w d l 50
      generalize w.alloc (.cells #[.slice l.ba d.blocks.length l.bc, .slice l.wa d.waiting.length l.wc] 50) = wA at hA hX ⊢
      go_loopw [20] (fun i wr => ∃ k : Nat, k ≤ d.blocks.length ∧ i = .int .i64 k ∧ (d.blocks.take k).all blOk = true ∧ Below wA.heap.size wA wr) (fun i _ => d.blocks.length - (intOf i).toNat)
      case atStart => exact ⟨0, Nat.zero_le _, rfl, rfl, gre _⟩
      case round =>
        obtain ⟨k, hk, rfl, hall, hb⟩ := hrel
        by_cases hlt : k < d.blocks.length
        · obtain ⟨n, b, off, av, cv, hvk, hvm, hba, c0, hva⟩ := (ha.b.grow (gca hA hb)).get hlt
          rw [hba]
          have hnl := (hd.bb n hvm).len
          unfold maxLen at hnl
          have i0 : (0 : Int) ≤ (k : Int) := by omega
          have i1 : (k : Int) < (d.blocks.length : Int) := by omega
          have hall' : Hid _ := hall
          clear hall
          by_cases h64 : n.length = 64
          · have t3 : ((n.length : Int) != 64) = false := by simp; omega
            have hst : Hid ((d.blocks.take (k + 1)).all blOk = true) := by show _ = _; rw [dall_take_succ _ _ _ hlt, hall'.out, ← hvk.out]; simp [blOk, h64]
            clear h64
            go_wp2
            go_roundw
            case rel => exact ⟨k + 1, by omega, by go_num, hst.out, hb⟩
            case measure => simp [intOf]; omega
          · have t3 : ((n.length : Int) != 64) = true := by simp; omega
            have hst : Hid (d.blocks.all blOk = false) := all_take_false _ _ k hlt (by rw [← hvk.out]; simp [blOk, h64])
            clear h64
            go_wp2
            go_ret
            exact ⟨by rw [DD.ok_no3 hst.out]; rfl, gca hA hb⟩
        · have e : k = d.blocks.length := by omega
          subst e
          rw [List.take_length] at hall
          have hall' : Hid _ := hall
          have hX2 := hX.grow hb
          have x0 := hX2.c0
          have x1 := hX2.c1
          clear hall
          have hB := gca hA hb
          clear hb hX2
          rename World => wB
          go_wp2
          go_loopw [31] (fun i wr2 => ∃ k : Nat, k ≤ d.waiting.length ∧ i = .int .i64 k ∧ (d.waiting.take k).all wrOk = true ∧ Below wB.heap.size wB wr2) (fun i _ => d.waiting.length - (intOf i).toNat)
          case atStart => exact ⟨0, Nat.zero_le _, rfl, rfl, gre _⟩
          case round =>
            obtain ⟨k, hk, rfl, hall, hb⟩ := hrel
            by_cases hlt : k < d.waiting.length
            · obtain ⟨n, b, off, av, cv, hvk, hvm, hba, c0, c1, hva⟩ := (ha.w.grow (gca hB hb)).get hlt
              rw [hba]
              have i0 : (0 : Int) ≤ (k : Int) := by omega
              have i1 : (k : Int) < (d.waiting.length : Int) := by omega
              have hni := hd.wi n hvm
              have hnl := (hd.wb n hvm).len
              have hall2 : Hid _ := hall
              clear hall
              cases hok : wrOk n with
              | true =>
                have hst : Hid ((d.waiting.take (k + 1)).all wrOk = true) := by show _ = _; rw [dall_take_succ _ _ _ hlt, hall2.out, ← hvk.out, hok]; rfl
                have hok' : Hid _ := hok
                clear hok
                go_wp2_with (go_at_call 101; refine (writeOk_any n av cv _ hni hnl).mono ?_; rintro e w2 ⟨rfl, hb2⟩; rw [hok'.out])
                go_roundw
                case rel => exact ⟨k + 1, by omega, by go_num, hst.out, by first | exact gca hb hb2 | exact gca (gal hb _) hb2 | exact gca (gse (gse (gal hb _) (by simp) _) (by simp) _) hb2⟩
                case measure => simp [intOf]; omega
              | false =>
                have hst : Hid (d.waiting.all wrOk = false) := all_take_false _ _ k hlt (by rw [← hvk.out]; exact hok)
                have hok' : Hid _ := hok
                clear hok
                go_wp2_with (go_at_call 101; refine (writeOk_any n av cv _ hni hnl).mono ?_; rintro e w2 ⟨rfl, hb2⟩; rw [hok'.out])
                go_ret
                exact ⟨by rw [DD.ok_no4 hst.out]; rfl, by first | exact gca hB (gca hb hb2) | exact gca hB (gca (gal hb _) hb2) | exact gca hB (gca (gse (gse (gal hb _) (by simp) _) (by simp) _) hb2)⟩
            · have e : k = d.waiting.length := by omega
              subst e
              rw [List.take_length] at hall
              have hall2 : Hid _ := hall
              clear hall
              go_wp2
              go_ret
              exact ⟨by rw [DD.ok_yes h1'.out h2'.out hall'.out hall2.out]; rfl, gca hB hb⟩
    · have t2 : ((d.waiting.length : Int) > 200) := by omega
      have hst : Hid _ := DD.ok_no2 h2
      go_enter Try.func38, Try.ntmps38
      go_wp2
      go_ret
      exact ⟨by rw [hst.out]; rfl, gal (gre _) _⟩
  · have t1 : ((d.blocks.length : Int) != 130) = true := by simp; omega
    have hst : Hid _ := DD.ok_no1 h1
    clear h1
    go_enter Try.func38, Try.ntmps38
    go_wp2
    go_ret
    exact ⟨by rw [hst.out]; rfl, gal (gre _) _⟩

set_option maxRecDepth 100000 in
theorem specDiskOk_any (d : DD) (l : DL) (w : World) (hd : d.Ok) (ha : DAt w l d) :
    Calls Try.prog 36 #[d.val l] w fun e w' => e = .returned (.bool d.ok) ∧ Below w.heap.size w w' := by
  have hbl := hd.bl
  have hwl := hd.wl
  unfold maxLen at hbl hwl
  by_cases h1 : d.blocks.length = 130
  · have t1 : ((d.blocks.length : Int) != 130) = false := by simp; omega
    have h1' : Hid _ := h1
    clear h1
    by_cases h2 : d.waiting.length ≤ 200
    · have t2 : ¬ ((d.waiting.length : Int) > 200) := by omega
      have h2' : Hid _ := h2
      clear h2
      go_enter Try.func36, Try.ntmps36
      go_wp2
      have hA := gal (gre w) (.cells #[.slice l.ba d.blocks.length l.bc, .slice l.wa d.waiting.length l.wc] 50)
      have hX := DBox.new w d l 50
      generalize w.alloc (.cells #[.slice l.ba d.blocks.length l.bc, .slice l.wa d.waiting.length l.wc] 50) = wA at hA hX ⊢
      go_loopw [20] (fun i wr => ∃ k : Nat, k ≤ d.blocks.length ∧ i = .int .i64 k ∧ (d.blocks.take k).all blOk = true ∧ Below wA.heap.size wA wr) (fun i _ => d.blocks.length - (intOf i).toNat)
      case atStart => exact ⟨0, Nat.zero_le _, rfl, rfl, gre _⟩
      case round =>
        obtain ⟨k, hk, rfl, hall, hb⟩ := hrel
        by_cases hlt : k < d.blocks.length
        · obtain ⟨n, b, off, av, cv, hvk, hvm, hba, c0, hva⟩ := (ha.b.grow (gca hA hb)).get hlt
          rw [hba]
          have hnl := (hd.bb n hvm).len
          unfold maxLen at hnl
          have i0 : (0 : Int) ≤ (k : Int) := by omega
          have i1 : (k : Int) < (d.blocks.length : Int) := by omega
          have hall' : Hid _ := hall
          clear hall
          by_cases h64 : n.length = 64
          · have t3 : ((n.length : Int) != 64) = false := by simp; omega
            have hst : Hid ((d.blocks.take (k + 1)).all blOk = true) := by show _ = _; rw [dall_take_succ _ _ _ hlt, hall'.out, ← hvk.out]; simp [blOk, h64]
            clear h64
            go_wp2
            go_roundw
            case rel => exact ⟨k + 1, by omega, by go_num, hst.out, hb⟩
            case measure => simp [intOf]; omega
          · have t3 : ((n.length : Int) != 64) = true := by simp; omega
            have hst : Hid (d.blocks.all blOk = false) := all_take_false _ _ k hlt (by rw [← hvk.out]; simp [blOk, h64])
            clear h64
            go_wp2
            go_ret
            exact ⟨by rw [DD.ok_no3 hst.out]; rfl, gca hA hb⟩
        · have e : k = d.blocks.length := by omega
          subst e
          rw [List.take_length] at hall
          have hall' : Hid _ := hall
          have hX2 := hX.grow hb
          have x0 := hX2.c0
          have x1 := hX2.c1
          clear hall
          have hB := gca hA hb
          clear hb hX2
          rename World => wB
          go_wp2
          go_loopw [31] (fun i wr2 => ∃ k : Nat, k ≤ d.waiting.length ∧ i = .int .i64 k ∧ (d.waiting.take k).all wrOk = true ∧ Below wB.heap.size wB wr2) (fun i _ => d.waiting.length - (intOf i).toNat)
          case atStart => exact ⟨0, Nat.zero_le _, rfl, rfl, gre _⟩
          case round =>
            obtain ⟨k, hk, rfl, hall, hb⟩ := hrel
            by_cases hlt : k < d.waiting.length
            · obtain ⟨n, b, off, av, cv, hvk, hvm, hba, c0, c1, hva⟩ := (ha.w.grow (gca hB hb)).get hlt
              rw [hba]
              have i0 : (0 : Int) ≤ (k : Int) := by omega
              have i1 : (k : Int) < (d.waiting.length : Int) := by omega
              have hni := hd.wi n hvm
              have hnl := (hd.wb n hvm).len
              have hall2 : Hid _ := hall
              clear hall
              by_cases g0 : n.block < 0
              · have hst : Hid (d.waiting.all wrOk = false) := all_take_false _ _ k hlt (by rw [← hvk.out]; simp [wrOk]; omega)
                go_wp2
                go_ret
                exact ⟨by rw [DD.ok_no4 hst.out]; rfl, by first | exact gca hB hb | exact gca hB (gal hb _) | exact gca hB (gse (gse (gal hb _) (by simp) _) (by simp) _)⟩
              · by_cases g1 : n.block ≥ 130
                · have hst : Hid (d.waiting.all wrOk = false) := all_take_false _ _ k hlt (by rw [← hvk.out]; simp [wrOk]; omega)
                  go_wp2
                  go_ret
                  exact ⟨by rw [DD.ok_no4 hst.out]; rfl, by first | exact gca hB hb | exact gca hB (gal hb _) | exact gca hB (gse (gse (gal hb _) (by simp) _) (by simp) _)⟩
                · unfold maxLen at hnl
                  by_cases g2 : n.bytes.length = 64
                  · have t3 : ((n.bytes.length : Int) != 64) = false := by simp; omega
                    have hst : Hid ((d.waiting.take (k + 1)).all wrOk = true) := by show _ = _; rw [dall_take_succ _ _ _ hlt, hall2.out, ← hvk.out]; simp [wrOk, g2]; omega
                    clear g2
                    go_wp2
                    go_roundw
                    case rel => exact ⟨k + 1, by omega, by go_num, hst.out, by first | exact hb | exact gal hb _ | exact gse (gse (gal hb _) (by simp) _) (by simp) _⟩
                    case measure => simp [intOf]; omega
                  · have t3 : ((n.bytes.length : Int) != 64) = true := by simp; omega
                    have hst : Hid (d.waiting.all wrOk = false) := all_take_false _ _ k hlt (by rw [← hvk.out]; simp [wrOk, g2])
                    clear g2
                    go_wp2
                    go_ret
                    exact ⟨by rw [DD.ok_no4 hst.out]; rfl, by first | exact gca hB hb | exact gca hB (gal hb _) | exact gca hB (gse (gse (gal hb _) (by simp) _) (by simp) _)⟩
            · have e : k = d.waiting.length := by omega
              subst e
              rw [List.take_length] at hall
              have hall2 : Hid _ := hall
              clear hall
              go_wp2
              go_ret
              exact ⟨by rw [DD.ok_yes h1'.out h2'.out hall'.out hall2.out]; rfl, gca hB hb⟩
    · have t2 : ((d.waiting.length : Int) > 200) := by omega
      have hst : Hid _ := DD.ok_no2 h2
      go_enter Try.func36, Try.ntmps36
      go_wp2
      go_ret
      exact ⟨by rw [hst.out]; rfl, gal (gre _) _⟩
  · have t1 : ((d.blocks.length : Int) != 130) = true := by simp; omega
    have hst : Hid _ := DD.ok_no1 h1
    clear h1
    go_enter Try.func36, Try.ntmps36
    go_wp2
    go_ret
    exact ⟨by rw [hst.out]; rfl, gal (gre _) _⟩

end Go.Proofs.Ythjddpkegooobab

/-
  SRD: the specification's reading of blocks. Own work.
-/
namespace Go.Proofs.Ythjddpkegooobab
open Go.RowKit

/-- bytes that are handed back -/
def BPost (ys : List Nat) (w : World) (e : Ending) (w' : World) : Prop := ∃ oa c, e = .returned (.slice oa ys.length c) ∧ BytesAt w' oa ys ∧ Below w.heap.size w w'

/-- bytes that are handed back, in memory of their own -/
def OPost (ys : List Nat) (w : World) (e : Ending) (w' : World) : Prop := ∃ oa c, e = .returned (.slice oa ys.length c) ∧ w'.ownsRow w.heap.size 5 1 (.slice oa ys.length c) ys.length (bcells ys) ∧ Below w.heap.size w w'

set_option maxRecDepth 100000 in
theorem l3read_own (d : DD) (l : DL) (m : Nat) (w : World) (hd : d.Fit) (ha : DAt w l d) (hm : m < 130) : Calls Try.prog 109 #[d.val l, .int .i64 (m : Int)] w (OPost (readN d.blocks d.waiting (m : Int) d.waiting.length) w) := by
  obtain ⟨ys, hys⟩ := hid_ex (readN d.blocks d.waiting (m : Int) d.waiting.length)
  rw [← hys.out]
  have hA := gal (gre w) (.cells #[.slice l.ba d.blocks.length l.bc, .slice l.wa d.waiting.length l.wc] 50)
  have hX0 := DBox.new w d l 50
  have hwl := hd.wl
  go_enter Try.func109, Try.ntmps109
  go_wp2
  generalize w.alloc (.cells #[.slice l.ba d.blocks.length l.bc, .slice l.wa d.waiting.length l.wc] 50) = wA at hA hX0 ⊢
  go_loopw [5] (fun i wr => ∃ j : Nat, j ≤ d.waiting.length ∧ i = .int .i64 ((j : Int) - 1) ∧ Hid (ys = readN d.blocks d.waiting (m : Int) j) ∧ Below wA.heap.size wA wr) (fun i _ => (intOf i + 1).toNat)
  case atStart => exact ⟨d.waiting.length, Nat.le_refl _, by go_num, hys, gre _⟩
  case round =>
    obtain ⟨j, hj, rfl, hr, hb⟩ := hrel
    have hX := hX0.grow hb
    have x0 := hX.c0
    have x1 := hX.c1
    have hB := gca hA hb
    cases j with
    | zero =>
      have hlt : m < d.blocks.length := by rw [hd.bl]; exact hm
      obtain ⟨n, b, off, av, cv, hvk, hvm, hba, c0, hva⟩ := (ha.b.grow hB).get hlt
      rw [hba] at x0
      have hn64 := hd.bb n hvm
      have hyn : Hid (ys = n) := by show _ = _; rw [hr.out, hvk.out]; simp [readN]
      have i0 : (0 : Int) ≤ (m : Int) := by omega
      have i1 : (m : Int) < (d.blocks.length : Int) := by omega
      have hn64' : Hid _ := hn64
      clear hn64
      rw [show ((0 : Nat) : Int) - 1 = -1 by rfl]
      go_wp2_with (go_at_call 103; refine (l2copy_any av n cv _ (by rw [hn64'.out]; decide) hva).mono ?_; rintro e w2 ⟨oa, oc, rfl, hown, hb2⟩)
      go_ret
      exact ⟨oa, oc, by rw [hyn.out]; rfl, by rw [hyn.out]; exact owns_le hown hB.size, gca hB hb2⟩
    | succ k =>
      have hlt : k < d.waiting.length := by omega
      obtain ⟨n, b, off, av, cv, hvk, hvm, hba, c0, c1, hva⟩ := (ha.w.grow hB).get hlt
      rw [hba] at x1
      have hn64 := (hd.wb n hvm).2.2
      have i0 : (0 : Int) ≤ (k : Int) := by omega
      have i1 : (k : Int) < (d.waiting.length : Int) := by omega
      have i2 : ((k : Int) ≥ 0) := by omega
      have hn64' : Hid _ := hn64
      clear hn64
      rw [show ((k + 1 : Nat) : Int) - 1 = (k : Int) by omega]
      by_cases heq : n.block = (m : Int)
      · have t1 : (n.block == (m : Int)) = true := by simp [heq]
        have hyn : Hid (ys = n.bytes) := by show _ = _; rw [hr.out]; simp only [readN]; rw [← hvk.out, if_pos heq]
        have heq' : Hid _ := heq
        clear heq
        go_wp2_with (go_at_call 103; refine (l2copy_any av n.bytes cv _ (by rw [hn64'.out]; decide) hva).mono ?_; rintro e w2 ⟨oa, oc, rfl, hown, hb2⟩)
        go_ret
        exact ⟨oa, oc, by rw [hyn.out]; rfl, by rw [hyn.out]; exact owns_le hown hB.size, gca hB hb2⟩
      · have t1 : (n.block == (m : Int)) = false := by simpa using heq
        have hst : Hid (ys = readN d.blocks d.waiting (m : Int) k) := by show _ = _; rw [hr.out]; simp only [readN]; rw [← hvk.out, if_neg heq]
        clear heq
        go_wp2
        go_roundw
        case rel => exact ⟨k, by omega, by go_num, hst, hb⟩
        case measure => first | (simp [intOf]; done) | (simp [intOf]; omega)

theorem l3read_any (d : DD) (l : DL) (m : Nat) (w : World) (hd : d.Fit) (ha : DAt w l d) (hm : m < 130) : Calls Try.prog 109 #[d.val l, .int .i64 (m : Int)] w (BPost (readN d.blocks d.waiting (m : Int) d.waiting.length) w) :=
  (l3read_own d l m w hd ha hm).mono fun _ _ ⟨oa, c, h1, h2, h3⟩ => ⟨oa, c, h1, owns_bytes h2, h3⟩

theorem read_no1 {d : DD} {b : Int} (h : d.ok = false) : d.read b = [] := by simp [DD.read, h]
theorem read_no2 {d : DD} {b : Int} (h : (decide (0 ≤ b) && decide (b < 130)) = false) : d.read b = [] := by simp only [DD.read, h, Bool.and_false]; rfl
theorem read_yes {d : DD} {m : Nat} (h : d.ok = true) (hm : m < 130) : d.read (m : Int) = readN d.blocks d.waiting (m : Int) d.waiting.length := by
  have h2 : (decide (0 ≤ (m : Int)) && decide ((m : Int) < 130)) = true := by simp; omega
  simp only [DD.read, h, h2, Bool.and_self, if_true]

end Go.Proofs.Ythjddpkegooobab

/-
  SREAD: the specification's Read. Own work.
-/
namespace Go.Proofs.Ythjddpkegooobab
open Go.RowKit

set_option maxRecDepth 100000 in
theorem specRead_any (d : DD) (l : DL) (b : Int) (w : World) (hd : d.Ok) (ha : DAt w l d) (_hb : I64 b) : Calls Try.prog 43 #[d.val l, .int .i64 b] w (BPost (d.read b) w) := by
  have hA := gal (gre w) (.cells #[.slice l.ba d.blocks.length l.bc, .slice l.wa d.waiting.length l.wc] 50)
  have hX0 := DBox.new w d l 50
  cases hok : d.ok with
  | false =>
    have hok' : Hid _ := hok
    clear hok
    rw [read_no1 hok'.out]
    go_enter Try.func43, Try.ntmps43
    go_wp2_with (go_at_call 36; refine (specDiskOk_any d l _ hd (ha.grow hA)).mono ?_; rintro e w2 ⟨rfl, hb2⟩; rw [hok'.out])
    go_ret
    exact ⟨none, 0, rfl, fun i hi => absurd hi (Nat.not_lt_zero _), gca hA hb2⟩
  | true =>
    have hok' : Hid _ := hok
    clear hok
    by_cases g0 : b < 0
    · rw [read_no2 (by simp; omega)]
      go_enter Try.func43, Try.ntmps43
      go_wp2_with (go_at_call 36; refine (specDiskOk_any d l _ hd (ha.grow hA)).mono ?_; rintro e w2 ⟨rfl, hb2⟩; rw [hok'.out])
      go_ret
      exact ⟨none, 0, rfl, fun i hi => absurd hi (Nat.not_lt_zero _), gca hA hb2⟩
    · by_cases g1 : b ≥ 130
      · rw [read_no2 (by simp; omega)]
        go_enter Try.func43, Try.ntmps43
        go_wp2_with (go_at_call 36; refine (specDiskOk_any d l _ hd (ha.grow hA)).mono ?_; rintro e w2 ⟨rfl, hb2⟩; rw [hok'.out])
        go_ret
        exact ⟨none, 0, rfl, fun i hi => absurd hi (Nat.not_lt_zero _), gca hA hb2⟩
      · obtain ⟨m, rfl⟩ : ∃ m : Nat, b = (m : Int) := ⟨b.toNat, by omega⟩
        have hm : m < 130 := by omega
        rw [read_yes hok'.out hm]
        obtain ⟨ys, hys⟩ := hid_ex (readN d.blocks d.waiting (m : Int) d.waiting.length)
        rw [← hys.out]
        go_enter Try.func43, Try.ntmps43
        go_wp2_with (first
          | (go_at_call 36; refine (specDiskOk_any d l _ hd (ha.grow hA)).mono ?_; rintro e w2 ⟨rfl, hb2⟩; rw [hok'.out]; obtain ⟨_, x0, x1⟩ := hX0.grow hb2)
          | (go_at_call 109; refine (l3read_any d l m _ (DD.fit hok'.out) (ha.grow (gca hA hb2)) hm).mono ?_; rw [← hys.out]; rintro e w3 ⟨oa, oc, rfl, hat, hb3⟩))
        go_ret
        exact ⟨oa, oc, rfl, hat, gca (gca hA hb2) hb3⟩

end Go.Proofs.Ythjddpkegooobab

/-
  BYTESA: the laws' bytes. Own work.
-/
namespace Go.Proofs.Ythjddpkegooobab
open Go.RowKit

set_option maxRecDepth 100000 in
theorem toByteS_any (a : Option Addr) (bs : List Nat) (cap : Nat) (w : World) (hl : bs.length ≤ 1048576) (ha : BytesAt w a bs) :
    Calls Try.prog 25 #[.slice a bs.length cap] w fun e w' => ∃ b, e = .returned (.slice (some ⟨b, 0, none⟩) bs.length bs.length) ∧ w.heap.size ≤ b ∧ BRow w' b bs.length bs ∧ Below w.heap.size w w' := by
  obtain ⟨i0, hi, hz0, hz1, hz2⟩ := info_parts info_u8
  have hmk : ∀ u : World, (Instr.makeSlice 28 (.int .i64 (bs.length : Int)) (.int .i64 (bs.length : Int))).run Try.prog u =
      .ok (.slice (some ⟨u.heap.size, 0, none⟩) bs.length bs.length) (u.alloc (.cells (madeCells #[.int .u8 0] bs.length) 5)) := fun u => by
    have h := run_make (P := Try.prog) u 28 5 i0 _ Try.underlying28 hi hz0 .i64 .i64 (bs.length : Int) (bs.length : Int) (by omega) (Int.le_refl _) (by rw [hz2]; omega) (by omega)
    simpa [hz1, Value.cells] using h
  go_enter Try.func25, Try.ntmps25
  go_wp2
  go_loopw [4] (fun i wr => ∃ (k : Nat) (f : Nat → Value), k ≤ bs.length ∧ i = .int .i64 k ∧ wr.rowIs w.heap.size 5 bs.length f ∧ (∀ j, j < k → f j = .int .u8 ((bs[j]! : Nat) : Int)) ∧ Below w.heap.size w wr) (fun i _ => bs.length - (intOf i).toNat)
  case atStart => exact ⟨0, _, Nat.zero_le _, rfl, rowIs_made_any _ _ _ _, fun i hi => absurd hi (Nat.not_lt_zero _), (Below.refl _ _).alloc (Nat.le_refl _) _⟩
  case round =>
    obtain ⟨k, f, hk, rfl, hrow, hin, hb⟩ := hrel
    by_cases hlt : k < bs.length
    · obtain ⟨x, b, off, hxk, hxm, rfl, hc⟩ := (ha.grow hb).get hlt
      have d0 := hrow.cell hlt
      have f0 := hrow.frozen
      go_wp2
      go_roundw
      case rel =>
        refine ⟨k + 1, _, by omega, by go_num, hrow.set _ _, fun j hj => ?_, hb.setCell (Nat.le_refl _) _⟩
        show (if j = k then _ else _) = _
        split
        · rename_i e; rw [e, ← hxk.out]
        · exact hin j (by omega)
      case measure => simp [intOf]; omega
    · go_wp2
      go_ret
      have e : k = bs.length := by omega
      subst e
      exact ⟨_, rfl, Nat.le_refl _, BRow.of_row hrow (Nat.le_refl _) hin, hb⟩

set_option maxRecDepth 100000 in
theorem eqByteS_same (a a' : Option Addr) (bs : List Nat) (cap cap' : Nat) (w : World) (hl : bs.length ≤ maxLen) (ha : BytesAt w a bs) (ha' : BytesAt w a' bs) :
    Calls Try.prog 19 #[.slice a bs.length cap, .slice a' bs.length cap'] w fun e w' => e = .returned (.bool true) ∧ Below w.heap.size w w' := by
  unfold maxLen at hl
  have hne : ((bs.length : Int) != (bs.length : Int)) = false := by simp
  go_enter Try.func19, Try.ntmps19
  go_wp2
  go_loopw [5] (fun i wr => ∃ (k : Nat), k ≤ bs.length ∧ i = .int .i64 k ∧ Below w.heap.size w wr) (fun i _ => bs.length - (intOf i).toNat)
  case atStart => exact ⟨0, Nat.zero_le _, rfl, gre _⟩
  case round =>
    obtain ⟨k, hk, rfl, hb⟩ := hrel
    by_cases hlt : k < bs.length
    · obtain ⟨x, b, off, hxk, hxm, rfl, hc⟩ := (ha.grow hb).get hlt
      obtain ⟨y, b', off', hyk, hym, rfl, hc'⟩ := (ha'.grow hb).get hlt
      obtain rfl : y = x := by rw [hyk.out, hxk.out]
      have hn2 : ((y : Int) != (y : Int)) = false := by simp
      go_wp2_with (go_quiet (fail))
      go_roundw
      case rel => exact ⟨k + 1, by omega, by go_num, hb.trans ⟨rfl, rfl, rfl, Nat.le_refl _, fun _ _ => rfl⟩⟩
      case measure => simp [intOf]; omega
    · go_wp2
      go_ret
      exact ⟨rfl, hb⟩

end Go.Proofs.Ythjddpkegooobab

/-
  BYTES: the laws' bytes, marked. Own work.
-/
namespace Go.Proofs.Ythjddpkegooobab
open Go.RowKit

def marksB (k n : Nat) : List Nat := (List.range n).map fun j => (k + j) % 256
set_option maxRecDepth 100000 in
theorem marksB_length (k n : Nat) : (marksB k n).length = n := by simp [marksB]
theorem marksB_get {k n i : Nat} (h : i < n) : (marksB k n)[i]! = (k + i) % 256 := by
  rw [getElem!_pos _ i (by rw [marksB_length]; exact h)]
  simp [marksB]

set_option maxRecDepth 100000 in
theorem markByteS_any (oa : Option Addr) (bs : List Nat) (cap k lo : Nat) (w : World) (hl : bs.length ≤ 1048576) (hk : k ≤ 1099511627776) (hM : MB w lo oa bs) :
    Calls Try.prog 22 #[.slice oa bs.length cap, .int .i64 k] w fun e w' => e = .returned (.int .i64 ((k + bs.length : Nat) : Int)) ∧ MB w' lo oa (marksB k bs.length) ∧ Kept (fun b => lo ≤ b ∧ oa = some ⟨b, 0, none⟩) w w' := by
  rcases hM with rfl | ⟨G, n, rfl, hG, hB⟩
  · go_enter Try.func22, Try.ntmps22
    go_wp2
    go_loopw [1, 5] (fun c i wr => c = .int .i64 k ∧ i = .int .i64 0 ∧ wr = w) (fun _ _ _ => 0)
    case atStart => exact ⟨rfl, rfl, rfl⟩
    case round =>
      obtain ⟨rfl, rfl, rfl⟩ := hrel
      go_wp2
      go_ret
      exact ⟨rfl, Or.inl rfl, Kept.refl _ _⟩
  · obtain ⟨f0, hr0, _⟩ := hB.row
    have hln : bs.length ≤ n := by obtain ⟨c, _, _, hl, _⟩ := hB; exact hl
    go_enter Try.func22, Try.ntmps22
    go_wp2
    go_loopw [1, 5] (fun c i wr => ∃ (m : Nat) (f : Nat → Value), m ≤ bs.length ∧ c = .int .i64 ((k + m : Nat) : Int) ∧ i = .int .i64 m ∧ wr.rowIs G 5 n f ∧ (∀ j, j < m → f j = .int .u8 (((k + j) % 256 : Nat) : Int)) ∧ Kept (fun b => b = G) w wr) (fun _ i _ => bs.length - (intOf i).toNat)
    case atStart => exact ⟨0, f0, Nat.zero_le _, rfl, rfl, hr0, fun j hj => absurd hj (Nat.not_lt_zero _), Kept.refl _ _⟩
    case round =>
      obtain ⟨m, f, hm, rfl, rfl, hrow, hin, hK⟩ := hrel
      obtain ⟨q, hq⟩ := hid_ex (k + m)
      rw [← hq.out]
      have hq1 : q ≤ 2199023255552 := by rw [hq.out]; omega
      by_cases hlt : m < bs.length
      · have d0 := hrow.cell (i := m) (by omega)
        have fz := hrow.frozen
        obtain ⟨x, hx⟩ := hid_ex (q % 256)
        have e2 : IntKind.u8.wrap (q : Int) = (x : Int) := by rw [hx.out, IntKind.wrap_u8']; omega
        go_wp2
        go_roundw
        case rel =>
          refine ⟨m + 1, _, by omega, ?_, by go_num, hrow.set _ _, fun j hj => ?_, hK.set (fun _ => rfl) _⟩
          · have : q + 1 = k + (m + 1) := by rw [hq.out]; omega
            rw [← this]; go_num
          · show (if j = m then _ else _) = _
            split
            · rename_i e; rw [e, hx.out, hq.out]
            · exact hin j (by omega)
        case measure => simp [intOf]; omega
      · obtain rfl : m = bs.length := by omega
        go_wp2
        go_ret
        refine ⟨by rw [← hq.out]; rfl, Or.inr ⟨G, n, rfl, hG, BRow.of_row hrow (by rw [marksB_length]; exact hln) (fun i hi => ?_)⟩, hK.mono (fun b _ e => by subst e; exact ⟨hG, rfl⟩)⟩
        rw [marksB_length] at hi
        rw [marksB_get hi]; exact hin i hi

set_option maxRecDepth 100000 in
theorem heldByteS_any (oa : Option Addr) (n cap k : Nat) (w : World) (hl : n ≤ 1048576) (hk : k ≤ 1099511627776) (hM : BytesAt w oa (marksB k n)) :
    Calls Try.prog 23 #[.slice oa n cap, .int .i64 k] w fun e w' => e = .returned (.int .i64 ((k + n : Nat) : Int)) ∧ Below w.heap.size w w' := by
  go_enter Try.func23, Try.ntmps23
  go_wp2
  go_loopw [1, 5] (fun c i wr => ∃ (m : Nat), m ≤ n ∧ c = .int .i64 ((k + m : Nat) : Int) ∧ i = .int .i64 m ∧ Below w.heap.size w wr) (fun _ i _ => n - (intOf i).toNat)
  case atStart => exact ⟨0, Nat.zero_le _, rfl, rfl, gre _⟩
  case round =>
    obtain ⟨m, hm, rfl, rfl, hb⟩ := hrel
    obtain ⟨q, hq⟩ := hid_ex (k + m)
    rw [← hq.out]
    have hq1 : q ≤ 2199023255552 := by rw [hq.out]; omega
    by_cases hlt : m < n
    · obtain ⟨x, b, off, hxk, hxm, rfl, hc⟩ := (hM.grow hb).get (k := m) (by rw [marksB_length]; exact hlt)
      have hx2 : Hid (x = q % 256) := by show _ = _; rw [hxk.out, marksB_get hlt, hq.out]
      have e2 : IntKind.u8.wrap (q : Int) = (x : Int) := by rw [hx2.out, IntKind.wrap_u8']; omega
      have hn2 : ((x : Int) != (x : Int)) = false := by simp
      go_wp2
      go_roundw
      case rel =>
        refine ⟨m + 1, by omega, ?_, by go_num, hb⟩
        have : q + 1 = k + (m + 1) := by rw [hq.out]; omega
        rw [← this]; go_num
      case measure => simp [intOf]; omega
    · obtain rfl : m = n := by omega
      go_wp2
      go_ret
      exact ⟨by rw [← hq.out]; rfl, hb⟩

end Go.Proofs.Ythjddpkegooobab
