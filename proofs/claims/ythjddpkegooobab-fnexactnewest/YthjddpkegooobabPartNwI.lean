import Derived.Test.YthjddpkegooobabPartNwH

/-
  DRVG: where the disk's writes stand. Own work.
-/
namespace Go.Proofs.Ythjddpkegooobab
open Go.RowKit

/-- a write, and where its bytes lie -/
structure LW where
  x : DW
  a : Option Addr
  cap : Nat
  deriving Inhabited
def LW.two (y : LW) : List Value := [.int .i64 y.x.block, .slice y.a y.x.bytes.length y.cap]
theorem LW.two_length (y : LW) : y.two.length = 2 := rfl
def wCells (l : List LW) : List Value := l.flatMap LW.two
theorem wCells_snoc (l : List LW) (y : LW) : wCells (l ++ [y]) = wCells l ++ [.int .i64 y.x.block, .slice y.a y.x.bytes.length y.cap] := by simp [wCells, LW.two]
theorem wCells_get : ∀ (l : List LW) (i j : Nat), i < l.length → j < 2 → (wCells l)[i * 2 + j]? = (l[i]!.two)[j]?
  | [], _, _, hi, _ => absurd hi (Nat.not_lt_zero _)
  | x :: r, 0, j, _, hj => by
    rw [wCells, List.flatMap_cons, Nat.zero_mul, Nat.zero_add, List.getElem?_append_left (by rw [LW.two_length]; exact hj)]
    rfl
  | x :: r, i + 1, j, hi, hj => by
    have hlt : i < r.length := by simpa using hi
    have ih := wCells_get r i j hlt hj
    rw [wCells, List.flatMap_cons, List.getElem?_append_right (by rw [LW.two_length, Nat.add_mul]; omega), LW.two_length, show (i + 1) * 2 + j - 2 = i * 2 + j by rw [Nat.add_mul]; omega]
    rw [wCells] at ih
    rw [ih, getElem!_pos r i hlt, getElem!_pos (x :: r) (i + 1) hi]
    rfl

theorem owns_isW {w : World} {base size n cap : Nat} {a : Option Addr} {xs : List Value} (h : w.ownsRow base 133 size (.slice a n cap) n xs) {z : Nat} (hz : (Value.slice a n cap).ownBlock = some z) : IsW w z ∧ base ≤ z := by
  have ha := owns_addr h hz
  rcases h.2 with ⟨e, _⟩ | ⟨g, cap', cur, hv, hb, hg, _⟩
  · simp at e
    rw [e.1] at ha
    cases ha
  · simp only [Value.slice.injEq] at hv
    rw [ha] at hv
    obtain rfl := some_addr hv.1
    exact ⟨⟨cur, hg⟩, hb⟩
theorem owns_row {w : World} {base t size n cap : Nat} {a : Option Addr} {xs : List Value} (h : w.ownsRow base t size (.slice a n cap) n xs) (hn : 0 < n) : ∃ g f, a = some ⟨g, 0, none⟩ ∧ base ≤ g ∧ g < w.heap.size ∧ w.rowIs g t (cap * size) f ∧ n ≤ cap ∧ ∀ i u, xs[i]? = some u → f i = u := by
  have hc0 := h
  rcases h.2 with ⟨_, e⟩ | ⟨g, cap', cur, hv, hb, hg, h1, h2, h3, h4⟩
  · omega
  · simp only [Value.slice.injEq] at hv
    obtain ⟨rfl, _, rfl⟩ := hv
    refine ⟨g, fun i => cur[i]!, rfl, hb, (Array.getElem?_eq_some_iff.1 hg).1, ⟨cur, hg, h3, fun i hi => ?_⟩, h1, fun i u hu => ?_⟩
    · show cur[i]? = some cur[i]!
      rw [getElem!_pos cur i (by omega)]; exact Array.getElem?_eq_getElem (by omega)
    · obtain ⟨g', ha', _, _, hc⟩ := owns_cell hc0 hu
      obtain rfl := some_addr ha'
      have hc' : cur[i]? = some u := by simpa [World.cell?, hg] using hc
      show cur[i]! = u
      have hlt := (Array.getElem?_eq_some_iff.1 hc').1
      rw [getElem!_pos cur i hlt]
      rw [Array.getElem?_eq_getElem hlt] at hc'
      exact Option.some.inj hc'

/-- where the disk's writes stand -/
structure DkW (w wr : World) (N V : Nat) (bl : List (List Nat)) (f : Nat → Value) (bs cs : Nat → Nat) (va : Option Addr) (vc : Nat) (lw : List LW) (gs : Nat → Nat) : Prop where
  dk : DkB w wr N V (.slice va lw.length vc) bl 130 f bs cs
  own : wr.ownsRow (V + 1) 133 2 (.slice va lw.length vc) lw.length (wCells lw)
  byt : ∀ i, i < lw.length → lw[i]!.a = some ⟨gs i, 0, none⟩ ∧ BRow wr (gs i) lw[i]!.cap lw[i]!.x.bytes ∧ V < gs i ∧ (∀ j, j < 130 → bs j < gs i) ∧ ∀ j, j < i → gs j < gs i
theorem DkW.grow {w wr w' : World} {N V : Nat} {bl : List (List Nat)} {f : Nat → Value} {bs cs : Nat → Nat} {va : Option Addr} {vc : Nat} {lw : List LW} {gs : Nat → Nat} (h : DkW w wr N V bl f bs cs va vc lw gs) (hb : Below wr.heap.size wr w') : DkW w w' N V bl f bs cs va vc lw gs :=
  ⟨h.dk.grow hb, (Kept.of_below hb (fun _ => False)).owns h.own (fun _ _ e => e), fun i hi => let ⟨h1, h2, h3⟩ := h.byt i hi; ⟨h1, h2.of_block (hb.block _ h2.lt), h3⟩⟩
theorem snoc_at {α : Type} [Inhabited α] (l : List α) (y : α) (i : Nat) (hi : i < (l ++ [y]).length) : (l ++ [y])[i]! = if i = l.length then y else l[i]! := by
  have hi' : i < l.length + 1 := by simpa using hi
  rw [getElem!_pos _ i hi]
  by_cases h : i = l.length
  · subst h; simp
  · rw [if_neg h, List.getElem_append_left (by omega), getElem!_pos l i (by omega)]
theorem DkW.step {w wr w5 : World} {N V : Nat} {bl : List (List Nat)} {f : Nat → Value} {bs cs : Nat → Nat} {va : Option Addr} {vc : Nat} {lw : List LW} {gs : Nat → Nat} (h : DkW w wr N V bl f bs cs va vc lw gs)
    {G gcap gg cc : Nat} {x : DW} (hG : BRow wr G gcap x.bytes) (hVG : V < G) (hbs : ∀ j, j < 130 → bs j < G) (hgs : ∀ j, j < lw.length → gs j < G)
    (hown : w5.ownsRow (V + 1) 133 2 (.slice (some ⟨gg, 0, none⟩) (lw.length + 1) cc) (lw.length + 1) (wCells lw ++ [.int .i64 x.block, .slice (some ⟨G, 0, none⟩) x.bytes.length gcap])) (hgrow : wr.grownBy w5 (Value.slice va lw.length vc).ownBlock) :
    DkW w (w5.setCell ⟨V, 1, none⟩ (.slice (some ⟨gg, 0, none⟩) (lw.length + 1) cc)) N V bl f bs cs (some ⟨gg, 0, none⟩) cc (lw ++ [⟨x, some ⟨G, 0, none⟩, gcap⟩]) (fun i => if i = lw.length then G else gs i) := by
  have K1 := Kept.of_grown hgrow
  have hz : ∀ z, (Value.slice va lw.length vc).ownBlock = some z → IsW wr z ∧ V + 1 ≤ z := fun z hz => owns_isW h.own hz
  have hnv := h.dk.nv
  have hlo := h.dk.lo
  have K2 := (Kept.refl (fun b => b = V) w5).set (a := ⟨V, 1, none⟩) (fun _ => rfl) (.slice (some ⟨gg, 0, none⟩) (lw.length + 1) cc)
  have hB : ∀ {G' n' : Nat} {ys : List Nat}, BRow wr G' n' ys → V < G' → BRow (w5.setCell ⟨V, 1, none⟩ (.slice (some ⟨gg, 0, none⟩) (lw.length + 1) cc)) G' n' ys := fun hb hv => (hb.kept K1 (fun e => not_B_of_W (hz _ e).1 hb.isB)).kept K2 (fun e => by omega)
  have hVz : ¬ (Value.slice va lw.length vc).ownBlock = some V := fun e => by have := (hz V e).2; omega
  have hNz : ¬ (Value.slice va lw.length vc).ownBlock = some N := fun e => by have := (hz N e).2; omega
  have c1 := K1.cell h.dk.v1 hVz
  refine ⟨⟨K2.rowIs (K1.rowIs h.dk.row hNz) (by omega), fun i hi => ?_, (World.cell?_setCell_other _ _ _ _ (by simp)).trans (K1.cell h.dk.v0 hVz), ?_, fun o => ?_, ?_, hlo, hnv⟩, ?_, fun i hi => ?_⟩
  · obtain ⟨h1, h2, h3, h4⟩ := h.dk.fs i hi
    exact ⟨h1, hB h2 h3, h3, h4⟩
  · rw [List.length_append]; exact World.cell?_setCell_same _ _ _ c1
  · rw [World.frozen?_setCell]
    exact (World.frozen?_of_block (w := wr) (a := ⟨V, o, none⟩) (K1.block V (World.block_lt_of_cell? wr ⟨V, 0, none⟩ h.dk.v0) hVz)).trans (h.dk.vf o)
  · exact (h.dk.bel.trans (K1.below (Nat.le_trans h.dk.bel.size (Nat.le_refl _)) (fun k hk e => by have := (hz k e).2; omega))).trans (K2.below (by have := h.dk.bel.size; have := K1.size; omega) (fun k hk e => by omega))
  · rw [wCells_snoc, List.length_append]
    exact K2.owns hown (fun z hz2 e => by have := (hown.lt z hz2).1; omega)
  · rw [List.length_append] at hi
    rw [snoc_at _ _ _ (by rw [List.length_append]; exact hi)]
    by_cases e : i = lw.length
    · subst e
      simp only [if_true]
      refine ⟨trivial, hB hG hVG, hVG, hbs, fun j hj => ?_⟩
      rw [if_neg (by omega)]; exact hgs j hj
    · simp only [if_neg e]
      obtain ⟨h1, h2, h3, h4, h5⟩ := h.byt i (by simp at hi; omega)
      refine ⟨h1, hB h2 h3, h3, h4, fun j hj => ?_⟩
      rw [if_neg (by simp at hi; omega)]; exact h5 j hj

/-- the disk is done -/
theorem DkW.md {w wr : World} {N V : Nat} {bl : List (List Nat)} {f : Nat → Value} {bs cs : Nat → Nat} {va : Option Addr} {vc : Nat} {lw : List LW} {gs : Nat → Nat} (h : DkW w wr N V bl f bs cs va vc lw gs) (hlen : bl.length = 130) (h64 : ∀ x, x ∈ bl → x.length = 64) :
    MD wr w.heap.size wr.heap.size ⟨some ⟨N, 0, none⟩, 130, va, vc⟩ ⟨bl, lw.map (·.x)⟩ (fun i => some ⟨bs i, 0, none⟩) (fun i => lw[i]!.a) cs (fun i => lw[i]!.cap) := by
  have hnv := h.dk.nv
  have hlo := h.dk.lo
  have hmap : ∀ i, i < lw.length → (lw.map (·.x))[i]! = lw[i]!.x := fun i hi => by
    rw [getElem!_pos _ i (by simpa using hi), getElem!_pos lw i hi]; simp
  refine ⟨⟨fun _ => ⟨N, 130, f, rfl, hlo, h.dk.row.lt, h.dk.row, by show bl.length ≤ 130; omega, fun i hi => ?_⟩, fun i hi => ?_, fun i j hij hj => ?_⟩, ⟨fun hn => ?_, fun i hi => ?_, fun i j hij hj => ?_⟩, fun i j hi hj => ?_⟩
  · have hi' : i < bl.length := hi
    rw [(h.dk.fs i (by omega)).1, h64 _ (mem_at hi')]
  · have hi' : i < bl.length := hi
    obtain ⟨_, h2, h3, _⟩ := h.dk.fs i (by omega)
    exact Or.inr ⟨bs i, cs i, rfl, by omega, h2.lt, h2⟩
  · intro b e1 e2
    have hj' : j < bl.length := hj
    have := (h.dk.fs j (by omega)).2.2.2 i hij
    have := some_addr e1
    have := some_addr e2
    omega
  · have hn' : 0 < lw.length := by simpa using hn
    obtain ⟨g, f', h1, h2, h3, h4, h5, h6⟩ := owns_row h.own hn'
    refine ⟨g, vc * 2, f', h1, by omega, h3, h4, by simp; omega, fun i hi => ?_⟩
    have hi' : i < lw.length := by simpa using hi
    simp only [hmap i hi']
    exact ⟨h6 _ _ ((wCells_get lw i 0 hi' (by omega)).trans rfl), h6 _ _ ((wCells_get lw i 1 hi' (by omega)).trans rfl)⟩
  · have hi' : i < lw.length := by simpa using hi
    simp only [hmap i hi']
    obtain ⟨h1, h2, h3, _⟩ := h.byt i hi'
    exact Or.inr ⟨gs i, _, h1, by omega, h2.lt, h2⟩
  · have hj' : j < lw.length := by simpa using hj
    intro b e1 e2
    rw [(h.byt i (by omega)).1] at e1
    rw [(h.byt j hj').1] at e2
    have := (h.byt j hj').2.2.2.2 i hij
    have := some_addr e1
    have := some_addr e2
    omega
  · have hi' : i < bl.length := hi
    have hj' : j < lw.length := by simpa using hj
    intro b e1 e2
    rw [(h.byt j hj').1] at e2
    have := (h.byt j hj').2.2.2.1 i (by omega)
    have := some_addr e1
    have := some_addr e2
    omega

/-- the round of the writes -/
def GWInv (w wr : World) (N V : Nat) (bl : List (List Nat)) (f : Nat → Value) (bs cs : Nat → Nat) (ws : List DW) (k : Nat) : Prop :=
  ∃ (va : Option Addr) (vc : Nat) (lw : List LW) (gs : Nat → Nat), Hid (lw.length = k) ∧ Hid (lw.map (·.x) = ws.take k) ∧ DkW w wr N V bl f bs cs va vc lw gs

theorem MBs.mono {w : World} {lo hi lo' hi' : Nat} {a : Option Addr} {n : Nat} {F : Nat → List Nat} {fa : Nat → Option Addr} {fc : Nat → Nat} (h : MBs w lo hi a n F fa fc) (h1 : lo' ≤ lo) (h2 : hi ≤ hi') : MBs w lo' hi' a n F fa fc :=
  ⟨fun h0 => let ⟨g, m, f, a1, a2, a3, a4⟩ := h.row h0; ⟨g, m, f, a1, by omega, by omega, a4⟩, fun i hi => (h.byt i hi).mono h1 h2, h.far⟩
theorem MWs.mono {w : World} {lo hi lo' hi' : Nat} {a : Option Addr} {n : Nat} {B : Nat → Int} {F : Nat → List Nat} {fa : Nat → Option Addr} {fc : Nat → Nat} (h : MWs w lo hi a n B F fa fc) (h1 : lo' ≤ lo) (h2 : hi ≤ hi') : MWs w lo' hi' a n B F fa fc :=
  ⟨fun h0 => let ⟨g, m, f, a1, a2, a3, a4⟩ := h.row h0; ⟨g, m, f, a1, by omega, by omega, a4⟩, fun i hi => (h.byt i hi).mono h1 h2, h.far⟩
theorem MD.mono {w : World} {lo hi lo' hi' : Nat} {l : DL} {d : DD} {fa ga : Nat → Option Addr} {fc gc : Nat → Nat} (h : MD w lo hi l d fa ga fc gc) (h1 : lo' ≤ lo) (h2 : hi ≤ hi') : MD w lo' hi' l d fa ga fc gc := ⟨h.b.mono h1 h2, h.w.mono h1 h2, h.far⟩

end Go.Proofs.Ythjddpkegooobab

/-
  SCOPY: the specification's copy of bytes. Own work.
-/
namespace Go.Proofs.Ythjddpkegooobab
open Go.RowKit

theorem owns_bytes {w : World} {base t cap : Nat} {a : Option Addr} {bs : List Nat} (h : w.ownsRow base t 1 (.slice a bs.length cap) bs.length (bcells bs)) : BytesAt w a bs := fun i hi => by
  obtain ⟨g, ha, _, _, hc⟩ := owns_cell h (bcells_get hi)
  exact ⟨g, 0, ha, by rw [Nat.zero_add]; exact hc⟩
theorem owns_isB {w : World} {base size n cap : Nat} {a : Option Addr} {xs : List Value} (h : w.ownsRow base 5 size (.slice a n cap) n xs) {z : Nat} (hz : (Value.slice a n cap).ownBlock = some z) : IsB w z ∧ base ≤ z := by
  have ha := owns_addr h hz
  rcases h.2 with ⟨e, _⟩ | ⟨g, cap', cur, hv, hb, hg, _⟩
  · simp at e
    rw [e.1] at ha
    cases ha
  · simp only [Value.slice.injEq] at hv
    rw [ha] at hv
    obtain rfl := some_addr hv.1
    exact ⟨⟨cur, hg⟩, hb⟩
/-- a block of lists of bytes -/
def IsS (w : World) (b : Nat) : Prop := ∃ c, w.heap[b]? = some (.cells c 28 (0, 0))
theorem owns_isS {w : World} {base size n cap : Nat} {a : Option Addr} {xs : List Value} (h : w.ownsRow base 28 size (.slice a n cap) n xs) {z : Nat} (hz : (Value.slice a n cap).ownBlock = some z) : IsS w z ∧ base ≤ z := by
  have ha := owns_addr h hz
  rcases h.2 with ⟨e, _⟩ | ⟨g, cap', cur, hv, hb, hg, _⟩
  · simp at e
    rw [e.1] at ha
    cases ha
  · simp only [Value.slice.injEq] at hv
    rw [ha] at hv
    obtain rfl := some_addr hv.1
    exact ⟨⟨cur, hg⟩, hb⟩
theorem not_B_of_S {w : World} {b : Nat} (h : IsS w b) : ¬ IsB w b := fun ⟨c, hc⟩ => by
  obtain ⟨c', hc'⟩ := h
  rw [hc] at hc'
  simp at hc'
theorem not_W_of_S {w : World} {b : Nat} (h : IsS w b) : ¬ IsW w b := fun ⟨c, hc⟩ => by
  obtain ⟨c', hc'⟩ := h
  rw [hc] at hc'
  simp at hc'

set_option maxRecDepth 100000 in
theorem l2copy_any (a : Option Addr) (bs : List Nat) (cap : Nat) (w : World) (hl : bs.length ≤ 1048576) (ha : BytesAt w a bs) :
    Calls Try.prog 103 #[.slice a bs.length cap] w fun e w' => ∃ oa c, e = .returned (.slice oa bs.length c) ∧ w'.ownsRow w.heap.size 5 1 (.slice oa bs.length c) bs.length (bcells bs) ∧ Below w.heap.size w w' := by
  obtain ⟨i0, hi, hz0, hz1, hz2⟩ := info_parts info_u8
  go_enter Try.func103, Try.ntmps103
  go_wp2
  go_loopw [3, 8] (fun o i wr => ∃ (k : Nat) (oa : Option Addr) (c : Nat), k ≤ bs.length ∧ i = .int .i64 k ∧ o = .slice oa k c ∧ wr.ownsRow w.heap.size 5 1 (.slice oa k c) k (bcells (bs.take k)) ∧ Below w.heap.size w wr) (fun _ i _ => bs.length - (intOf i).toNat)
  case atStart => exact ⟨0, none, 0, Nat.zero_le _, rfl, rfl, owns_none _ _ _ _, gre _⟩
  case round =>
    obtain ⟨k, oa, c, hk, rfl, rfl, hO, hb⟩ := hrel
    by_cases hlt : k < bs.length
    · obtain ⟨x, b, off, hxk, hxm, rfl, hc⟩ := (ha.grow hb).get hlt
      have hsz := hb.size
      go_wp2_with (at_builtin; refine wpList_append_lies _ rfl (.tmp 12) (.tmp 14) 28 rfl w.heap.size 5 i0 (.int .u8 0) 1 1 Try.underlying28 hi hz0 hz1 hz2 rfl (by decide) _ _ _ rfl (hO.alloc _) ⟨wr.heap.size, 0, none⟩ 1 1 [.int .u8 (x : Int)] rfl rfl (World.news_of_block (cs := #[.int .u8 (x : Int)]) (t := 5) (fr := (0, 0)) (blk_new_at _ _ _ (by simp))) (by simp [Value.oneCell']) (by decide) (by unfold maxLen; omega) (by omega) (by simp; omega) (wr.heap.size + 1) (by simp) ?_; intro g cap2 w1 hown1 hgrow hat hlt2)
      have hK := (Kept.of_grown hgrow).below (B := w.heap.size) (by simp; omega) (fun z hz e => by have := (hO.lt z e).1; omega)
      have e1 : bcells (bs.take (k + 1)) = bcells (bs.take k) ++ [.int .u8 (x : Int)] := by rw [take_snoc _ _ hlt, bcells_snoc, hxk.out]
      go_roundw
      case rel => exact ⟨k + 1, some ⟨g, 0, none⟩, cap2, by omega, by go_num, rfl, by rw [e1]; exact hown1, (gal hb _).trans hK⟩
      case measure => simp [intOf]; omega
    · obtain rfl : k = bs.length := by omega
      rw [List.take_length] at hO
      go_wp2
      go_ret
      exact ⟨oa, c, rfl, hO, hb⟩

end Go.Proofs.Ythjddpkegooobab

/-
  DOK2: both DiskOk, walked. Own work.
-/
namespace Go.Proofs.Ythjddpkegooobab
open Go.RowKit

set_option maxRecDepth 100000 in
theorem writeOk_any (x : DW) (a : Option Addr) (cap : Nat) (w : World) (hi : I64 x.block) (_hl : x.bytes.length ≤ maxLen) :
    Calls Try.prog 101 #[x.val a cap] w fun e w' => e = .returned (.bool (wrOk x)) ∧ Below w.heap.size w w' := by
  obtain ⟨p, hp⟩ : ∃ p, Hid (p = (decide (0 ≤ x.block) && decide (x.block < 130))) := ⟨_, rfl⟩
  have hw : Hid (wrOk x = (p && decide (x.bytes.length = 64))) := by show _ = _; rw [hp.out]; rfl
  cases p with
  | false =>
    go_enter Try.func101, Try.ntmps101
    go_wp2_with (go_at_call 110; refine (hasBlock_any x.block _ hi).mono ?_; rintro e w' ⟨rfl, hb'⟩; rw [← hp.out])
    go_ret
    exact ⟨by rw [hw.out]; rfl, gca (gal (gre _) _) hb'⟩
  | true =>
    by_cases h : x.bytes.length = 64
    · have h' : ((x.bytes.length : Int) == 64) = true := by simp; omega
      have hh : Hid _ := h
      clear h
      go_enter Try.func101, Try.ntmps101
      go_wp2_with (go_at_call 110; refine (hasBlock_any x.block _ hi).mono ?_; rintro e w' ⟨rfl, hb'⟩; rw [← hp.out]; obtain ⟨hc, hf⟩ := bcell hb')
      go_ret
      exact ⟨by rw [hw.out]; simp [hh.out], gca (gal (gre _) _) hb'⟩
    · have h' : ((x.bytes.length : Int) == 64) = false := by simp; omega
      have hh : Hid _ := h
      clear h
      go_enter Try.func101, Try.ntmps101
      go_wp2_with (go_at_call 110; refine (hasBlock_any x.block _ hi).mono ?_; rintro e w' ⟨rfl, hb'⟩; rw [← hp.out]; obtain ⟨hc, hf⟩ := bcell hb')
      go_ret
      exact ⟨by rw [hw.out, decide_eq_false hh.out]; rfl, gca (gal (gre _) _) hb'⟩

theorem DD.ok_no1 {d : DD} (h : d.blocks.length ≠ 130) : d.ok = false := by simp [DD.ok, h]
theorem DD.ok_no2 {d : DD} (h : ¬ d.waiting.length ≤ 200) : d.ok = false := by simp [DD.ok, h]
theorem DD.ok_no3 {d : DD} (h : d.blocks.all blOk = false) : d.ok = false := by simp [DD.ok, h]
theorem DD.ok_no4 {d : DD} (h : d.waiting.all wrOk = false) : d.ok = false := by simp [DD.ok, h]
theorem DD.ok_yes {d : DD} (h1 : d.blocks.length = 130) (h2 : d.waiting.length ≤ 200) (h3 : d.blocks.all blOk = true) (h4 : d.waiting.all wrOk = true) : d.ok = true := by simp [DD.ok, h1, h2, h3, h4]

set_option maxRecDepth 100000 in
theorem implDiskOk_any (d : DD) (l : DL) (w : World) (hd : d.Ok) (ha : DAt w l d) :
    Calls Try.prog 38 #[d.val l] w fun e w' => e = .returned (.bool d.ok) ∧ Below w.heap.size w w' := by
  have hbl := hd.bl
  have hwl := hd.wl
  unfold maxLen at hbl hwl
  by_cases h1 : d.blocks.length = 130
  · have t1 : ((d.blocks.length : Int) != 130) = false := by simp; omega
    have h1' : Hid _ := h1
    clear h1
    by_cases h2 : d.waiting.length ≤ 200
    · have t2 : ¬ ((d.waiting.length : Int) > 200) := by omega
      have h2' : Hid _ := h2
      clear h2
      go_enter Try.func38, Try.ntmps38
      go_wp2
      have hA := gal (gre w) (.cells #[.slice l.ba d.blocks.length l.bc, .slice l.wa d.waiting.length l.wc] 50)
      have hX := DBox.new w d l 50
      generalize w.alloc (.cells #[.slice l.ba d.blocks.length l.bc, .slice l.wa d.waiting.length l.wc] 50) = wA at hA hX ⊢
      go_loopw [20] (fun i wr => ∃ k : Nat, k ≤ d.blocks.length ∧ i = .int .i64 k ∧ (d.blocks.take k).all blOk = true ∧ Below wA.heap.size wA wr) (fun i _ => d.blocks.length - (intOf i).toNat)
      case atStart => exact ⟨0, Nat.zero_le _, rfl, rfl, gre _⟩
      case round =>
        obtain ⟨k, hk, rfl, hall, hb⟩ := hrel
        by_cases hlt : k < d.blocks.length
        · obtain ⟨n, b, off, av, cv, hvk, hvm, hba, c0, hva⟩ := (ha.b.grow (gca hA hb)).get hlt
          rw [hba]
          have hnl := (hd.bb n hvm).len
          unfold maxLen at hnl
          have i0 : (0 : Int) ≤ (k : Int) := by omega
          have i1 : (k : Int) < (d.blocks.length : Int) := by omega
          have hall' : Hid _ := hall
          clear hall
          by_cases h64 : n.length = 64
          · have t3 : ((n.length : Int) != 64) = false := by simp; omega
            have hst : Hid ((d.blocks.take (k + 1)).all blOk = true) := by show _ = _; rw [dall_take_succ _ _ _ hlt, hall'.out, ← hvk.out]; simp [blOk, h64]
            clear h64
            go_wp2
            go_roundw
            case rel => exact ⟨k + 1, by omega, by go_num, hst.out, hb⟩
            case measure => simp [intOf]; omega
          · have t3 : ((n.length : Int) != 64) = true := by simp; omega
            have hst : Hid (d.blocks.all blOk = false) := all_take_false _ _ k hlt (by rw [← hvk.out]; simp [blOk, h64])
            clear h64
            go_wp2
            go_ret
            exact ⟨by rw [DD.ok_no3 hst.out]; rfl, gca hA hb⟩
        · have e : k = d.blocks.length := by omega
          subst e
          rw [List.take_length] at hall
          have hall' : Hid _ := hall
          have hX2 := hX.grow hb
          have x0 := hX2.c0
          have x1 := hX2.c1
          clear hall
          have hB := gca hA hb
          clear hb hX2
          rename World => wB
          go_wp2
          go_loopw [31] (fun i wr2 => ∃ k : Nat, k ≤ d.waiting.length ∧ i = .int .i64 k ∧ (d.waiting.take k).all wrOk = true ∧ Below wB.heap.size wB wr2) (fun i _ => d.waiting.length - (intOf i).toNat)
          case atStart => exact ⟨0, Nat.zero_le _, rfl, rfl, gre _⟩
          case round =>
            obtain ⟨k, hk, rfl, hall, hb⟩ := hrel
            by_cases hlt : k < d.waiting.length
            · obtain ⟨n, b, off, av, cv, hvk, hvm, hba, c0, c1, hva⟩ := (ha.w.grow (gca hB hb)).get hlt
              rw [hba]
              have i0 : (0 : Int) ≤ (k : Int) := by omega
              have i1 : (k : Int) < (d.waiting.length : Int) := by omega
              have hni := hd.wi n hvm
              have hnl := (hd.wb n hvm).len
              have hall2 : Hid _ := hall
              clear hall
              cases hok : wrOk n with
              | true =>
                have hst : Hid ((d.waiting.take (k + 1)).all wrOk = true) := by show _ = _; rw [dall_take_succ _ _ _ hlt, hall2.out, ← hvk.out, hok]; rfl
                have hok' : Hid _ := hok
                clear hok
                go_wp2_with (go_at_call 101; refine (writeOk_any n av cv _ hni hnl).mono ?_; rintro e w2 ⟨rfl, hb2⟩; rw [hok'.out])
                go_roundw
                case rel => exact ⟨k + 1, by omega, by go_num, hst.out, by first | exact gca hb hb2 | exact gca (gal hb _) hb2 | exact gca (gse (gse (gal hb _) (by simp) _) (by simp) _) hb2⟩
                case measure => simp [intOf]; omega
              | false =>
                have hst : Hid (d.waiting.all wrOk = false) := all_take_false _ _ k hlt (by rw [← hvk.out]; exact hok)
                have hok' : Hid _ := hok
                clear hok
                go_wp2_with (go_at_call 101; refine (writeOk_any n av cv _ hni hnl).mono ?_; rintro e w2 ⟨rfl, hb2⟩; rw [hok'.out])
                go_ret
                exact ⟨by rw [DD.ok_no4 hst.out]; rfl, by first | exact gca hB (gca hb hb2) | exact gca hB (gca (gal hb _) hb2) | exact gca hB (gca (gse (gse (gal hb _) (by simp) _) (by simp) _) hb2)⟩
            · have e : k = d.waiting.length := by omega
              subst e
              rw [List.take_length] at hall
              have hall2 : Hid _ := hall
              clear hall
              go_wp2
              go_ret
              exact ⟨by rw [DD.ok_yes h1'.out h2'.out hall'.out hall2.out]; rfl, gca hB hb⟩
    · have t2 : ((d.waiting.length : Int) > 200) := by omega
      have hst : Hid _ := DD.ok_no2 h2
      go_enter Try.func38, Try.ntmps38
      go_wp2
      go_ret
      exact ⟨by rw [hst.out]; rfl, gal (gre _) _⟩
  · have t1 : ((d.blocks.length : Int) != 130) = true := by simp; omega
    have hst : Hid _ := DD.ok_no1 h1
    clear h1
    go_enter Try.func38, Try.ntmps38
    go_wp2
    go_ret
    exact ⟨by rw [hst.out]; rfl, gal (gre _) _⟩

set_option maxRecDepth 100000 in
theorem specDiskOk_any (d : DD) (l : DL) (w : World) (hd : d.Ok) (ha : DAt w l d) :
    Calls Try.prog 36 #[d.val l] w fun e w' => e = .returned (.bool d.ok) ∧ Below w.heap.size w w' := by
  have hbl := hd.bl
  have hwl := hd.wl
  unfold maxLen at hbl hwl
  by_cases h1 : d.blocks.length = 130
  · have t1 : ((d.blocks.length : Int) != 130) = false := by simp; omega
    have h1' : Hid _ := h1
    clear h1
    by_cases h2 : d.waiting.length ≤ 200
    · have t2 : ¬ ((d.waiting.length : Int) > 200) := by omega
      have h2' : Hid _ := h2
      clear h2
      go_enter Try.func36, Try.ntmps36
      go_wp2
      have hA := gal (gre w) (.cells #[.slice l.ba d.blocks.length l.bc, .slice l.wa d.waiting.length l.wc] 50)
      have hX := DBox.new w d l 50
      generalize w.alloc (.cells #[.slice l.ba d.blocks.length l.bc, .slice l.wa d.waiting.length l.wc] 50) = wA at hA hX ⊢
      go_loopw [20] (fun i wr => ∃ k : Nat, k ≤ d.blocks.length ∧ i = .int .i64 k ∧ (d.blocks.take k).all blOk = true ∧ Below wA.heap.size wA wr) (fun i _ => d.blocks.length - (intOf i).toNat)
      case atStart => exact ⟨0, Nat.zero_le _, rfl, rfl, gre _⟩
      case round =>
        obtain ⟨k, hk, rfl, hall, hb⟩ := hrel
        by_cases hlt : k < d.blocks.length
        · obtain ⟨n, b, off, av, cv, hvk, hvm, hba, c0, hva⟩ := (ha.b.grow (gca hA hb)).get hlt
          rw [hba]
          have hnl := (hd.bb n hvm).len
          unfold maxLen at hnl
          have i0 : (0 : Int) ≤ (k : Int) := by omega
          have i1 : (k : Int) < (d.blocks.length : Int) := by omega
          have hall' : Hid _ := hall
          clear hall
          by_cases h64 : n.length = 64
          · have t3 : ((n.length : Int) != 64) = false := by simp; omega
            have hst : Hid ((d.blocks.take (k + 1)).all blOk = true) := by show _ = _; rw [dall_take_succ _ _ _ hlt, hall'.out, ← hvk.out]; simp [blOk, h64]
            clear h64
            go_wp2
            go_roundw
            case rel => exact ⟨k + 1, by omega, by go_num, hst.out, hb⟩
            case measure => simp [intOf]; omega
          · have t3 : ((n.length : Int) != 64) = true := by simp; omega
            have hst : Hid (d.blocks.all blOk = false) := all_take_false _ _ k hlt (by rw [← hvk.out]; simp [blOk, h64])
            clear h64
            go_wp2
            go_ret
            exact ⟨by rw [DD.ok_no3 hst.out]; rfl, gca hA hb⟩
        · have e : k = d.blocks.length := by omega
          subst e
          rw [List.take_length] at hall
          have hall' : Hid _ := hall
          have hX2 := hX.grow hb
          have x0 := hX2.c0
          have x1 := hX2.c1
          clear hall
          have hB := gca hA hb
          clear hb hX2
          rename World => wB
          go_wp2
          go_loopw [31] (fun i wr2 => ∃ k : Nat, k ≤ d.waiting.length ∧ i = .int .i64 k ∧ (d.waiting.take k).all wrOk = true ∧ Below wB.heap.size wB wr2) (fun i _ => d.waiting.length - (intOf i).toNat)
          case atStart => exact ⟨0, Nat.zero_le _, rfl, rfl, gre _⟩
          case round =>
            obtain ⟨k, hk, rfl, hall, hb⟩ := hrel
            by_cases hlt : k < d.waiting.length
            · obtain ⟨n, b, off, av, cv, hvk, hvm, hba, c0, c1, hva⟩ := (ha.w.grow (gca hB hb)).get hlt
              rw [hba]
              have i0 : (0 : Int) ≤ (k : Int) := by omega
              have i1 : (k : Int) < (d.waiting.length : Int) := by omega
              have hni := hd.wi n hvm
              have hnl := (hd.wb n hvm).len
              have hall2 : Hid _ := hall
              clear hall
              by_cases g0 : n.block < 0
              · have hst : Hid (d.waiting.all wrOk = false) := all_take_false _ _ k hlt (by rw [← hvk.out]; simp [wrOk]; omega)
                go_wp2
                go_ret
                exact ⟨by rw [DD.ok_no4 hst.out]; rfl, by first | exact gca hB hb | exact gca hB (gal hb _) | exact gca hB (gse (gse (gal hb _) (by simp) _) (by simp) _)⟩
              · by_cases g1 : n.block ≥ 130
                · have hst : Hid (d.waiting.all wrOk = false) := all_take_false _ _ k hlt (by rw [← hvk.out]; simp [wrOk]; omega)
                  go_wp2
                  go_ret
                  exact ⟨by rw [DD.ok_no4 hst.out]; rfl, by first | exact gca hB hb | exact gca hB (gal hb _) | exact gca hB (gse (gse (gal hb _) (by simp) _) (by simp) _)⟩
                · unfold maxLen at hnl
                  by_cases g2 : n.bytes.length = 64
                  · have t3 : ((n.bytes.length : Int) != 64) = false := by simp; omega
                    have hst : Hid ((d.waiting.take (k + 1)).all wrOk = true) := by show _ = _; rw [dall_take_succ _ _ _ hlt, hall2.out, ← hvk.out]; simp [wrOk, g2]; omega
                    clear g2
                    go_wp2
                    go_roundw
                    case rel => exact ⟨k + 1, by omega, by go_num, hst.out, by first | exact hb | exact gal hb _ | exact gse (gse (gal hb _) (by simp) _) (by simp) _⟩
                    case measure => simp [intOf]; omega
                  · have t3 : ((n.bytes.length : Int) != 64) = true := by simp; omega
                    have hst : Hid (d.waiting.all wrOk = false) := all_take_false _ _ k hlt (by rw [← hvk.out]; simp [wrOk, g2])
                    clear g2
                    go_wp2
                    go_ret
                    exact ⟨by rw [DD.ok_no4 hst.out]; rfl, by first | exact gca hB hb | exact gca hB (gal hb _) | exact gca hB (gse (gse (gal hb _) (by simp) _) (by simp) _)⟩
            · have e : k = d.waiting.length := by omega
              subst e
              rw [List.take_length] at hall
              have hall2 : Hid _ := hall
              clear hall
              go_wp2
              go_ret
              exact ⟨by rw [DD.ok_yes h1'.out h2'.out hall'.out hall2.out]; rfl, gca hB hb⟩
    · have t2 : ((d.waiting.length : Int) > 200) := by omega
      have hst : Hid _ := DD.ok_no2 h2
      go_enter Try.func36, Try.ntmps36
      go_wp2
      go_ret
      exact ⟨by rw [hst.out]; rfl, gal (gre _) _⟩
  · have t1 : ((d.blocks.length : Int) != 130) = true := by simp; omega
    have hst : Hid _ := DD.ok_no1 h1
    clear h1
    go_enter Try.func36, Try.ntmps36
    go_wp2
    go_ret
    exact ⟨by rw [hst.out]; rfl, gal (gre _) _⟩

end Go.Proofs.Ythjddpkegooobab

/-
  SRD: the specification's reading of blocks. Own work.
-/
namespace Go.Proofs.Ythjddpkegooobab
open Go.RowKit

/-- bytes that are handed back -/
def BPost (ys : List Nat) (w : World) (e : Ending) (w' : World) : Prop := ∃ oa c, e = .returned (.slice oa ys.length c) ∧ BytesAt w' oa ys ∧ Below w.heap.size w w'

/-- bytes that are handed back, in memory of their own -/
def OPost (ys : List Nat) (w : World) (e : Ending) (w' : World) : Prop := ∃ oa c, e = .returned (.slice oa ys.length c) ∧ w'.ownsRow w.heap.size 5 1 (.slice oa ys.length c) ys.length (bcells ys) ∧ Below w.heap.size w w'

set_option maxRecDepth 100000 in
theorem l3read_own (d : DD) (l : DL) (m : Nat) (w : World) (hd : d.Fit) (ha : DAt w l d) (hm : m < 130) : Calls Try.prog 109 #[d.val l, .int .i64 (m : Int)] w (OPost (readN d.blocks d.waiting (m : Int) d.waiting.length) w) := by
  obtain ⟨ys, hys⟩ := hid_ex (readN d.blocks d.waiting (m : Int) d.waiting.length)
  rw [← hys.out]
  have hA := gal (gre w) (.cells #[.slice l.ba d.blocks.length l.bc, .slice l.wa d.waiting.length l.wc] 50)
  have hX0 := DBox.new w d l 50
  have hwl := hd.wl
  go_enter Try.func109, Try.ntmps109
  go_wp2
  generalize w.alloc (.cells #[.slice l.ba d.blocks.length l.bc, .slice l.wa d.waiting.length l.wc] 50) = wA at hA hX0 ⊢
  go_loopw [5] (fun i wr => ∃ j : Nat, j ≤ d.waiting.length ∧ i = .int .i64 ((j : Int) - 1) ∧ Hid (ys = readN d.blocks d.waiting (m : Int) j) ∧ Below wA.heap.size wA wr) (fun i _ => (intOf i + 1).toNat)
  case atStart => exact ⟨d.waiting.length, Nat.le_refl _, by go_num, hys, gre _⟩
  case round =>
    obtain ⟨j, hj, rfl, hr, hb⟩ := hrel
    have hX := hX0.grow hb
    have x0 := hX.c0
    have x1 := hX.c1
    have hB := gca hA hb
    cases j with
    | zero =>
      have hlt : m < d.blocks.length := by rw [hd.bl]; exact hm
      obtain ⟨n, b, off, av, cv, hvk, hvm, hba, c0, hva⟩ := (ha.b.grow hB).get hlt
      rw [hba] at x0
      have hn64 := hd.bb n hvm
      have hyn : Hid (ys = n) := by show _ = _; rw [hr.out, hvk.out]; simp [readN]
      have i0 : (0 : Int) ≤ (m : Int) := by omega
      have i1 : (m : Int) < (d.blocks.length : Int) := by omega
      have hn64' : Hid _ := hn64
      clear hn64
      rw [show ((0 : Nat) : Int) - 1 = -1 by rfl]
      go_wp2_with (go_at_call 103; refine (l2copy_any av n cv _ (by rw [hn64'.out]; decide) hva).mono ?_; rintro e w2 ⟨oa, oc, rfl, hown, hb2⟩)
      go_ret
      exact ⟨oa, oc, by rw [hyn.out]; rfl, by rw [hyn.out]; exact owns_le hown hB.size, gca hB hb2⟩
    | succ k =>
      have hlt : k < d.waiting.length := by omega
      obtain ⟨n, b, off, av, cv, hvk, hvm, hba, c0, c1, hva⟩ := (ha.w.grow hB).get hlt
      rw [hba] at x1
      have hn64 := (hd.wb n hvm).2.2
      have i0 : (0 : Int) ≤ (k : Int) := by omega
      have i1 : (k : Int) < (d.waiting.length : Int) := by omega
      have i2 : ((k : Int) ≥ 0) := by omega
      have hn64' : Hid _ := hn64
      clear hn64
      rw [show ((k + 1 : Nat) : Int) - 1 = (k : Int) by omega]
      by_cases heq : n.block = (m : Int)
      · have t1 : (n.block == (m : Int)) = true := by simp [heq]
        have hyn : Hid (ys = n.bytes) := by show _ = _; rw [hr.out]; simp only [readN]; rw [← hvk.out, if_pos heq]
        have heq' : Hid _ := heq
        clear heq
        go_wp2_with (go_at_call 103; refine (l2copy_any av n.bytes cv _ (by rw [hn64'.out]; decide) hva).mono ?_; rintro e w2 ⟨oa, oc, rfl, hown, hb2⟩)
        go_ret
        exact ⟨oa, oc, by rw [hyn.out]; rfl, by rw [hyn.out]; exact owns_le hown hB.size, gca hB hb2⟩
      · have t1 : (n.block == (m : Int)) = false := by simpa using heq
        have hst : Hid (ys = readN d.blocks d.waiting (m : Int) k) := by show _ = _; rw [hr.out]; simp only [readN]; rw [← hvk.out, if_neg heq]
        clear heq
        go_wp2
        go_roundw
        case rel => exact ⟨k, by omega, by go_num, hst, hb⟩
        case measure => first | (simp [intOf]; done) | (simp [intOf]; omega)

theorem l3read_any (d : DD) (l : DL) (m : Nat) (w : World) (hd : d.Fit) (ha : DAt w l d) (hm : m < 130) : Calls Try.prog 109 #[d.val l, .int .i64 (m : Int)] w (BPost (readN d.blocks d.waiting (m : Int) d.waiting.length) w) :=
  (l3read_own d l m w hd ha hm).mono fun _ _ ⟨oa, c, h1, h2, h3⟩ => ⟨oa, c, h1, owns_bytes h2, h3⟩

theorem read_no1 {d : DD} {b : Int} (h : d.ok = false) : d.read b = [] := by simp [DD.read, h]
theorem read_no2 {d : DD} {b : Int} (h : (decide (0 ≤ b) && decide (b < 130)) = false) : d.read b = [] := by simp only [DD.read, h, Bool.and_false]; rfl
theorem read_yes {d : DD} {m : Nat} (h : d.ok = true) (hm : m < 130) : d.read (m : Int) = readN d.blocks d.waiting (m : Int) d.waiting.length := by
  have h2 : (decide (0 ≤ (m : Int)) && decide ((m : Int) < 130)) = true := by simp; omega
  simp only [DD.read, h, h2, Bool.and_self, if_true]

end Go.Proofs.Ythjddpkegooobab

/-
  SHEAD: the specification's HeadOf. Own work.
-/
namespace Go.Proofs.Ythjddpkegooobab
open Go.RowKit

/-- what a block reads as -/
def DD.rd (d : DD) (m : Nat) : List Nat := readN d.blocks d.waiting (m : Int) d.waiting.length
theorem DD.rd_len {d : DD} (h : d.Fit) {m : Nat} (hm : m < 130) : (d.rd m).length = 64 :=
  readN_mem (p := fun x => x.length = 64) h.bb (fun x hx => (h.wb x hx).2.2) (by rw [h.bl]; simpa using hm) _ (Nat.le_refl _)
theorem DD.rd_byte {d : DD} (h : d.Fit) (ho : d.Ok) {m : Nat} (hm : m < 130) : ∀ x, x ∈ d.rd m → x < 256 :=
  readN_mem (p := fun b => ∀ x, x ∈ b → x < 256) (fun b hb => (ho.bb b hb).byte) (fun x hx => (ho.wb x hx).byte) (by rw [h.bl]; simpa using hm) _ (Nat.le_refl _)

theorem sLow_some : ∀ (k i n : Nat) (r : List Nat), k ≤ r.length → ∃ x, sLow k i n r = some (x, r.drop k)
  | 0, _, n, r, _ => ⟨n, rfl⟩
  | k + 1, i, n, x :: r, h => by
    obtain ⟨y, hy⟩ := sLow_some k (i + 1) (orU n x (8 * i)) r (by simpa using h)
    exact ⟨y, hy⟩

/-- three words, one behind the other -/
theorem head_three {bs : List Nat} {g l s : Nat} {r1 r2 r3 : List Nat} (h1 : sLow 8 0 0 (bs.drop 4) = some (g, r1)) (h2 : sLow 8 0 0 r1 = some (l, r2)) (h3 : sLow 8 0 0 r2 = some (s, r3)) {x : HH} (hx : x.Is bs) : (g : Int) = x.gen ∧ (l : Int) = x.len ∧ wrap64 (s : Int) = x.sum := by
  have hr := rng_i64 hx.rng
  have e0 : ∀ n : Int, (n : Int) = n := fun _ => rfl
  have hb : ∀ (n : Int) (r : List Nat), sLow 8 0 0 (lowB 8 (u64n n) ++ r) = some (u64n n, r) := fun n r => by
    have h := sLow_back 8 0 0 (u64n n) r (by omega) (by simp)
    rw [h]
    have e1 : u64n n % 2 ^ (8 * 8) = u64n n := Nat.mod_eq_of_lt (u64n_lt n)
    rw [e1]; simp
  rw [hx.eq, headB_drop, hb] at h1
  injection h1 with h1
  injection h1 with e1 e1'
  rw [← e1', hb] at h2
  injection h2 with h2
  injection h2 with e2 e2'
  rw [← e2', hb] at h3
  injection h3 with h3
  injection h3 with e3 e3'
  have hs := hx.sum
  unfold I64 at hs
  refine ⟨?_, ?_, ?_⟩
  · rw [← e1]; unfold u64n; omega
  · rw [← e2]; unfold u64n; omega
  · rw [← e3]; unfold u64n wrap64; omega

theorem SR.new {w : World} {oa : Option Addr} {bs : List Nat} {c : Nat} (ha : BytesAt w oa bs) (hc : bs.length ≤ c) (hl : bs.length ≤ 4096) (hb : ∀ x, x ∈ bs → x < 256) (k : Nat) (hk : k ≤ bs.length + 2) (z : Int) (hz : z = (k : Int)) : SR (w.alloc (.cells #[.slice oa bs.length c, .int .i64 z, .bool false] 111)) w.heap.size oa c bs k false := by
  subst hz
  have hA := gal (gre w) (.cells #[.slice oa bs.length c, .int .i64 (k : Int), .bool false] 111)
  exact ⟨by simp, by simp, by simp, by simp, fun o => by simp, ha.low.below hA, hc, hl, hb, hk⟩

theorem owns_capH {w : World} {base n cap : Nat} {a : Option Addr} {t : TypeId} {k : Nat} {xs : List Value} (h : w.ownsRow base t k (.slice a n cap) n xs) : n ≤ cap := by
  rcases h.2 with ⟨_, h2⟩ | ⟨g, c, cur, h1, _, _, h4, _⟩
  · omega
  · injection h1 with _ _ e
    omega
/-- a head's own variable, that may be written -/
structure HV (w : World) (R : Nat) (h : HH) : Prop where
  box : HBox w R h.ok h.gen h.len h.sum
  f : ∀ o, w.frozen? ⟨R, o, none⟩ = false
theorem HV.kept {p : Nat → Prop} {w w' : World} {b : Nat} {h : HH} (hv : HV w b h) (k : Kept p w w') (hn : ¬ p b) : HV w' b h :=
  ⟨hv.box.kept k hn, fun o => (World.frozen?_of_block (w := w) (a := ⟨b, o, none⟩) (k.block b hv.box.lt hn)).trans (hv.f o)⟩
theorem HV.grow {w w' : World} {b : Nat} {h : HH} (hv : HV w b h) (k : Below w.heap.size w w') : HV w' b h := hv.kept (Kept.of_below k (fun _ => False)) (fun e => e)
theorem HV.new_at (w : World) (h : HH) (t : TypeId) (R : Nat) (hR : R = w.heap.size) : HV (w.alloc (.cells #[.bool h.ok, .int .i64 h.gen, .int .i64 h.len, .int .i64 h.sum] t)) R h := by
  subst hR
  exact ⟨HBox.new w _ _ _ _ _, fun o => by simp⟩
theorem ret4 {w : World} {R : Nat} {h : HH} (hv : HV w R h) (A B C D : Value) :
    (w.setCell ⟨R, 0, none⟩ A).cell? ⟨R, 0, none⟩ = some A ∧ ((w.setCell ⟨R, 0, none⟩ A).setCell ⟨R, 1, none⟩ B).cell? ⟨R, 1, none⟩ = some B ∧ (((w.setCell ⟨R, 0, none⟩ A).setCell ⟨R, 1, none⟩ B).setCell ⟨R, 2, none⟩ C).cell? ⟨R, 2, none⟩ = some C ∧ ((((w.setCell ⟨R, 0, none⟩ A).setCell ⟨R, 1, none⟩ B).setCell ⟨R, 2, none⟩ C).setCell ⟨R, 3, none⟩ D).cell? ⟨R, 3, none⟩ = some D ∧
      Kept (fun b => b = R) w ((((w.setCell ⟨R, 0, none⟩ A).setCell ⟨R, 1, none⟩ B).setCell ⟨R, 2, none⟩ C).setCell ⟨R, 3, none⟩ D) := by
  refine ⟨World.cell?_setCell_same _ _ _ hv.box.c0, World.cell?_setCell_same _ _ _ ((World.cell?_setCell_other _ _ _ _ (by simp)).trans hv.box.c1), World.cell?_setCell_same _ _ _ (((World.cell?_setCell_other _ _ _ _ (by simp)).trans (World.cell?_setCell_other _ _ _ _ (by simp))).trans hv.box.c2), World.cell?_setCell_same _ _ _ ((((World.cell?_setCell_other _ _ _ _ (by simp)).trans (World.cell?_setCell_other _ _ _ _ (by simp))).trans (World.cell?_setCell_other _ _ _ _ (by simp))).trans hv.box.c3), ?_⟩
  exact ((((Kept.refl (fun b => b = R) w).set (a := ⟨R, 0, none⟩) (fun _ => rfl) A).set (a := ⟨R, 1, none⟩) (fun _ => rfl) B).set (a := ⟨R, 2, none⟩) (fun _ => rfl) C).set (a := ⟨R, 3, none⟩) (fun _ => rfl) D

theorem sEight_known (b : Nat) (sa : Option Addr) (cap : Nat) (bs : List Nat) (at_ : Nat) (x : Nat) (r : List Nat) (w : World) (hR : SR w b sa cap bs at_ false) (hx : Hid (sLow 8 0 0 (bs.drop at_) = some (x, r))) :
    Calls Try.prog 144 #[.pointer (some ⟨b, 0, none⟩)] w fun e w' => e = .returned (.int .u64 (x : Int)) ∧ (∃ at', SR w' b sa cap bs at' false ∧ Hid (bs.drop at' = r)) ∧ Kept (fun k => k = b) w w' :=
  (sEight_any b sa cap bs at_ false w hR).mono fun e w' ⟨hK, y, at', bad', he, _, hS, _, hr⟩ => by
    rcases hr.out.2 rfl with ⟨rfl, e1⟩ | ⟨_, e1⟩
    · rw [hx.out] at e1
      injection e1 with e1
      injection e1 with e2 e3
      subst e2
      exact ⟨he, ⟨at', hS, e3.symm⟩, hK⟩
    · rw [hx.out] at e1
      cases e1

/-- what heads' bytes read as, at once -/
structure HRead (bs : List Nat) (g l s : Nat) (r1 r2 r3 : List Nat) : Prop where
  e1 : sLow 8 0 0 (bs.drop 4) = some (g, r1)
  e2 : sLow 8 0 0 r1 = some (l, r2)
  e3 : sLow 8 0 0 r2 = some (s, r3)
theorem hread {bs : List Nat} (h : bs.length = 64) : ∃ g l s r1 r2 r3, HRead bs g l s r1 r2 r3 := by
  obtain ⟨g, hg⟩ := sLow_some 8 0 0 (bs.drop 4) (by rw [List.length_drop]; omega)
  obtain ⟨l, hl⟩ := sLow_some 8 0 0 ((bs.drop 4).drop 8) (by rw [List.length_drop, List.length_drop]; omega)
  obtain ⟨s, hs⟩ := sLow_some 8 0 0 (((bs.drop 4).drop 8).drop 8) (by rw [List.length_drop, List.length_drop, List.length_drop]; omega)
  exact ⟨g, l, s, _, _, _, hg, hl, hs⟩

set_option maxHeartbeats 2000000 in
set_option maxRecDepth 100000 in
theorem l4head_any (d : DD) (l : DL) (m : Nat) (w : World) (hf : d.Fit) (ho : d.Ok) (ha : DAt w l d) (hm : m < 130) :
    Calls Try.prog 114 #[d.val l, .int .i64 (m : Int)] w fun e w' => e = .returned (headOf (d.rd m)).val ∧ Below w.heap.size w w' := by
  obtain ⟨bs, hbs⟩ := hid_ex (d.rd m)
  have hbl : Hid (bs.length = 64) := by show _ = _; rw [hbs.out]; exact DD.rd_len hf hm
  have hbb : ∀ x, x ∈ bs → x < 256 := by rw [hbs.out]; exact DD.rd_byte hf ho hm
  rw [← hbs.out]
  obtain ⟨G, L, S, r1, r2, r3, hE⟩ := hread hbl.out
  have E1 : Hid _ := hE.e1
  have E2 : Hid _ := hE.e2
  have E3 : Hid _ := hE.e3
  have hA := gal (gal (gre w) (.cells #[.slice l.ba d.blocks.length l.bc, .slice l.wa d.waiting.length l.wc] 50)) (.cells #[.bool false, .int .i64 0, .int .i64 0, .int .i64 0] 74)
  have hR0 := HV.new_at (w.alloc (.cells #[.slice l.ba d.blocks.length l.bc, .slice l.wa d.waiting.length l.wc] 50)) noH 74 (w.heap.size + 1) (by simp)
  have hno : ∀ P : Prop, (P → False) → ((1000000000000 : Int) < (G : Int) ∨ (4096 : Int) < (L : Int) ∨ headOkB true (G : Int) (L : Int) = false ∨ headB (G : Int) (L : Int) (wrap64 (S : Int)) ≠ bs) → headOf bs = noH := fun _ _ h => headOf_no fun x hx => by
    obtain ⟨e1, e2, e3⟩ := head_three hE.e1 hE.e2 hE.e3 hx
    have hr := rng_i64 hx.rng
    rcases h with h | h | h | h
    · omega
    · omega
    · rw [e1, e2, hx.rng] at h; cases h
    · rw [e1, e2, e3] at h; exact h hx.eq.symm
  go_enter Try.func114, Try.ntmps114
  by_cases t1 : (1000000000000 : Int) < (G : Int)
  · rw [hno False id (Or.inl t1)]
    go_upto_region 99 with (first
          | (go_at_call 109; refine (l3read_own d l m _ hf (ha.grow hA) hm).mono ?_; rw [show readN d.blocks d.waiting (m : Int) d.waiting.length = bs from hbs.out.symm]; rintro e w1 ⟨oa, c, rfl, hO, hb1⟩; have hlc : bs.length ≤ c := owns_capH hO; have hS0 := SR.new (owns_bytes hO) hlc (by have := hbl.out; omega) hbb 4 (by have := hbl.out; omega) 4 rfl; have hAt := owns_bytes hO; have hRl := (hR0.grow hb1).box.lt; have hb2 := gal hb1 (.cells #[.slice oa bs.length c, .int .i64 4, .bool false] 111))
          | (go_at_call 144; refine (sEight_known _ _ _ _ _ S r3 _ hS2 (by show _ = _; rw [d2.out]; exact E3.out)).mono ?_; rintro e w4 ⟨rfl, ⟨at3, hS3, d3⟩, hK3⟩; have hR4 := (((hR0.grow hb2).kept hK1 (by omega)).kept hK2 (by omega)).kept hK3 (by omega); obtain ⟨⟨_, z0, z1, z2, z3⟩, zf⟩ := id hR4; have hB2 := gca hA hb2; have hB3 := hB2.trans (hK1.below (B := w.heap.size) hB2.size (fun k hk e => by omega)); have hB4 := hB3.trans (hK2.below (B := w.heap.size) hB3.size (fun k hk e => by omega)); have hB5 := hB4.trans (hK3.below (B := w.heap.size) hB4.size (fun k hk e => by omega)); have hK := (hK1.trans hK2 (fun _ _ h => h)).trans hK3 (fun _ _ h => h))
          | (go_at_call 144; refine (sEight_known _ _ _ _ _ L r2 _ hS1 (by show _ = _; rw [d1.out]; exact E2.out)).mono ?_; rintro e w3 ⟨rfl, ⟨at2, hS2, d2⟩, hK2⟩)
          | (go_at_call 144; refine (sEight_known _ _ _ _ _ G r1 _ hS0 E1).mono ?_; rintro e w2 ⟨rfl, ⟨at1, hS1, d1⟩, hK1⟩))
    obtain ⟨c0, c1, c2, c3, K⟩ := ret4 hR4 (.bool false) (.int .i64 0) (.int .i64 0) (.int .i64 0)
    exact bodyPost_ret (v := noH.val) (by simp [results, Try.results114, go_sem, c0, c1, c2, c3]) rfl ⟨rfl, hB5.trans (K.below (B := w.heap.size) hB5.size (fun k hk e => by omega))⟩
  · by_cases t2 : (4096 : Int) < (L : Int)
    · rw [hno False id (Or.inr (Or.inl t2))]
      go_upto_region 99 with (first
            | (go_at_call 109; refine (l3read_own d l m _ hf (ha.grow hA) hm).mono ?_; rw [show readN d.blocks d.waiting (m : Int) d.waiting.length = bs from hbs.out.symm]; rintro e w1 ⟨oa, c, rfl, hO, hb1⟩; have hlc : bs.length ≤ c := owns_capH hO; have hS0 := SR.new (owns_bytes hO) hlc (by have := hbl.out; omega) hbb 4 (by have := hbl.out; omega) 4 rfl; have hAt := owns_bytes hO; have hRl := (hR0.grow hb1).box.lt; have hb2 := gal hb1 (.cells #[.slice oa bs.length c, .int .i64 4, .bool false] 111))
            | (go_at_call 144; refine (sEight_known _ _ _ _ _ S r3 _ hS2 (by show _ = _; rw [d2.out]; exact E3.out)).mono ?_; rintro e w4 ⟨rfl, ⟨at3, hS3, d3⟩, hK3⟩; have hR4 := (((hR0.grow hb2).kept hK1 (by omega)).kept hK2 (by omega)).kept hK3 (by omega); obtain ⟨⟨_, z0, z1, z2, z3⟩, zf⟩ := id hR4; have hB2 := gca hA hb2; have hB3 := hB2.trans (hK1.below (B := w.heap.size) hB2.size (fun k hk e => by omega)); have hB4 := hB3.trans (hK2.below (B := w.heap.size) hB3.size (fun k hk e => by omega)); have hB5 := hB4.trans (hK3.below (B := w.heap.size) hB4.size (fun k hk e => by omega)); have hK := (hK1.trans hK2 (fun _ _ h => h)).trans hK3 (fun _ _ h => h))
            | (go_at_call 144; refine (sEight_known _ _ _ _ _ L r2 _ hS1 (by show _ = _; rw [d1.out]; exact E2.out)).mono ?_; rintro e w3 ⟨rfl, ⟨at2, hS2, d2⟩, hK2⟩)
            | (go_at_call 144; refine (sEight_known _ _ _ _ _ G r1 _ hS0 E1).mono ?_; rintro e w2 ⟨rfl, ⟨at1, hS1, d1⟩, hK1⟩))
      obtain ⟨c0, c1, c2, c3, K⟩ := ret4 hR4 (.bool false) (.int .i64 0) (.int .i64 0) (.int .i64 0)
      exact bodyPost_ret (v := noH.val) (by simp [results, Try.results114, go_sem, c0, c1, c2, c3]) rfl ⟨rfl, hB5.trans (K.below (B := w.heap.size) hB5.size (fun k hk e => by omega))⟩
    · have hgw : wrap64 (G : Int) = (G : Int) := by unfold wrap64; omega
      have hlw : wrap64 (L : Int) = (L : Int) := by unfold wrap64; omega
      cases t3 : headOkB true (G : Int) (L : Int) with
      | false =>
        have t3' : Hid _ := t3
        rw [hno False id (Or.inr (Or.inr (Or.inl t3)))]
        clear t3
        go_upto_region 99 with (first
              | (go_at_call 116; refine (l4headok_any true (G : Int) (L : Int) (wrap64 (S : Int)) _).mono ?_; rintro e w6 ⟨rfl, hb6⟩; rw [t3'.out]; have hR6 := hR5.grow hb6; have hH6 := hHw.grow hb6; obtain ⟨⟨_, z0, z1, z2, z3⟩, zf⟩ := id hR6; obtain ⟨⟨_, y0, y1, y2, y3⟩, yf⟩ := id hH6)
              | (go_at_call 109; refine (l3read_own d l m _ hf (ha.grow hA) hm).mono ?_; rw [show readN d.blocks d.waiting (m : Int) d.waiting.length = bs from hbs.out.symm]; rintro e w1 ⟨oa, c, rfl, hO, hb1⟩; have hlc : bs.length ≤ c := owns_capH hO; have hS0 := SR.new (owns_bytes hO) hlc (by have := hbl.out; omega) hbb 4 (by have := hbl.out; omega) 4 rfl; have hAt := owns_bytes hO; have hRl := (hR0.grow hb1).box.lt; have hb2 := gal hb1 (.cells #[.slice oa bs.length c, .int .i64 4, .bool false] 111))
              | (go_at_call 144; refine (sEight_known _ _ _ _ _ S r3 _ hS2 (by show _ = _; rw [d2.out]; exact E3.out)).mono ?_; rintro e w4 ⟨rfl, ⟨at3, hS3, d3⟩, hK3⟩; have hR4 := (((hR0.grow hb2).kept hK1 (by omega)).kept hK2 (by omega)).kept hK3 (by omega); obtain ⟨⟨_, z0, z1, z2, z3⟩, zf⟩ := id hR4; have hB2 := gca hA hb2; have hB3 := hB2.trans (hK1.below (B := w.heap.size) hB2.size (fun k hk e => by omega)); have hB4 := hB3.trans (hK2.below (B := w.heap.size) hB3.size (fun k hk e => by omega)); have hB5 := hB4.trans (hK3.below (B := w.heap.size) hB4.size (fun k hk e => by omega)); have hK := (hK1.trans hK2 (fun _ _ h => h)).trans hK3 (fun _ _ h => h); have hHw := HV.new_at w4 ⟨true, (G : Int), (L : Int), wrap64 (S : Int)⟩ 74 w4.heap.size rfl; have hb5 := gal (gre w4) (.cells #[.bool true, .int .i64 (G : Int), .int .i64 (L : Int), .int .i64 (wrap64 (S : Int))] 74); have hR5 := hR4.grow hb5; have hAt5 : BytesAt _ oa bs := hS3.low.at_.grow hb5)
              | (go_at_call 144; refine (sEight_known _ _ _ _ _ L r2 _ hS1 (by show _ = _; rw [d1.out]; exact E2.out)).mono ?_; rintro e w3 ⟨rfl, ⟨at2, hS2, d2⟩, hK2⟩)
              | (go_at_call 144; refine (sEight_known _ _ _ _ _ G r1 _ hS0 E1).mono ?_; rintro e w2 ⟨rfl, ⟨at1, hS1, d1⟩, hK1⟩))
        obtain ⟨c0, c1, c2, c3, K⟩ := ret4 hR6 (.bool false) (.int .i64 0) (.int .i64 0) (.int .i64 0)
        exact bodyPost_ret (v := noH.val) (by simp [results, Try.results114, go_sem, c0, c1, c2, c3]) rfl ⟨rfl, (gca (gca hB5 hb5) hb6).trans (K.below (B := w.heap.size) (gca (gca hB5 hb5) hb6).size (fun k hk e => by omega))⟩
      | true =>
        have t3' : Hid _ := t3
        by_cases t4 : headB (G : Int) (L : Int) (wrap64 (S : Int)) = bs
        · have t4' : Hid (decide (headB (G : Int) (L : Int) (wrap64 (S : Int)) = bs) = true) := decide_eq_true t4
          rw [headOf_yes (x := ⟨true, (G : Int), (L : Int), wrap64 (S : Int)⟩) ⟨rfl, t3, by unfold I64 wrap64; simp only; omega, t4.symm⟩]
          clear t3 t4
          go_upto_region 99 with (first
                | (go_at_call 116; refine (l4headok_any true (G : Int) (L : Int) (wrap64 (S : Int)) _).mono ?_; rintro e w6 ⟨rfl, hb6⟩; rw [t3'.out]; have hR6 := hR5.grow hb6; have hH6 := hHw.grow hb6; obtain ⟨⟨_, z0, z1, z2, z3⟩, zf⟩ := id hR6; obtain ⟨⟨_, y0, y1, y2, y3⟩, yf⟩ := id hH6)
                | (go_at_call 117; refine (l4block_any true (G : Int) (L : Int) (wrap64 (S : Int)) _).mono ?_; rintro e w7 ⟨oa7, c7, rfl, hO7, hb7⟩)
                | (go_at_call 85; refine (l2equal_any oa7 oa (headB (G : Int) (L : Int) (wrap64 (S : Int))) bs c7 c _ (by rw [headB_length]; decide) (by rw [hbl.out]; decide) (owns_atH hO7) (hAt5.grow (gca hb6 hb7))).mono ?_; rintro e w8 ⟨rfl, hb8⟩; rw [t4'.out]; have hR8 := (hR6.grow hb7).grow hb8; have hH8 := (hH6.grow hb7).grow hb8; obtain ⟨⟨_, z0, z1, z2, z3⟩, zf⟩ := id hR8; obtain ⟨⟨_, y0, y1, y2, y3⟩, yf⟩ := id hH8)
                | (go_at_call 109; refine (l3read_own d l m _ hf (ha.grow hA) hm).mono ?_; rw [show readN d.blocks d.waiting (m : Int) d.waiting.length = bs from hbs.out.symm]; rintro e w1 ⟨oa, c, rfl, hO, hb1⟩; have hlc : bs.length ≤ c := owns_capH hO; have hS0 := SR.new (owns_bytes hO) hlc (by have := hbl.out; omega) hbb 4 (by have := hbl.out; omega) 4 rfl; have hAt := owns_bytes hO; have hRl := (hR0.grow hb1).box.lt; have hb2 := gal hb1 (.cells #[.slice oa bs.length c, .int .i64 4, .bool false] 111))
                | (go_at_call 144; refine (sEight_known _ _ _ _ _ S r3 _ hS2 (by show _ = _; rw [d2.out]; exact E3.out)).mono ?_; rintro e w4 ⟨rfl, ⟨at3, hS3, d3⟩, hK3⟩; have hR4 := (((hR0.grow hb2).kept hK1 (by omega)).kept hK2 (by omega)).kept hK3 (by omega); obtain ⟨⟨_, z0, z1, z2, z3⟩, zf⟩ := id hR4; have hB2 := gca hA hb2; have hB3 := hB2.trans (hK1.below (B := w.heap.size) hB2.size (fun k hk e => by omega)); have hB4 := hB3.trans (hK2.below (B := w.heap.size) hB3.size (fun k hk e => by omega)); have hB5 := hB4.trans (hK3.below (B := w.heap.size) hB4.size (fun k hk e => by omega)); have hK := (hK1.trans hK2 (fun _ _ h => h)).trans hK3 (fun _ _ h => h); have hHw := HV.new_at w4 ⟨true, (G : Int), (L : Int), wrap64 (S : Int)⟩ 74 w4.heap.size rfl; have hb5 := gal (gre w4) (.cells #[.bool true, .int .i64 (G : Int), .int .i64 (L : Int), .int .i64 (wrap64 (S : Int))] 74); have hR5 := hR4.grow hb5; have hAt5 : BytesAt _ oa bs := hS3.low.at_.grow hb5)
                | (go_at_call 144; refine (sEight_known _ _ _ _ _ L r2 _ hS1 (by show _ = _; rw [d1.out]; exact E2.out)).mono ?_; rintro e w3 ⟨rfl, ⟨at2, hS2, d2⟩, hK2⟩)
                | (go_at_call 144; refine (sEight_known _ _ _ _ _ G r1 _ hS0 E1).mono ?_; rintro e w2 ⟨rfl, ⟨at1, hS1, d1⟩, hK1⟩))
          obtain ⟨c0, c1, c2, c3, K⟩ := ret4 hR8 (.bool true) (.int .i64 (G : Int)) (.int .i64 (L : Int)) (.int .i64 (wrap64 (S : Int)))
          have hB8 := gca (gca (gca (gca hB5 hb5) hb6) hb7) hb8
          exact bodyPost_ret (v := headV true (G : Int) (L : Int) (wrap64 (S : Int))) (by simp [results, Try.results114, go_sem, c0, c1, c2, c3]) rfl ⟨rfl, hB8.trans (K.below (B := w.heap.size) hB8.size (fun k hk e => by omega))⟩
        · have t4' : Hid (decide (headB (G : Int) (L : Int) (wrap64 (S : Int)) = bs) = false) := decide_eq_false t4
          rw [hno False id (Or.inr (Or.inr (Or.inr t4)))]
          clear t3 t4
          go_upto_region 99 with (first
                | (go_at_call 116; refine (l4headok_any true (G : Int) (L : Int) (wrap64 (S : Int)) _).mono ?_; rintro e w6 ⟨rfl, hb6⟩; rw [t3'.out]; have hR6 := hR5.grow hb6; have hH6 := hHw.grow hb6; obtain ⟨⟨_, z0, z1, z2, z3⟩, zf⟩ := id hR6; obtain ⟨⟨_, y0, y1, y2, y3⟩, yf⟩ := id hH6)
                | (go_at_call 117; refine (l4block_any true (G : Int) (L : Int) (wrap64 (S : Int)) _).mono ?_; rintro e w7 ⟨oa7, c7, rfl, hO7, hb7⟩)
                | (go_at_call 85; refine (l2equal_any oa7 oa (headB (G : Int) (L : Int) (wrap64 (S : Int))) bs c7 c _ (by rw [headB_length]; decide) (by rw [hbl.out]; decide) (owns_atH hO7) (hAt5.grow (gca hb6 hb7))).mono ?_; rintro e w8 ⟨rfl, hb8⟩; rw [t4'.out]; have hR8 := (hR6.grow hb7).grow hb8; have hH8 := (hH6.grow hb7).grow hb8; obtain ⟨⟨_, z0, z1, z2, z3⟩, zf⟩ := id hR8; obtain ⟨⟨_, y0, y1, y2, y3⟩, yf⟩ := id hH8)
                | (go_at_call 109; refine (l3read_own d l m _ hf (ha.grow hA) hm).mono ?_; rw [show readN d.blocks d.waiting (m : Int) d.waiting.length = bs from hbs.out.symm]; rintro e w1 ⟨oa, c, rfl, hO, hb1⟩; have hlc : bs.length ≤ c := owns_capH hO; have hS0 := SR.new (owns_bytes hO) hlc (by have := hbl.out; omega) hbb 4 (by have := hbl.out; omega) 4 rfl; have hAt := owns_bytes hO; have hRl := (hR0.grow hb1).box.lt; have hb2 := gal hb1 (.cells #[.slice oa bs.length c, .int .i64 4, .bool false] 111))
                | (go_at_call 144; refine (sEight_known _ _ _ _ _ S r3 _ hS2 (by show _ = _; rw [d2.out]; exact E3.out)).mono ?_; rintro e w4 ⟨rfl, ⟨at3, hS3, d3⟩, hK3⟩; have hR4 := (((hR0.grow hb2).kept hK1 (by omega)).kept hK2 (by omega)).kept hK3 (by omega); obtain ⟨⟨_, z0, z1, z2, z3⟩, zf⟩ := id hR4; have hB2 := gca hA hb2; have hB3 := hB2.trans (hK1.below (B := w.heap.size) hB2.size (fun k hk e => by omega)); have hB4 := hB3.trans (hK2.below (B := w.heap.size) hB3.size (fun k hk e => by omega)); have hB5 := hB4.trans (hK3.below (B := w.heap.size) hB4.size (fun k hk e => by omega)); have hK := (hK1.trans hK2 (fun _ _ h => h)).trans hK3 (fun _ _ h => h); have hHw := HV.new_at w4 ⟨true, (G : Int), (L : Int), wrap64 (S : Int)⟩ 74 w4.heap.size rfl; have hb5 := gal (gre w4) (.cells #[.bool true, .int .i64 (G : Int), .int .i64 (L : Int), .int .i64 (wrap64 (S : Int))] 74); have hR5 := hR4.grow hb5; have hAt5 : BytesAt _ oa bs := hS3.low.at_.grow hb5)
                | (go_at_call 144; refine (sEight_known _ _ _ _ _ L r2 _ hS1 (by show _ = _; rw [d1.out]; exact E2.out)).mono ?_; rintro e w3 ⟨rfl, ⟨at2, hS2, d2⟩, hK2⟩)
                | (go_at_call 144; refine (sEight_known _ _ _ _ _ G r1 _ hS0 E1).mono ?_; rintro e w2 ⟨rfl, ⟨at1, hS1, d1⟩, hK1⟩))
          obtain ⟨c0, c1, c2, c3, K⟩ := ret4 hR8 (.bool false) (.int .i64 0) (.int .i64 0) (.int .i64 0)
          exact bodyPost_ret (v := noH.val) (by simp [results, Try.results114, go_sem, c0, c1, c2, c3]) rfl ⟨rfl, (gca (gca (gca (gca hB5 hb5) hb6) hb7) hb8).trans (K.below (B := w.heap.size) (gca (gca (gca (gca hB5 hb5) hb6) hb7) hb8).size (fun k hk e => by omega))⟩

end Go.Proofs.Ythjddpkegooobab
