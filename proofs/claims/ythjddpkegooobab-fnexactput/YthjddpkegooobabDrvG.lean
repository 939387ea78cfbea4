/-
  DRVG: where the disk's writes stand. Own work.
-/
import Derived.Test.YthjddpkegooobabDrvE
namespace Go.Proofs.Ythjddpkegooobab
open Go.RowKit

/-- a write, and where its bytes lie -/
structure LW where
  x : DW
  a : Option Addr
  cap : Nat
  deriving Inhabited
def LW.two (y : LW) : List Value := [.int .i64 y.x.block, .slice y.a y.x.bytes.length y.cap]
theorem LW.two_length (y : LW) : y.two.length = 2 := rfl
def wCells (l : List LW) : List Value := l.flatMap LW.two
theorem wCells_snoc (l : List LW) (y : LW) : wCells (l ++ [y]) = wCells l ++ [.int .i64 y.x.block, .slice y.a y.x.bytes.length y.cap] := by simp [wCells, LW.two]
theorem wCells_get : ∀ (l : List LW) (i j : Nat), i < l.length → j < 2 → (wCells l)[i * 2 + j]? = (l[i]!.two)[j]?
  | [], _, _, hi, _ => absurd hi (Nat.not_lt_zero _)
  | x :: r, 0, j, _, hj => by
    rw [wCells, List.flatMap_cons, Nat.zero_mul, Nat.zero_add, List.getElem?_append_left (by rw [LW.two_length]; exact hj)]
    rfl
  | x :: r, i + 1, j, hi, hj => by
    have hlt : i < r.length := by simpa using hi
    have ih := wCells_get r i j hlt hj
    rw [wCells, List.flatMap_cons, List.getElem?_append_right (by rw [LW.two_length, Nat.add_mul]; omega), LW.two_length, show (i + 1) * 2 + j - 2 = i * 2 + j by rw [Nat.add_mul]; omega]
    rw [wCells] at ih
    rw [ih, getElem!_pos r i hlt, getElem!_pos (x :: r) (i + 1) hi]
    rfl

theorem owns_isW {w : World} {base size n cap : Nat} {a : Option Addr} {xs : List Value} (h : w.ownsRow base 133 size (.slice a n cap) n xs) {z : Nat} (hz : (Value.slice a n cap).ownBlock = some z) : IsW w z ∧ base ≤ z := by
  have ha := owns_addr h hz
  rcases h.2 with ⟨e, _⟩ | ⟨g, cap', cur, hv, hb, hg, _⟩
  · simp at e
    rw [e.1] at ha
    cases ha
  · simp only [Value.slice.injEq] at hv
    rw [ha] at hv
    obtain rfl := some_addr hv.1
    exact ⟨⟨cur, hg⟩, hb⟩
theorem owns_row {w : World} {base t size n cap : Nat} {a : Option Addr} {xs : List Value} (h : w.ownsRow base t size (.slice a n cap) n xs) (hn : 0 < n) : ∃ g f, a = some ⟨g, 0, none⟩ ∧ base ≤ g ∧ g < w.heap.size ∧ w.rowIs g t (cap * size) f ∧ n ≤ cap ∧ ∀ i u, xs[i]? = some u → f i = u := by
  have hc0 := h
  rcases h.2 with ⟨_, e⟩ | ⟨g, cap', cur, hv, hb, hg, h1, h2, h3, h4⟩
  · omega
  · simp only [Value.slice.injEq] at hv
    obtain ⟨rfl, _, rfl⟩ := hv
    refine ⟨g, fun i => cur[i]!, rfl, hb, (Array.getElem?_eq_some_iff.1 hg).1, ⟨cur, hg, h3, fun i hi => ?_⟩, h1, fun i u hu => ?_⟩
    · show cur[i]? = some cur[i]!
      rw [getElem!_pos cur i (by omega)]; exact Array.getElem?_eq_getElem (by omega)
    · obtain ⟨g', ha', _, _, hc⟩ := owns_cell hc0 hu
      obtain rfl := some_addr ha'
      have hc' : cur[i]? = some u := by simpa [World.cell?, hg] using hc
      show cur[i]! = u
      have hlt := (Array.getElem?_eq_some_iff.1 hc').1
      rw [getElem!_pos cur i hlt]
      rw [Array.getElem?_eq_getElem hlt] at hc'
      exact Option.some.inj hc'

/-- where the disk's writes stand -/
structure DkW (w wr : World) (N V : Nat) (bl : List (List Nat)) (f : Nat → Value) (bs cs : Nat → Nat) (va : Option Addr) (vc : Nat) (lw : List LW) (gs : Nat → Nat) : Prop where
  dk : DkB w wr N V (.slice va lw.length vc) bl 130 f bs cs
  own : wr.ownsRow (V + 1) 133 2 (.slice va lw.length vc) lw.length (wCells lw)
  byt : ∀ i, i < lw.length → lw[i]!.a = some ⟨gs i, 0, none⟩ ∧ BRow wr (gs i) lw[i]!.cap lw[i]!.x.bytes ∧ V < gs i ∧ (∀ j, j < 130 → bs j < gs i) ∧ ∀ j, j < i → gs j < gs i
theorem DkW.grow {w wr w' : World} {N V : Nat} {bl : List (List Nat)} {f : Nat → Value} {bs cs : Nat → Nat} {va : Option Addr} {vc : Nat} {lw : List LW} {gs : Nat → Nat} (h : DkW w wr N V bl f bs cs va vc lw gs) (hb : Below wr.heap.size wr w') : DkW w w' N V bl f bs cs va vc lw gs :=
  ⟨h.dk.grow hb, (Kept.of_below hb (fun _ => False)).owns h.own (fun _ _ e => e), fun i hi => let ⟨h1, h2, h3⟩ := h.byt i hi; ⟨h1, h2.of_block (hb.block _ h2.lt), h3⟩⟩
theorem snoc_at {α : Type} [Inhabited α] (l : List α) (y : α) (i : Nat) (hi : i < (l ++ [y]).length) : (l ++ [y])[i]! = if i = l.length then y else l[i]! := by
  have hi' : i < l.length + 1 := by simpa using hi
  rw [getElem!_pos _ i hi]
  by_cases h : i = l.length
  · subst h; simp
  · rw [if_neg h, List.getElem_append_left (by omega), getElem!_pos l i (by omega)]
theorem DkW.step {w wr w5 : World} {N V : Nat} {bl : List (List Nat)} {f : Nat → Value} {bs cs : Nat → Nat} {va : Option Addr} {vc : Nat} {lw : List LW} {gs : Nat → Nat} (h : DkW w wr N V bl f bs cs va vc lw gs)
    {G gcap gg cc : Nat} {x : DW} (hG : BRow wr G gcap x.bytes) (hVG : V < G) (hbs : ∀ j, j < 130 → bs j < G) (hgs : ∀ j, j < lw.length → gs j < G)
    (hown : w5.ownsRow (V + 1) 133 2 (.slice (some ⟨gg, 0, none⟩) (lw.length + 1) cc) (lw.length + 1) (wCells lw ++ [.int .i64 x.block, .slice (some ⟨G, 0, none⟩) x.bytes.length gcap])) (hgrow : wr.grownBy w5 (Value.slice va lw.length vc).ownBlock) :
    DkW w (w5.setCell ⟨V, 1, none⟩ (.slice (some ⟨gg, 0, none⟩) (lw.length + 1) cc)) N V bl f bs cs (some ⟨gg, 0, none⟩) cc (lw ++ [⟨x, some ⟨G, 0, none⟩, gcap⟩]) (fun i => if i = lw.length then G else gs i) := by
  have K1 := Kept.of_grown hgrow
  have hz : ∀ z, (Value.slice va lw.length vc).ownBlock = some z → IsW wr z ∧ V + 1 ≤ z := fun z hz => owns_isW h.own hz
  have hnv := h.dk.nv
  have hlo := h.dk.lo
  have K2 := (Kept.refl (fun b => b = V) w5).set (a := ⟨V, 1, none⟩) (fun _ => rfl) (.slice (some ⟨gg, 0, none⟩) (lw.length + 1) cc)
  have hB : ∀ {G' n' : Nat} {ys : List Nat}, BRow wr G' n' ys → V < G' → BRow (w5.setCell ⟨V, 1, none⟩ (.slice (some ⟨gg, 0, none⟩) (lw.length + 1) cc)) G' n' ys := fun hb hv => (hb.kept K1 (fun e => not_B_of_W (hz _ e).1 hb.isB)).kept K2 (fun e => by omega)
  have hVz : ¬ (Value.slice va lw.length vc).ownBlock = some V := fun e => by have := (hz V e).2; omega
  have hNz : ¬ (Value.slice va lw.length vc).ownBlock = some N := fun e => by have := (hz N e).2; omega
  have c1 := K1.cell h.dk.v1 hVz
  refine ⟨⟨K2.rowIs (K1.rowIs h.dk.row hNz) (by omega), fun i hi => ?_, (World.cell?_setCell_other _ _ _ _ (by simp)).trans (K1.cell h.dk.v0 hVz), ?_, fun o => ?_, ?_, hlo, hnv⟩, ?_, fun i hi => ?_⟩
  · obtain ⟨h1, h2, h3, h4⟩ := h.dk.fs i hi
    exact ⟨h1, hB h2 h3, h3, h4⟩
  · rw [List.length_append]; exact World.cell?_setCell_same _ _ _ c1
  · rw [World.frozen?_setCell]
    exact (World.frozen?_of_block (w := wr) (a := ⟨V, o, none⟩) (K1.block V (World.block_lt_of_cell? wr ⟨V, 0, none⟩ h.dk.v0) hVz)).trans (h.dk.vf o)
  · exact (h.dk.bel.trans (K1.below (Nat.le_trans h.dk.bel.size (Nat.le_refl _)) (fun k hk e => by have := (hz k e).2; omega))).trans (K2.below (by have := h.dk.bel.size; have := K1.size; omega) (fun k hk e => by omega))
  · rw [wCells_snoc, List.length_append]
    exact K2.owns hown (fun z hz2 e => by have := (hown.lt z hz2).1; omega)
  · rw [List.length_append] at hi
    rw [snoc_at _ _ _ (by rw [List.length_append]; exact hi)]
    by_cases e : i = lw.length
    · subst e
      simp only [if_true]
      refine ⟨trivial, hB hG hVG, hVG, hbs, fun j hj => ?_⟩
      rw [if_neg (by omega)]; exact hgs j hj
    · simp only [if_neg e]
      obtain ⟨h1, h2, h3, h4, h5⟩ := h.byt i (by simp at hi; omega)
      refine ⟨h1, hB h2 h3, h3, h4, fun j hj => ?_⟩
      rw [if_neg (by simp at hi; omega)]; exact h5 j hj

/-- the disk is done -/
theorem DkW.md {w wr : World} {N V : Nat} {bl : List (List Nat)} {f : Nat → Value} {bs cs : Nat → Nat} {va : Option Addr} {vc : Nat} {lw : List LW} {gs : Nat → Nat} (h : DkW w wr N V bl f bs cs va vc lw gs) (hlen : bl.length = 130) (h64 : ∀ x, x ∈ bl → x.length = 64) :
    MD wr w.heap.size wr.heap.size ⟨some ⟨N, 0, none⟩, 130, va, vc⟩ ⟨bl, lw.map (·.x)⟩ (fun i => some ⟨bs i, 0, none⟩) (fun i => lw[i]!.a) cs (fun i => lw[i]!.cap) := by
  have hnv := h.dk.nv
  have hlo := h.dk.lo
  have hmap : ∀ i, i < lw.length → (lw.map (·.x))[i]! = lw[i]!.x := fun i hi => by
    rw [getElem!_pos _ i (by simpa using hi), getElem!_pos lw i hi]; simp
  refine ⟨⟨fun _ => ⟨N, 130, f, rfl, hlo, h.dk.row.lt, h.dk.row, by show bl.length ≤ 130; omega, fun i hi => ?_⟩, fun i hi => ?_, fun i j hij hj => ?_⟩, ⟨fun hn => ?_, fun i hi => ?_, fun i j hij hj => ?_⟩, fun i j hi hj => ?_⟩
  · have hi' : i < bl.length := hi
    rw [(h.dk.fs i (by omega)).1, h64 _ (mem_at hi')]
  · have hi' : i < bl.length := hi
    obtain ⟨_, h2, h3, _⟩ := h.dk.fs i (by omega)
    exact Or.inr ⟨bs i, cs i, rfl, by omega, h2.lt, h2⟩
  · intro b e1 e2
    have hj' : j < bl.length := hj
    have := (h.dk.fs j (by omega)).2.2.2 i hij
    have := some_addr e1
    have := some_addr e2
    omega
  · have hn' : 0 < lw.length := by simpa using hn
    obtain ⟨g, f', h1, h2, h3, h4, h5, h6⟩ := owns_row h.own hn'
    refine ⟨g, vc * 2, f', h1, by omega, h3, h4, by simp; omega, fun i hi => ?_⟩
    have hi' : i < lw.length := by simpa using hi
    simp only [hmap i hi']
    exact ⟨h6 _ _ ((wCells_get lw i 0 hi' (by omega)).trans rfl), h6 _ _ ((wCells_get lw i 1 hi' (by omega)).trans rfl)⟩
  · have hi' : i < lw.length := by simpa using hi
    simp only [hmap i hi']
    obtain ⟨h1, h2, h3, _⟩ := h.byt i hi'
    exact Or.inr ⟨gs i, _, h1, by omega, h2.lt, h2⟩
  · have hj' : j < lw.length := by simpa using hj
    intro b e1 e2
    rw [(h.byt i (by omega)).1] at e1
    rw [(h.byt j hj').1] at e2
    have := (h.byt j hj').2.2.2.2 i hij
    have := some_addr e1
    have := some_addr e2
    omega
  · have hi' : i < bl.length := hi
    have hj' : j < lw.length := by simpa using hj
    intro b e1 e2
    rw [(h.byt j hj').1] at e2
    have := (h.byt j hj').2.2.2.1 i (by omega)
    have := some_addr e1
    have := some_addr e2
    omega

/-- the round of the writes -/
def GWInv (w wr : World) (N V : Nat) (bl : List (List Nat)) (f : Nat → Value) (bs cs : Nat → Nat) (ws : List DW) (k : Nat) : Prop :=
  ∃ (va : Option Addr) (vc : Nat) (lw : List LW) (gs : Nat → Nat), Hid (lw.length = k) ∧ Hid (lw.map (·.x) = ws.take k) ∧ DkW w wr N V bl f bs cs va vc lw gs

theorem MBs.mono {w : World} {lo hi lo' hi' : Nat} {a : Option Addr} {n : Nat} {F : Nat → List Nat} {fa : Nat → Option Addr} {fc : Nat → Nat} (h : MBs w lo hi a n F fa fc) (h1 : lo' ≤ lo) (h2 : hi ≤ hi') : MBs w lo' hi' a n F fa fc :=
  ⟨fun h0 => let ⟨g, m, f, a1, a2, a3, a4⟩ := h.row h0; ⟨g, m, f, a1, by omega, by omega, a4⟩, fun i hi => (h.byt i hi).mono h1 h2, h.far⟩
theorem MWs.mono {w : World} {lo hi lo' hi' : Nat} {a : Option Addr} {n : Nat} {B : Nat → Int} {F : Nat → List Nat} {fa : Nat → Option Addr} {fc : Nat → Nat} (h : MWs w lo hi a n B F fa fc) (h1 : lo' ≤ lo) (h2 : hi ≤ hi') : MWs w lo' hi' a n B F fa fc :=
  ⟨fun h0 => let ⟨g, m, f, a1, a2, a3, a4⟩ := h.row h0; ⟨g, m, f, a1, by omega, by omega, a4⟩, fun i hi => (h.byt i hi).mono h1 h2, h.far⟩
theorem MD.mono {w : World} {lo hi lo' hi' : Nat} {l : DL} {d : DD} {fa ga : Nat → Option Addr} {fc gc : Nat → Nat} (h : MD w lo hi l d fa ga fc gc) (h1 : lo' ≤ lo) (h2 : hi ≤ hi') : MD w lo' hi' l d fa ga fc gc := ⟨h.b.mono h1 h2, h.w.mono h1 h2, h.far⟩

end Go.Proofs.Ythjddpkegooobab
