/-
  DMARKS: disks in memory of their own. Own work.
-/
import Derived.Test.YthjddpkegooobabDPlain
import Derived.Deep.OwnRows
namespace Go.Proofs.Ythjddpkegooobab
open Go.RowKit

set_option maxRecDepth 100000 in
theorem info_bytes : (Try.prog.info? 28).map (fun i => (i.zero, i.size, i.bytes)) = some (some (.slice none 0 0), 1, 24) := by kernel_rfl
set_option maxRecDepth 100000 in
theorem info_implWrite : (Try.prog.info? 133).map (fun i => (i.zero, i.size, i.bytes)) = some (some (.agg #[.int .i64 0, .slice none 0 0]), 2, 32) := by kernel_rfl
/-- two places that are not one block -/
def Apart (a a' : Option Addr) : Prop := ∀ b, a = some ⟨b, 0, none⟩ → a' ≠ some ⟨b, 0, none⟩
theorem Apart.symm {a a' : Option Addr} (h : Apart a a') : Apart a' a := fun b hb hx => h b hx hb

/-- bytes in a row of their own between two bounds -/
def BB (w : World) (lo hi : Nat) (oa : Option Addr) (bs : List Nat) : Prop := bs = [] ∨ ∃ G n, oa = some ⟨G, 0, none⟩ ∧ lo ≤ G ∧ G < hi ∧ BRow w G n bs
theorem BB.bytes {w : World} {lo hi : Nat} {oa : Option Addr} {bs : List Nat} (h : BB w lo hi oa bs) : BytesAt w oa bs := by
  rcases h with rfl | ⟨G, n, rfl, _, _, h⟩
  · exact fun i hi => absurd hi (Nat.not_lt_zero _)
  · exact brow_bytes h
theorem BB.kept {p : Nat → Prop} {w w' : World} {lo hi : Nat} {oa : Option Addr} {bs : List Nat} (h : BB w lo hi oa bs) (k : Kept p w w') (hn : ∀ b, oa = some ⟨b, 0, none⟩ → bs ≠ [] → ¬ p b) : BB w' lo hi oa bs := by
  by_cases e : bs = []
  · exact Or.inl e
  · rcases h with h | ⟨G, n, h1, h2, h3, h4⟩
    · exact Or.inl h
    · exact Or.inr ⟨G, n, h1, h2, h3, h4.kept k (hn G h1 e)⟩
theorem BB.mono {w : World} {lo hi lo' hi' : Nat} {oa : Option Addr} {bs : List Nat} (h : BB w lo hi oa bs) (h1 : lo' ≤ lo) (h2 : hi ≤ hi') : BB w lo' hi' oa bs := by
  rcases h with h | ⟨G, n, a1, a2, a3, a4⟩
  · exact Or.inl h
  · exact Or.inr ⟨G, n, a1, by omega, by omega, a4⟩

/-- lists of bytes that may be marked -/
structure MBs (w : World) (lo hi : Nat) (a : Option Addr) (n : Nat) (F : Nat → List Nat) (fa : Nat → Option Addr) (fc : Nat → Nat) : Prop where
  row : 0 < n → ∃ g m f, a = some ⟨g, 0, none⟩ ∧ lo ≤ g ∧ g < hi ∧ w.rowIs g 28 m f ∧ n ≤ m ∧ ∀ i, i < n → f i = .slice (fa i) (F i).length (fc i)
  byt : ∀ i, i < n → BB w lo hi (fa i) (F i)
  far : ∀ i j, i < j → j < n → Apart (fa i) (fa j)
/-- writes that may be marked -/
structure MWs (w : World) (lo hi : Nat) (a : Option Addr) (n : Nat) (B : Nat → Int) (F : Nat → List Nat) (fa : Nat → Option Addr) (fc : Nat → Nat) : Prop where
  row : 0 < n → ∃ g m f, a = some ⟨g, 0, none⟩ ∧ lo ≤ g ∧ g < hi ∧ w.rowIs g 133 m f ∧ n * 2 ≤ m ∧ ∀ i, i < n → f (i * 2) = .int .i64 (B i) ∧ f (i * 2 + 1) = .slice (fa i) (F i).length (fc i)
  byt : ∀ i, i < n → BB w lo hi (fa i) (F i)
  far : ∀ i j, i < j → j < n → Apart (fa i) (fa j)

theorem MBs.ne {w : World} {lo hi : Nat} {a : Option Addr} {n : Nat} {F : Nat → List Nat} {fa : Nat → Option Addr} {fc : Nat → Nat} (h : MBs w lo hi a n F fa fc) {i j : Nat} (hi : i < n) (hj : j < n) (hij : i ≠ j) : Apart (fa i) (fa j) := by
  rcases Nat.lt_or_gt_of_ne hij with e | e
  · exact h.far i j e hj
  · exact (h.far j i e hi).symm
theorem MWs.ne {w : World} {lo hi : Nat} {a : Option Addr} {n : Nat} {B : Nat → Int} {F : Nat → List Nat} {fa : Nat → Option Addr} {fc : Nat → Nat} (h : MWs w lo hi a n B F fa fc) {i j : Nat} (hi : i < n) (hj : j < n) (hij : i ≠ j) : Apart (fa i) (fa j) := by
  rcases Nat.lt_or_gt_of_ne hij with e | e
  · exact h.far i j e hj
  · exact (h.far j i e hi).symm

/-- a block of bytes -/
def IsB (w : World) (b : Nat) : Prop := ∃ c, w.heap[b]? = some (.cells c 5 (0, 0))
def IsW (w : World) (b : Nat) : Prop := ∃ c, w.heap[b]? = some (.cells c 133 (0, 0))
theorem BRow.isB {w : World} {a n : Nat} {xs : List Nat} (h : BRow w a n xs) : IsB w a := let ⟨c, hc, _⟩ := h; ⟨c, hc⟩
theorem rowIs_isW {w : World} {b n : Nat} {f : Nat → Value} (h : w.rowIs b 133 n f) : IsW w b := let ⟨c, hc, _⟩ := h; ⟨c, hc⟩
theorem not_B_of_bs {w : World} {b n : Nat} {f : Nat → Value} (h : w.rowIs b 28 n f) : ¬ IsB w b := fun ⟨c, hc⟩ => by
  obtain ⟨c', hc', _⟩ := h
  rw [hc] at hc'
  simp at hc'
theorem not_W_of_bs {w : World} {b n : Nat} {f : Nat → Value} (h : w.rowIs b 28 n f) : ¬ IsW w b := fun ⟨c, hc⟩ => by
  obtain ⟨c', hc', _⟩ := h
  rw [hc] at hc'
  simp at hc'
theorem not_B_of_W {w : World} {b : Nat} (h : IsW w b) : ¬ IsB w b := fun ⟨c, hc⟩ => by
  obtain ⟨c', hc'⟩ := h
  rw [hc] at hc'
  simp at hc'

/-- the bytes' blocks of a list -/
def TB (n : Nat) (F : Nat → List Nat) (fa : Nat → Option Addr) (b : Nat) : Prop := ∃ i, i < n ∧ F i ≠ [] ∧ fa i = some ⟨b, 0, none⟩

theorem MBs.tb {w : World} {lo hi : Nat} {a : Option Addr} {n : Nat} {F : Nat → List Nat} {fa : Nat → Option Addr} {fc : Nat → Nat} (h : MBs w lo hi a n F fa fc) {b : Nat} (hb : TB n F fa b) : lo ≤ b ∧ b < hi ∧ IsB w b := by
  obtain ⟨i, hi, hn, e⟩ := hb
  rcases h.byt i hi with h0 | ⟨G, m, h1, h2, h3, h4⟩
  · exact absurd h0 hn
  · rw [e] at h1
    obtain rfl := some_addr h1
    exact ⟨h2, h3, h4.isB⟩
theorem MWs.tb {w : World} {lo hi : Nat} {a : Option Addr} {n : Nat} {B : Nat → Int} {F : Nat → List Nat} {fa : Nat → Option Addr} {fc : Nat → Nat} (h : MWs w lo hi a n B F fa fc) {b : Nat} (hb : TB n F fa b) : lo ≤ b ∧ b < hi ∧ IsB w b := by
  obtain ⟨i, hi, hn, e⟩ := hb
  rcases h.byt i hi with h0 | ⟨G, m, h1, h2, h3, h4⟩
  · exact absurd h0 hn
  · rw [e] at h1
    obtain rfl := some_addr h1
    exact ⟨h2, h3, h4.isB⟩

theorem MBs.kept {p : Nat → Prop} {w w' : World} {lo hi : Nat} {a : Option Addr} {n : Nat} {F : Nat → List Nat} {fa : Nat → Option Addr} {fc : Nat → Nat} (h : MBs w lo hi a n F fa fc) (k : Kept p w w') (hr : ∀ b m f, a = some ⟨b, 0, none⟩ → w.rowIs b 28 m f → ¬ p b) (hn : ∀ b, TB n F fa b → ¬ p b) : MBs w' lo hi a n F fa fc :=
  ⟨fun h0 => let ⟨g, m, f, h1, h2, h3, h4, h5⟩ := h.row h0; ⟨g, m, f, h1, h2, h3, k.rowIs h4 (hr g m f h1 h4), h5⟩, fun i hi => (h.byt i hi).kept k (fun b hb hne => hn b ⟨i, hi, hne, hb⟩), h.far⟩
theorem MWs.kept {p : Nat → Prop} {w w' : World} {lo hi : Nat} {a : Option Addr} {n : Nat} {B : Nat → Int} {F : Nat → List Nat} {fa : Nat → Option Addr} {fc : Nat → Nat} (h : MWs w lo hi a n B F fa fc) (k : Kept p w w') (hr : ∀ b m f, a = some ⟨b, 0, none⟩ → w.rowIs b 133 m f → ¬ p b) (hn : ∀ b, TB n F fa b → ¬ p b) : MWs w' lo hi a n B F fa fc :=
  ⟨fun h0 => let ⟨g, m, f, h1, h2, h3, h4, h5⟩ := h.row h0; ⟨g, m, f, h1, h2, h3, k.rowIs h4 (hr g m f h1 h4), h5⟩, fun i hi => (h.byt i hi).kept k (fun b hb hne => hn b ⟨i, hi, hne, hb⟩), h.far⟩

theorem BB.range {w : World} {lo hi : Nat} {oa : Option Addr} {bs : List Nat} (h : BB w lo hi oa bs) {b : Nat} (e : oa = some ⟨b, 0, none⟩) (hn : bs ≠ []) : lo ≤ b ∧ b < hi := by
  rcases h with h0 | ⟨G, m, h1, h2, h3, _⟩
  · exact absurd h0 hn
  · rw [e] at h1
    obtain rfl := some_addr h1
    exact ⟨h2, h3⟩
theorem MBs.out {p : Nat → Prop} {w w' : World} {lo hi : Nat} {a : Option Addr} {n : Nat} {F : Nat → List Nat} {fa : Nat → Option Addr} {fc : Nat → Nat} (h : MBs w lo hi a n F fa fc) (k : Kept p w w') (hp : ∀ b, lo ≤ b → b < hi → ¬ p b) : MBs w' lo hi a n F fa fc :=
  ⟨fun h0 => let ⟨g, m, f, h1, h2, h3, h4, h5⟩ := h.row h0; ⟨g, m, f, h1, h2, h3, k.rowIs h4 (hp g h2 h3), h5⟩, fun i hi => (h.byt i hi).kept k (fun b hb hne => let r := (h.byt i hi).range hb hne; hp b r.1 r.2), h.far⟩
theorem MWs.out {p : Nat → Prop} {w w' : World} {lo hi : Nat} {a : Option Addr} {n : Nat} {B : Nat → Int} {F : Nat → List Nat} {fa : Nat → Option Addr} {fc : Nat → Nat} (h : MWs w lo hi a n B F fa fc) (k : Kept p w w') (hp : ∀ b, lo ≤ b → b < hi → ¬ p b) : MWs w' lo hi a n B F fa fc :=
  ⟨fun h0 => let ⟨g, m, f, h1, h2, h3, h4, h5⟩ := h.row h0; ⟨g, m, f, h1, h2, h3, k.rowIs h4 (hp g h2 h3), h5⟩, fun i hi => (h.byt i hi).kept k (fun b hb hne => let r := (h.byt i hi).range hb hne; hp b r.1 r.2), h.far⟩

theorem MBs.congr {w : World} {lo hi : Nat} {a : Option Addr} {n : Nat} {F G : Nat → List Nat} {fa : Nat → Option Addr} {fc : Nat → Nat} (h : MBs w lo hi a n F fa fc) (e : ∀ i, i < n → G i = F i) : MBs w lo hi a n G fa fc :=
  ⟨fun h0 => let ⟨g, m, f, h1, h2, h3, h4, h5, h6⟩ := h.row h0; ⟨g, m, f, h1, h2, h3, h4, h5, fun i hi => by rw [e i hi]; exact h6 i hi⟩, fun i hi => by rw [e i hi]; exact h.byt i hi, h.far⟩
theorem MWs.congr {w : World} {lo hi : Nat} {a : Option Addr} {n : Nat} {B C : Nat → Int} {F G : Nat → List Nat} {fa : Nat → Option Addr} {fc : Nat → Nat} (h : MWs w lo hi a n B F fa fc) (eB : ∀ i, i < n → C i = B i) (e : ∀ i, i < n → G i = F i) : MWs w lo hi a n C G fa fc :=
  ⟨fun h0 => let ⟨g, m, f, h1, h2, h3, h4, h5, h6⟩ := h.row h0; ⟨g, m, f, h1, h2, h3, h4, h5, fun i hi => by rw [e i hi, eB i hi]; exact h6 i hi⟩, fun i hi => by rw [e i hi]; exact h.byt i hi, h.far⟩

/-- a disk in memory of its own, between two bounds -/
structure MD (w : World) (lo hi : Nat) (l : DL) (d : DD) (fa ga : Nat → Option Addr) (fc gc : Nat → Nat) : Prop where
  b : MBs w lo hi l.ba d.blocks.length (fun i => d.blocks[i]!) fa fc
  w : MWs w lo hi l.wa d.waiting.length (fun i => d.waiting[i]!.block) (fun i => d.waiting[i]!.bytes) ga gc
  far : ∀ i j, i < d.blocks.length → j < d.waiting.length → Apart (fa i) (ga j)
theorem MD.out {p : Nat → Prop} {w w' : World} {lo hi : Nat} {l : DL} {d : DD} {fa ga : Nat → Option Addr} {fc gc : Nat → Nat} (h : MD w lo hi l d fa ga fc gc) (k : Kept p w w') (hp : ∀ b, lo ≤ b → b < hi → ¬ p b) : MD w' lo hi l d fa ga fc gc := ⟨h.b.out k hp, h.w.out k hp, h.far⟩
theorem MD.grow {w w' : World} {lo hi : Nat} {l : DL} {d : DD} {fa ga : Nat → Option Addr} {fc gc : Nat → Nat} (h : MD w lo hi l d fa ga fc gc) (hb : Below w.heap.size w w') : MD w' lo hi l d fa ga fc gc := h.out (Kept.of_below hb (fun _ => False)) (fun _ _ _ e => e)
theorem MBs.at_ {w : World} {lo hi : Nat} {a : Option Addr} {ls : List (List Nat)} {fa : Nat → Option Addr} {fc : Nat → Nat} (h : MBs w lo hi a ls.length (fun i => ls[i]!) fa fc) : BlksAt w a ls := fun i hi => by
  obtain ⟨g, m, f, h1, _, _, h4, h5, h6⟩ := h.row (by omega)
  refine ⟨g, 0, fa i, fc i, h1, ?_, (h.byt i hi).bytes⟩
  rw [Nat.zero_add, ← h6 i hi]
  exact h4.cell (by omega)
theorem MWs.at_ {w : World} {lo hi : Nat} {a : Option Addr} {ls : List DW} {fa : Nat → Option Addr} {fc : Nat → Nat} (h : MWs w lo hi a ls.length (fun i => ls[i]!.block) (fun i => ls[i]!.bytes) fa fc) : WrsAt w a ls := fun i hi => by
  obtain ⟨g, m, f, h1, _, _, h4, h5, h6⟩ := h.row (by omega)
  refine ⟨g, 0, fa i, fc i, h1, ?_, ?_, (h.byt i hi).bytes⟩
  · rw [Nat.zero_add, ← (h6 i hi).1]
    exact h4.cell (by omega)
  · rw [Nat.zero_add, ← (h6 i hi).2]
    exact h4.cell (by omega)
theorem MD.at_ {w : World} {lo hi : Nat} {l : DL} {d : DD} {fa ga : Nat → Option Addr} {fc gc : Nat → Nat} (h : MD w lo hi l d fa ga fc gc) : DAt w l d := ⟨h.b.at_, h.w.at_⟩

end Go.Proofs.Ythjddpkegooobab
