import Derived.Deep.OwnRows
import Derived.Deep.MidRow
import Derived.Deep.WholeRow
import Derived.Test.YthjddpkegooobaaPartA

/-
  DMARKS: disks in memory of their own. Own work.
-/
namespace Go.Proofs.Ythjddpkegooobaa
open Go.RowKit

set_option maxRecDepth 100000 in
theorem info_bytes : (Try.prog.info? 22).map (fun i => (i.zero, i.size, i.bytes)) = some (some (.slice none 0 0), 1, 24) := by kernel_rfl
set_option maxRecDepth 100000 in
theorem info_implWrite : (Try.prog.info? 104).map (fun i => (i.zero, i.size, i.bytes)) = some (some (.agg #[.int .i64 0, .slice none 0 0]), 2, 32) := by kernel_rfl
/-- two places that are not one block -/
def Apart (a a' : Option Addr) : Prop := ∀ b, a = some ⟨b, 0, none⟩ → a' ≠ some ⟨b, 0, none⟩
theorem Apart.symm {a a' : Option Addr} (h : Apart a a') : Apart a' a := fun b hb hx => h b hx hb

/-- bytes in a row of their own between two bounds -/
def BB (w : World) (lo hi : Nat) (oa : Option Addr) (bs : List Nat) : Prop := bs = [] ∨ ∃ G n, oa = some ⟨G, 0, none⟩ ∧ lo ≤ G ∧ G < hi ∧ BRow w G n bs
theorem BB.bytes {w : World} {lo hi : Nat} {oa : Option Addr} {bs : List Nat} (h : BB w lo hi oa bs) : BytesAt w oa bs := by
  rcases h with rfl | ⟨G, n, rfl, _, _, h⟩
  · exact fun i hi => absurd hi (Nat.not_lt_zero _)
  · exact brow_bytes h
theorem BB.kept {p : Nat → Prop} {w w' : World} {lo hi : Nat} {oa : Option Addr} {bs : List Nat} (h : BB w lo hi oa bs) (k : Kept p w w') (hn : ∀ b, oa = some ⟨b, 0, none⟩ → bs ≠ [] → ¬ p b) : BB w' lo hi oa bs := by
  by_cases e : bs = []
  · exact Or.inl e
  · rcases h with h | ⟨G, n, h1, h2, h3, h4⟩
    · exact Or.inl h
    · exact Or.inr ⟨G, n, h1, h2, h3, h4.kept k (hn G h1 e)⟩
theorem BB.mono {w : World} {lo hi lo' hi' : Nat} {oa : Option Addr} {bs : List Nat} (h : BB w lo hi oa bs) (h1 : lo' ≤ lo) (h2 : hi ≤ hi') : BB w lo' hi' oa bs := by
  rcases h with h | ⟨G, n, a1, a2, a3, a4⟩
  · exact Or.inl h
  · exact Or.inr ⟨G, n, a1, by omega, by omega, a4⟩

/-- lists of bytes that may be marked -/
structure MBs (w : World) (lo hi : Nat) (a : Option Addr) (n : Nat) (F : Nat → List Nat) (fa : Nat → Option Addr) (fc : Nat → Nat) : Prop where
  row : 0 < n → ∃ g m f, a = some ⟨g, 0, none⟩ ∧ lo ≤ g ∧ g < hi ∧ w.rowIs g 22 m f ∧ n ≤ m ∧ ∀ i, i < n → f i = .slice (fa i) (F i).length (fc i)
  byt : ∀ i, i < n → BB w lo hi (fa i) (F i)
  far : ∀ i j, i < j → j < n → Apart (fa i) (fa j)
/-- writes that may be marked -/
structure MWs (w : World) (lo hi : Nat) (a : Option Addr) (n : Nat) (B : Nat → Int) (F : Nat → List Nat) (fa : Nat → Option Addr) (fc : Nat → Nat) : Prop where
  row : 0 < n → ∃ g m f, a = some ⟨g, 0, none⟩ ∧ lo ≤ g ∧ g < hi ∧ w.rowIs g 104 m f ∧ n * 2 ≤ m ∧ ∀ i, i < n → f (i * 2) = .int .i64 (B i) ∧ f (i * 2 + 1) = .slice (fa i) (F i).length (fc i)
  byt : ∀ i, i < n → BB w lo hi (fa i) (F i)
  far : ∀ i j, i < j → j < n → Apart (fa i) (fa j)

theorem MBs.ne {w : World} {lo hi : Nat} {a : Option Addr} {n : Nat} {F : Nat → List Nat} {fa : Nat → Option Addr} {fc : Nat → Nat} (h : MBs w lo hi a n F fa fc) {i j : Nat} (hi : i < n) (hj : j < n) (hij : i ≠ j) : Apart (fa i) (fa j) := by
  rcases Nat.lt_or_gt_of_ne hij with e | e
  · exact h.far i j e hj
  · exact (h.far j i e hi).symm
theorem MWs.ne {w : World} {lo hi : Nat} {a : Option Addr} {n : Nat} {B : Nat → Int} {F : Nat → List Nat} {fa : Nat → Option Addr} {fc : Nat → Nat} (h : MWs w lo hi a n B F fa fc) {i j : Nat} (hi : i < n) (hj : j < n) (hij : i ≠ j) : Apart (fa i) (fa j) := by
  rcases Nat.lt_or_gt_of_ne hij with e | e
  · exact h.far i j e hj
  · exact (h.far j i e hi).symm

/-- a block of bytes -/
def IsB (w : World) (b : Nat) : Prop := ∃ c, w.heap[b]? = some (.cells c 5 (0, 0))
def IsW (w : World) (b : Nat) : Prop := ∃ c, w.heap[b]? = some (.cells c 104 (0, 0))
theorem BRow.isB {w : World} {a n : Nat} {xs : List Nat} (h : BRow w a n xs) : IsB w a := let ⟨c, hc, _⟩ := h; ⟨c, hc⟩
theorem rowIs_isW {w : World} {b n : Nat} {f : Nat → Value} (h : w.rowIs b 104 n f) : IsW w b := let ⟨c, hc, _⟩ := h; ⟨c, hc⟩
theorem not_B_of_bs {w : World} {b n : Nat} {f : Nat → Value} (h : w.rowIs b 22 n f) : ¬ IsB w b := fun ⟨c, hc⟩ => by
  obtain ⟨c', hc', _⟩ := h
  rw [hc] at hc'
  simp at hc'
theorem not_W_of_bs {w : World} {b n : Nat} {f : Nat → Value} (h : w.rowIs b 22 n f) : ¬ IsW w b := fun ⟨c, hc⟩ => by
  obtain ⟨c', hc', _⟩ := h
  rw [hc] at hc'
  simp at hc'
theorem not_B_of_W {w : World} {b : Nat} (h : IsW w b) : ¬ IsB w b := fun ⟨c, hc⟩ => by
  obtain ⟨c', hc'⟩ := h
  rw [hc] at hc'
  simp at hc'

/-- the bytes' blocks of a list -/
def TB (n : Nat) (F : Nat → List Nat) (fa : Nat → Option Addr) (b : Nat) : Prop := ∃ i, i < n ∧ F i ≠ [] ∧ fa i = some ⟨b, 0, none⟩

theorem MBs.tb {w : World} {lo hi : Nat} {a : Option Addr} {n : Nat} {F : Nat → List Nat} {fa : Nat → Option Addr} {fc : Nat → Nat} (h : MBs w lo hi a n F fa fc) {b : Nat} (hb : TB n F fa b) : lo ≤ b ∧ b < hi ∧ IsB w b := by
  obtain ⟨i, hi, hn, e⟩ := hb
  rcases h.byt i hi with h0 | ⟨G, m, h1, h2, h3, h4⟩
  · exact absurd h0 hn
  · rw [e] at h1
    obtain rfl := some_addr h1
    exact ⟨h2, h3, h4.isB⟩
theorem MWs.tb {w : World} {lo hi : Nat} {a : Option Addr} {n : Nat} {B : Nat → Int} {F : Nat → List Nat} {fa : Nat → Option Addr} {fc : Nat → Nat} (h : MWs w lo hi a n B F fa fc) {b : Nat} (hb : TB n F fa b) : lo ≤ b ∧ b < hi ∧ IsB w b := by
  obtain ⟨i, hi, hn, e⟩ := hb
  rcases h.byt i hi with h0 | ⟨G, m, h1, h2, h3, h4⟩
  · exact absurd h0 hn
  · rw [e] at h1
    obtain rfl := some_addr h1
    exact ⟨h2, h3, h4.isB⟩

theorem MBs.kept {p : Nat → Prop} {w w' : World} {lo hi : Nat} {a : Option Addr} {n : Nat} {F : Nat → List Nat} {fa : Nat → Option Addr} {fc : Nat → Nat} (h : MBs w lo hi a n F fa fc) (k : Kept p w w') (hr : ∀ b m f, a = some ⟨b, 0, none⟩ → w.rowIs b 22 m f → ¬ p b) (hn : ∀ b, TB n F fa b → ¬ p b) : MBs w' lo hi a n F fa fc :=
  ⟨fun h0 => let ⟨g, m, f, h1, h2, h3, h4, h5⟩ := h.row h0; ⟨g, m, f, h1, h2, h3, k.rowIs h4 (hr g m f h1 h4), h5⟩, fun i hi => (h.byt i hi).kept k (fun b hb hne => hn b ⟨i, hi, hne, hb⟩), h.far⟩
theorem MWs.kept {p : Nat → Prop} {w w' : World} {lo hi : Nat} {a : Option Addr} {n : Nat} {B : Nat → Int} {F : Nat → List Nat} {fa : Nat → Option Addr} {fc : Nat → Nat} (h : MWs w lo hi a n B F fa fc) (k : Kept p w w') (hr : ∀ b m f, a = some ⟨b, 0, none⟩ → w.rowIs b 104 m f → ¬ p b) (hn : ∀ b, TB n F fa b → ¬ p b) : MWs w' lo hi a n B F fa fc :=
  ⟨fun h0 => let ⟨g, m, f, h1, h2, h3, h4, h5⟩ := h.row h0; ⟨g, m, f, h1, h2, h3, k.rowIs h4 (hr g m f h1 h4), h5⟩, fun i hi => (h.byt i hi).kept k (fun b hb hne => hn b ⟨i, hi, hne, hb⟩), h.far⟩

theorem BB.range {w : World} {lo hi : Nat} {oa : Option Addr} {bs : List Nat} (h : BB w lo hi oa bs) {b : Nat} (e : oa = some ⟨b, 0, none⟩) (hn : bs ≠ []) : lo ≤ b ∧ b < hi := by
  rcases h with h0 | ⟨G, m, h1, h2, h3, _⟩
  · exact absurd h0 hn
  · rw [e] at h1
    obtain rfl := some_addr h1
    exact ⟨h2, h3⟩
theorem MBs.out {p : Nat → Prop} {w w' : World} {lo hi : Nat} {a : Option Addr} {n : Nat} {F : Nat → List Nat} {fa : Nat → Option Addr} {fc : Nat → Nat} (h : MBs w lo hi a n F fa fc) (k : Kept p w w') (hp : ∀ b, lo ≤ b → b < hi → ¬ p b) : MBs w' lo hi a n F fa fc :=
  ⟨fun h0 => let ⟨g, m, f, h1, h2, h3, h4, h5⟩ := h.row h0; ⟨g, m, f, h1, h2, h3, k.rowIs h4 (hp g h2 h3), h5⟩, fun i hi => (h.byt i hi).kept k (fun b hb hne => let r := (h.byt i hi).range hb hne; hp b r.1 r.2), h.far⟩
theorem MWs.out {p : Nat → Prop} {w w' : World} {lo hi : Nat} {a : Option Addr} {n : Nat} {B : Nat → Int} {F : Nat → List Nat} {fa : Nat → Option Addr} {fc : Nat → Nat} (h : MWs w lo hi a n B F fa fc) (k : Kept p w w') (hp : ∀ b, lo ≤ b → b < hi → ¬ p b) : MWs w' lo hi a n B F fa fc :=
  ⟨fun h0 => let ⟨g, m, f, h1, h2, h3, h4, h5⟩ := h.row h0; ⟨g, m, f, h1, h2, h3, k.rowIs h4 (hp g h2 h3), h5⟩, fun i hi => (h.byt i hi).kept k (fun b hb hne => let r := (h.byt i hi).range hb hne; hp b r.1 r.2), h.far⟩

theorem MBs.congr {w : World} {lo hi : Nat} {a : Option Addr} {n : Nat} {F G : Nat → List Nat} {fa : Nat → Option Addr} {fc : Nat → Nat} (h : MBs w lo hi a n F fa fc) (e : ∀ i, i < n → G i = F i) : MBs w lo hi a n G fa fc :=
  ⟨fun h0 => let ⟨g, m, f, h1, h2, h3, h4, h5, h6⟩ := h.row h0; ⟨g, m, f, h1, h2, h3, h4, h5, fun i hi => by rw [e i hi]; exact h6 i hi⟩, fun i hi => by rw [e i hi]; exact h.byt i hi, h.far⟩
theorem MWs.congr {w : World} {lo hi : Nat} {a : Option Addr} {n : Nat} {B C : Nat → Int} {F G : Nat → List Nat} {fa : Nat → Option Addr} {fc : Nat → Nat} (h : MWs w lo hi a n B F fa fc) (eB : ∀ i, i < n → C i = B i) (e : ∀ i, i < n → G i = F i) : MWs w lo hi a n C G fa fc :=
  ⟨fun h0 => let ⟨g, m, f, h1, h2, h3, h4, h5, h6⟩ := h.row h0; ⟨g, m, f, h1, h2, h3, h4, h5, fun i hi => by rw [e i hi, eB i hi]; exact h6 i hi⟩, fun i hi => by rw [e i hi]; exact h.byt i hi, h.far⟩

/-- a disk in memory of its own, between two bounds -/
structure MD (w : World) (lo hi : Nat) (l : DL) (d : DD) (fa ga : Nat → Option Addr) (fc gc : Nat → Nat) : Prop where
  b : MBs w lo hi l.ba d.blocks.length (fun i => d.blocks[i]!) fa fc
  w : MWs w lo hi l.wa d.waiting.length (fun i => d.waiting[i]!.block) (fun i => d.waiting[i]!.bytes) ga gc
  far : ∀ i j, i < d.blocks.length → j < d.waiting.length → Apart (fa i) (ga j)
theorem MD.out {p : Nat → Prop} {w w' : World} {lo hi : Nat} {l : DL} {d : DD} {fa ga : Nat → Option Addr} {fc gc : Nat → Nat} (h : MD w lo hi l d fa ga fc gc) (k : Kept p w w') (hp : ∀ b, lo ≤ b → b < hi → ¬ p b) : MD w' lo hi l d fa ga fc gc := ⟨h.b.out k hp, h.w.out k hp, h.far⟩
theorem MD.grow {w w' : World} {lo hi : Nat} {l : DL} {d : DD} {fa ga : Nat → Option Addr} {fc gc : Nat → Nat} (h : MD w lo hi l d fa ga fc gc) (hb : Below w.heap.size w w') : MD w' lo hi l d fa ga fc gc := h.out (Kept.of_below hb (fun _ => False)) (fun _ _ _ e => e)
theorem MBs.at_ {w : World} {lo hi : Nat} {a : Option Addr} {ls : List (List Nat)} {fa : Nat → Option Addr} {fc : Nat → Nat} (h : MBs w lo hi a ls.length (fun i => ls[i]!) fa fc) : BlksAt w a ls := fun i hi => by
  obtain ⟨g, m, f, h1, _, _, h4, h5, h6⟩ := h.row (by omega)
  refine ⟨g, 0, fa i, fc i, h1, ?_, (h.byt i hi).bytes⟩
  rw [Nat.zero_add, ← h6 i hi]
  exact h4.cell (by omega)
theorem MWs.at_ {w : World} {lo hi : Nat} {a : Option Addr} {ls : List DW} {fa : Nat → Option Addr} {fc : Nat → Nat} (h : MWs w lo hi a ls.length (fun i => ls[i]!.block) (fun i => ls[i]!.bytes) fa fc) : WrsAt w a ls := fun i hi => by
  obtain ⟨g, m, f, h1, _, _, h4, h5, h6⟩ := h.row (by omega)
  refine ⟨g, 0, fa i, fc i, h1, ?_, ?_, (h.byt i hi).bytes⟩
  · rw [Nat.zero_add, ← (h6 i hi).1]
    exact h4.cell (by omega)
  · rw [Nat.zero_add, ← (h6 i hi).2]
    exact h4.cell (by omega)
theorem MD.at_ {w : World} {lo hi : Nat} {l : DL} {d : DD} {fa ga : Nat → Option Addr} {fc gc : Nat → Nat} (h : MD w lo hi l d fa ga fc gc) : DAt w l d := ⟨h.b.at_, h.w.at_⟩

end Go.Proofs.Ythjddpkegooobaa

/-
  OPLAIN: ops as lists, and how they lie in memory. Own work.
-/
namespace Go.Proofs.Ythjddpkegooobaa
open Go.RowKit

set_option maxRecDepth 100000 in
theorem info_implOp : (Try.prog.info? 199).map (fun i => (i.zero, i.size, i.bytes)) = some (some (.agg #[.bool false, .int .i64 0, .slice none 0 0]), 3, 40) := by kernel_rfl

structure OP where
  sync : Bool
  block : Int
  bytes : List Nat
  deriving Inhabited
abbrev OP.val (x : OP) (a : Option Addr) (cap : Nat) : Value := .agg #[.bool x.sync, .int .i64 x.block, .slice a x.bytes.length cap]
def syncO : OP := ⟨true, 0, []⟩

structure OpsOk (ls : List OP) : Prop where
  len : ls.length ≤ maxLen
  bl : ∀ x, x ∈ ls → I64 x.block
  by_ : ∀ x, x ∈ ls → BOk x.bytes

/-- ops at a place -/
def OpsAt (w : World) (a : Option Addr) (ls : List OP) : Prop :=
  ∀ i, i < ls.length → ∃ b off a' cap, a = some ⟨b, off, none⟩ ∧ w.cell? ⟨b, off + i * 3, none⟩ = some (.bool ls[i]!.sync) ∧ w.cell? ⟨b, off + i * 3 + 1, none⟩ = some (.int .i64 ls[i]!.block) ∧ w.cell? ⟨b, off + i * 3 + 2, none⟩ = some (.slice a' ls[i]!.bytes.length cap) ∧ BytesAt w a' ls[i]!.bytes
theorem OpsAt.get {w : World} {a : Option Addr} {ls : List OP} (h : OpsAt w a ls) {k : Nat} (hk : k < ls.length) :
    ∃ x b off a' cap, Hid (x = ls[k]!) ∧ x ∈ ls ∧ a = some ⟨b, off, none⟩ ∧ w.cell? ⟨b, off + k * 3, none⟩ = some (.bool x.sync) ∧ w.cell? ⟨b, off + k * 3 + 1, none⟩ = some (.int .i64 x.block) ∧ w.cell? ⟨b, off + k * 3 + 2, none⟩ = some (.slice a' x.bytes.length cap) ∧ BytesAt w a' x.bytes := by
  obtain ⟨b, off, a', cap, ha, hc, hc1, hc2, hb⟩ := h k hk
  exact ⟨ls[k]!, b, off, a', cap, rfl, mem_at hk, ha, hc, hc1, hc2, hb⟩
theorem OpsAt.grow {w w' : World} {a : Option Addr} {ls : List OP} (h : OpsAt w a ls) (hb : Below w.heap.size w w') : OpsAt w' a ls := fun i hi => by
  obtain ⟨b, off, a', cap, ha, hc, hc1, hc2, hx⟩ := h i hi
  exact ⟨b, off, a', cap, ha, (World.cell?_of_block (w := w) (hb.block b (World.block_lt_of_cell? _ _ hc))).trans hc, (World.cell?_of_block (w := w) (hb.block b (World.block_lt_of_cell? _ _ hc1))).trans hc1, (World.cell?_of_block (w := w) (hb.block b (World.block_lt_of_cell? _ _ hc2))).trans hc2, hx.grow hb⟩

/-- ops that may be marked -/
structure MOs (w : World) (lo hi : Nat) (a : Option Addr) (n : Nat) (S : Nat → Bool) (B : Nat → Int) (F : Nat → List Nat) (fa : Nat → Option Addr) (fc : Nat → Nat) : Prop where
  row : 0 < n → ∃ g m f, a = some ⟨g, 0, none⟩ ∧ lo ≤ g ∧ g < hi ∧ w.rowIs g 199 m f ∧ n * 3 ≤ m ∧ ∀ i, i < n → f (i * 3) = .bool (S i) ∧ f (i * 3 + 1) = .int .i64 (B i) ∧ f (i * 3 + 2) = .slice (fa i) (F i).length (fc i)
  byt : ∀ i, i < n → BB w lo hi (fa i) (F i)
  far : ∀ i j, i < j → j < n → F i ≠ [] → F j ≠ [] → Apart (fa i) (fa j)
theorem MOs.ne {w : World} {lo hi : Nat} {a : Option Addr} {n : Nat} {S : Nat → Bool} {B : Nat → Int} {F : Nat → List Nat} {fa : Nat → Option Addr} {fc : Nat → Nat} (h : MOs w lo hi a n S B F fa fc) {i j : Nat} (hi : i < n) (hj : j < n) (hij : i ≠ j) (h1 : F i ≠ []) (h2 : F j ≠ []) : Apart (fa i) (fa j) := by
  rcases Nat.lt_or_gt_of_ne hij with e | e
  · exact h.far i j e hj h1 h2
  · exact (h.far j i e hi h2 h1).symm
def IsO (w : World) (b : Nat) : Prop := ∃ c, w.heap[b]? = some (.cells c 199 (0, 0))
theorem rowIs_isO {w : World} {b n : Nat} {f : Nat → Value} (h : w.rowIs b 199 n f) : IsO w b := let ⟨c, hc, _⟩ := h; ⟨c, hc⟩
theorem not_B_of_O {w : World} {b : Nat} (h : IsO w b) : ¬ IsB w b := fun ⟨c, hc⟩ => by
  obtain ⟨c', hc'⟩ := h
  rw [hc] at hc'
  simp at hc'
theorem MOs.tb {w : World} {lo hi : Nat} {a : Option Addr} {n : Nat} {S : Nat → Bool} {B : Nat → Int} {F : Nat → List Nat} {fa : Nat → Option Addr} {fc : Nat → Nat} (h : MOs w lo hi a n S B F fa fc) {b : Nat} (hb : TB n F fa b) : lo ≤ b ∧ b < hi ∧ IsB w b := by
  obtain ⟨i, hi, hn, e⟩ := hb
  rcases h.byt i hi with h0 | ⟨G, m, h1, h2, h3, h4⟩
  · exact absurd h0 hn
  · rw [e] at h1
    obtain rfl := some_addr h1
    exact ⟨h2, h3, h4.isB⟩
theorem MOs.out {p : Nat → Prop} {w w' : World} {lo hi : Nat} {a : Option Addr} {n : Nat} {S : Nat → Bool} {B : Nat → Int} {F : Nat → List Nat} {fa : Nat → Option Addr} {fc : Nat → Nat} (h : MOs w lo hi a n S B F fa fc) (k : Kept p w w') (hp : ∀ b, lo ≤ b → b < hi → ¬ p b) : MOs w' lo hi a n S B F fa fc :=
  ⟨fun h0 => let ⟨g, m, f, h1, h2, h3, h4, h5⟩ := h.row h0; ⟨g, m, f, h1, h2, h3, k.rowIs h4 (hp g h2 h3), h5⟩, fun i hi => (h.byt i hi).kept k (fun b hb hne => let r := (h.byt i hi).range hb hne; hp b r.1 r.2), h.far⟩
theorem MOs.grow {w w' : World} {lo hi : Nat} {a : Option Addr} {n : Nat} {S : Nat → Bool} {B : Nat → Int} {F : Nat → List Nat} {fa : Nat → Option Addr} {fc : Nat → Nat} (h : MOs w lo hi a n S B F fa fc) (hb : Below w.heap.size w w') : MOs w' lo hi a n S B F fa fc := h.out (Kept.of_below hb (fun _ => False)) (fun _ _ _ e => e)
theorem MOs.congr {w : World} {lo hi : Nat} {a : Option Addr} {n : Nat} {S T : Nat → Bool} {B C : Nat → Int} {F G : Nat → List Nat} {fa : Nat → Option Addr} {fc : Nat → Nat} (h : MOs w lo hi a n S B F fa fc) (eS : ∀ i, i < n → T i = S i) (eB : ∀ i, i < n → C i = B i) (e : ∀ i, i < n → G i = F i) : MOs w lo hi a n T C G fa fc :=
  ⟨fun h0 => let ⟨g, m, f, h1, h2, h3, h4, h5, h6⟩ := h.row h0; ⟨g, m, f, h1, h2, h3, h4, h5, fun i hi => by rw [e i hi, eB i hi, eS i hi]; exact h6 i hi⟩, fun i hi => by rw [e i hi]; exact h.byt i hi, fun i j hij hj h1 h2 => h.far i j hij hj (by rw [← e i (by omega)]; exact h1) (by rw [← e j hj]; exact h2)⟩
theorem MOs.at_ {w : World} {lo hi : Nat} {a : Option Addr} {ls : List OP} {fa : Nat → Option Addr} {fc : Nat → Nat} (h : MOs w lo hi a ls.length (fun i => ls[i]!.sync) (fun i => ls[i]!.block) (fun i => ls[i]!.bytes) fa fc) : OpsAt w a ls := fun i hi => by
  obtain ⟨g, m, f, h1, _, _, h4, h5, h6⟩ := h.row (by omega)
  obtain ⟨e0, e1, e2⟩ := h6 i hi
  refine ⟨g, 0, fa i, fc i, h1, ?_, ?_, ?_, (h.byt i hi).bytes⟩
  · rw [Nat.zero_add, ← e0]; exact h4.cell (by omega)
  · rw [Nat.zero_add, ← e1]; exact h4.cell (by omega)
  · rw [Nat.zero_add, ← e2]; exact h4.cell (by omega)

/-- where the marks end -/
def oE (F : Nat → List Nat) (k : Nat) : Nat → Nat
  | 0 => k
  | j + 1 => oE F k j + 2 + (F j).length
def oS (F : Nat → List Nat) (k i : Nat) : Bool := decide (oE F k i % 3 = 0)
theorem oE_le (F : Nat → List Nat) (k : Nat) : ∀ {i j : Nat}, i ≤ j → oE F k i ≤ oE F k j
  | i, 0, h => by obtain rfl : i = 0 := by omega
                  exact Nat.le_refl _
  | i, j + 1, h => by
    by_cases e : i = j + 1
    · subst e; exact Nat.le_refl _
    · have := oE_le F k (show i ≤ j by omega)
      simp only [oE]; omega
def szOs : List OP → Int
  | [] => 0
  | x :: r => x.bytes.length + szOs r
theorem szOs_nonneg (l : List OP) : 0 ≤ szOs l := by
  induction l with
  | nil => simp [szOs]
  | cons v r ih => simp only [szOs]; omega
theorem szOs_append (a b : List OP) : szOs (a ++ b) = szOs a + szOs b := by
  induction a with
  | nil => simp [szOs]
  | cons v r ih => simp only [List.cons_append, szOs, ih]; omega
theorem szOs_take_succ (l : List OP) (k : Nat) (h : k < l.length) : szOs (l.take (k + 1)) = szOs (l.take k) + l[k]!.bytes.length := by
  rw [take_snoc l k h, szOs_append]; simp [szOs]
theorem szOs_take_le (l : List OP) (k : Nat) : szOs (l.take k) ≤ szOs l := by
  have h : szOs l = szOs (l.take k) + szOs (l.drop k) := by rw [← szOs_append, List.take_append_drop]
  have := szOs_nonneg (l.drop k); omega
theorem szOs_mem {l : List OP} {x : OP} (h : x ∈ l) : (x.bytes.length : Int) ≤ szOs l := by
  induction l with
  | nil => cases h
  | cons y r ih =>
    have := szOs_nonneg r
    simp only [szOs]
    cases List.mem_cons.1 h with
    | inl e => subst e; omega
    | inr e => have := ih e; omega
theorem oE_sz (ls : List OP) (k : Nat) : ∀ j, j ≤ ls.length → (oE (fun i => ls[i]!.bytes) k j : Int) = k + 2 * j + szOs (ls.take j)
  | 0, _ => by simp [oE, szOs]
  | j + 1, h => by
    have ih := oE_sz ls k j (by omega)
    rw [szOs_take_succ ls j (by omega)]
    simp only [oE]
    omega
def oEnd (ls : List OP) (k : Nat) : Nat := oE (fun i => ls[i]!.bytes) k ls.length

end Go.Proofs.Ythjddpkegooobaa

/-
  DOK: both DiskOk. Own work.
-/
namespace Go.Proofs.Ythjddpkegooobaa
open Go.RowKit

/-- a write that a disk may have -/
def wrOk (x : DW) : Bool := decide (0 ≤ x.block) && decide (x.block < 130) && decide (x.bytes.length = 64)
def blOk (b : List Nat) : Bool := decide (b.length = 64)
def DD.ok (d : DD) : Bool := decide (d.blocks.length = 130) && decide (d.waiting.length ≤ 200) && d.blocks.all blOk && d.waiting.all wrOk

theorem dall_take_succ {α : Type} [Inhabited α] (p : α → Bool) (l : List α) (k : Nat) (h : k < l.length) : (l.take (k + 1)).all p = ((l.take k).all p && p l[k]!) := by
  rw [take_snoc l k h]; simp
theorem all_take_false {α : Type} [Inhabited α] (p : α → Bool) (l : List α) (k : Nat) (h : k < l.length) (hp : p l[k]! = false) : l.all p = false := by
  rw [List.all_eq_false]
  exact ⟨l[k]!, mem_at h, by rw [hp]; exact Bool.false_ne_true⟩

set_option maxRecDepth 100000 in
theorem hasBlock_any (b : Int) (w : World) (_hb : I64 b) :
    Calls Try.prog 87 #[.int .i64 b] w fun e w' => e = .returned (.bool (decide (0 ≤ b) && decide (b < 130))) ∧ Below w.heap.size w w' := by
  by_cases h0 : b < 0
  · have h1 : ¬ (b ≥ 0) := by omega
    go_enter Try.func87, Try.ntmps87
    go_wp2
    all_goals go_ret
    all_goals exact ⟨by simp; omega, by first | exact gre _ | exact gal (gre _) _⟩
  · have h1 : b ≥ 0 := by omega
    by_cases h2 : b < 130
    · go_enter Try.func87, Try.ntmps87
      go_wp2
      all_goals go_ret
      all_goals exact ⟨by simp [], by first | exact gre _ | exact gal (gre _) _⟩
    · go_enter Try.func87, Try.ntmps87
      go_wp2
      all_goals go_ret
      all_goals exact ⟨by simp; omega, by first | exact gre _ | exact gal (gre _) _⟩

end Go.Proofs.Ythjddpkegooobaa

/-
  DSEM: what disks do, plainly. Own work.
-/
namespace Go.Proofs.Ythjddpkegooobaa

/-- a write carried out -/
def setB (bl : List (List Nat)) (x : DW) : List (List Nat) := bl.set x.block.toNat x.bytes
/-- the blocks behind the first j writes, of which those are carried out that are kept -/
def settleN (keep : Nat → Bool) (bl : List (List Nat)) (ws : List DW) : Nat → List (List Nat)
  | 0 => bl
  | j + 1 => if keep j = true then setB (settleN keep bl ws j) ws[j]! else settleN keep bl ws j
/-- what a block reads as behind the first j writes -/
def readN (bl : List (List Nat)) (ws : List DW) (b : Int) : Nat → List Nat
  | 0 => bl[b.toNat]!
  | j + 1 => if ws[j]!.block = b then ws[j]!.bytes else readN bl ws b j

def zeroD : DD := ⟨[], []⟩
def blankD : DD := ⟨List.replicate 130 (List.replicate 64 0), []⟩
def DD.put (d : DD) (b : Int) (bs : List Nat) : DD := if (d.ok && wrOk ⟨b, bs⟩ && decide (d.waiting.length ≠ 200)) = true then ⟨d.blocks, d.waiting ++ [⟨b, bs⟩]⟩ else zeroD
def DD.settle (d : DD) (keep : Nat → Bool) : DD := if d.ok = true then ⟨settleN keep d.blocks d.waiting d.waiting.length, []⟩ else zeroD
def DD.read (d : DD) (b : Int) : List Nat := if (d.ok && (decide (0 ≤ b) && decide (b < 130))) = true then readN d.blocks d.waiting b d.waiting.length else []

structure DD.Fit (d : DD) : Prop where
  bl : d.blocks.length = 130
  wl : d.waiting.length ≤ 200
  bb : ∀ b, b ∈ d.blocks → b.length = 64
  wb : ∀ x, x ∈ d.waiting → 0 ≤ x.block ∧ x.block < 130 ∧ x.bytes.length = 64
theorem DD.fit {d : DD} (h : d.ok = true) : d.Fit := by
  unfold DD.ok at h
  simp only [Bool.and_eq_true, decide_eq_true_eq, List.all_eq_true] at h
  obtain ⟨⟨⟨h1, h2⟩, h3⟩, h4⟩ := h
  refine ⟨h1, h2, fun b hb => by simpa [blOk] using h3 b hb, fun x hx => ?_⟩
  have := h4 x hx
  simp only [wrOk, Bool.and_eq_true, decide_eq_true_eq] at this
  exact ⟨this.1.1, this.1.2, this.2⟩

theorem setB_length (bl : List (List Nat)) (x : DW) : (setB bl x).length = bl.length := by simp [setB]
theorem settleN_length (keep : Nat → Bool) (bl : List (List Nat)) (ws : List DW) : ∀ j, (settleN keep bl ws j).length = bl.length
  | 0 => rfl
  | j + 1 => by
    simp only [settleN]
    split
    · rw [setB_length, settleN_length keep bl ws j]
    · exact settleN_length keep bl ws j
theorem setB_all {p : List Nat → Prop} {bl : List (List Nat)} {x : DW} (h : ∀ b, b ∈ bl → p b) (hx : p x.bytes) : ∀ b, b ∈ setB bl x → p b := fun b hb => by
  rcases List.mem_or_eq_of_mem_set hb with h1 | h1
  · exact h b h1
  · rw [h1]; exact hx
theorem settleN_all {p : List Nat → Prop} {keep : Nat → Bool} {bl : List (List Nat)} {ws : List DW} (h : ∀ b, b ∈ bl → p b) (hw : ∀ x, x ∈ ws → p x.bytes) : ∀ j, j ≤ ws.length → ∀ b, b ∈ settleN keep bl ws j → p b
  | 0, _ => h
  | j + 1, hj => by
    simp only [settleN]
    split
    · exact setB_all (settleN_all h hw j (by omega)) (hw _ (mem_at (by omega)))
    · exact settleN_all h hw j (by omega)
theorem setB_get {bl : List (List Nat)} {x : DW} {i : Nat} (hi : i < bl.length) : (setB bl x)[i]! = if i = x.block.toNat then x.bytes else bl[i]! := by
  rw [getElem!_pos _ i (by rw [setB_length]; exact hi), getElem!_pos bl i hi]
  simp only [setB, List.getElem_set]
  split
  · rename_i e; rw [if_pos e.symm]
  · rename_i e; rw [if_neg (fun e2 => e e2.symm)]
theorem readN_mem {p : List Nat → Prop} {bl : List (List Nat)} {ws : List DW} {b : Int} (h : ∀ x, x ∈ bl → p x) (hw : ∀ x, x ∈ ws → p x.bytes) (hb : b.toNat < bl.length) : ∀ j, j ≤ ws.length → p (readN bl ws b j)
  | 0, _ => h _ (mem_at hb)
  | j + 1, hj => by
    simp only [readN]
    split
    · exact hw _ (mem_at (by omega))
    · exact readN_mem h hw hb j (by omega)

end Go.Proofs.Ythjddpkegooobaa

/-
  DRVA: long arrays, and a drive in memory. Own work.
-/
namespace Go.Proofs.Ythjddpkegooobaa
open Go.RowKit

section
variable {P : Program}
/-- a variable of many cells is made -/
theorem wpList_alloc_big {ops : Array Oper} {rest : List Oper} {op : Oper} {a : Act} {w : World} {Q : Exit → Act → World → Prop} (hgd : op.guard = none) (ty : TypeId) (ho : op.op = .alloc ty) (Z : Array Value) (hz : ∀ u, (zeroValue ty).run P u = .ok (.agg Z) u)
    (h : wpList P ops Q rest (a.put op.dst (.pointer (some ⟨w.heap.size, 0, none⟩))) (w.alloc (.cells Z ty))) : wpList P ops Q (op :: rest) a w :=
  wpList_plain hgd fun K hK => by
    unfold Oper.wp execOp
    simp only [ho, Instr.alloc, Sem.run_bind, hz, Result.andThen_ok]
    exact hK _ _ h
/-- a whole value goes into the variable that was made last -/
theorem wpList_store_new {ops : Array Oper} {rest : List Oper} {op : Oper} {a : Act} {w : World} {Q : Exit → Act → World → Prop} (hgd : op.guard = none) (ty : TypeId) (x y : Operand) (ho : op.op = .store ty x y)
    (Z C : Array Value) (hx : a.eval x = .pointer (some ⟨w.heap.size, 0, none⟩)) (hy : a.eval y = .agg C) (hi : (P.info? ty).map (·.size) = some C.size) (hs : Z.size = C.size) (h1 : C.all (·.oneCell') = true)
    (h : wpList P ops Q rest (a.put op.dst undef) (w.alloc (.cells C ty))) : wpList P ops Q (op :: rest) a (w.alloc (.cells Z ty)) :=
  wpList_plain hgd fun K hK => by
    unfold Oper.wp execOp
    simp only [ho, hx, hy, Sem.run_bind, run_storeAt_new (P := P) w ty Z C hi hs h1, Result.andThen_ok]
    exact hK _ _ h
end

set_option maxRecDepth 100000 in
theorem size_content : (Try.prog.info? 110).map (·.size) = some 64 := by kernel_rfl
set_option maxRecDepth 100000 in
theorem size_contents : (Try.prog.info? 112).map (·.size) = some 8320 := by kernel_rfl
set_option maxRecDepth 100000 in
theorem size_pending : (Try.prog.info? 166).map (·.size) = some 65 := by kernel_rfl
set_option maxRecDepth 100000 in
theorem size_drive : (Try.prog.info? 115).map (·.size) = some 8322 := by kernel_rfl

/-- zeros -/
def zeros (n : Nat) : List Value := List.replicate n (.int .u8 0)
set_option maxRecDepth 100000 in
theorem zero_content : (Try.prog.info? 110).map (fun i => (i.zero, i.size)) = some (some (.agg (zeros 64).toArray), 64) := by kernel_rfl
set_option maxRecDepth 100000 in
theorem zero_pending : (Try.prog.info? 166).map (fun i => (i.zero, i.size)) = some (some (.agg (.int .i64 0 :: zeros 64).toArray), 65) := by kernel_rfl
set_option maxRecDepth 100000 in
theorem info_pending : (Try.prog.info? 166).map (fun i => (i.zero, i.size, i.bytes)) = some (some (.agg (.int .i64 0 :: zeros 64).toArray), 65, 72) := by kernel_rfl
set_option maxRecDepth 100000 in
theorem zero_drive : (Try.prog.info? 115).map (fun i => (i.zero, i.size)) = some (some (.agg (zeros 8320 ++ [Value.slice none 0 0, Value.nilFunc]).toArray), 8322) := by kernel_rfl

theorem cells_u8 {bs : List Nat} : ∀ v, v ∈ bcells bs → v.oneCell' = true := fun v hv => by obtain ⟨x, _, rfl⟩ := List.mem_map.1 hv; rfl
theorem bytes_range {w : World} {b off : Nat} {bs : List Nat} (h : w.rangeAt b off (bcells bs)) : BytesAt w (some ⟨b, off, none⟩) bs := fun i hi => ⟨b, off, rfl, h i _ (bcells_get hi)⟩
theorem range_bytes {w : World} {b off : Nat} {bs : List Nat} (h : BytesAt w (some ⟨b, off, none⟩) bs) : w.rangeAt b off (bcells bs) := fun j v hj => by
  have hjl : j < bs.length := by have := (List.getElem?_eq_some_iff.1 hj).1; rwa [bcells_length] at this
  obtain ⟨b', off', e, hc⟩ := h j hjl
  have e' : b' = b ∧ off' = off := by
    have := Option.some.inj e
    exact ⟨(congrArg Addr.block this).symm, (congrArg Addr.off this).symm⟩
  obtain ⟨rfl, rfl⟩ := e'
  rw [hc, ← bcells_get hjl, hj]
theorem range_same {w w' : World} {b o : Nat} {cs : List Value} (h : w.rangeAt b o cs) (e : w'.heap[b]? = w.heap[b]?) : w'.rangeAt b o cs := fun j v hj => (World.cell?_of_block (w := w) e).trans (h j v hj)
theorem there_same {w w' : World} {b o n : Nat} (h : w.there b o n) (e : w'.heap[b]? = w.heap[b]?) : w'.there b o n := fun j hj => ⟨by rw [World.cell?_of_block (w := w) e]; exact (h j hj).1, (World.frozen?_of_block (w := w) e).trans (h j hj).2⟩
theorem range_new (w : World) (cs : List Value) (t : TypeId) : (w.alloc (.cells cs.toArray t)).rangeAt w.heap.size 0 cs := fun j v hj => by
  rw [cell_of_row _ _ _ _ _ _ (heap_alloc_last w (.cells cs.toArray t)), Nat.zero_add]
  simpa using hj
theorem there_new (w : World) (cs : List Value) (t : TypeId) : (w.alloc (.cells cs.toArray t)).there w.heap.size 0 cs.length := fun j hj => by
  refine ⟨?_, ?_⟩
  · rw [cell_of_row _ _ _ _ _ _ (heap_alloc_last w (.cells cs.toArray t)), Nat.zero_add]
    simp [hj]
  · simp
theorem range_drop {w : World} {b o : Nat} {cs ds : List Value} (h : w.rangeAt b o (cs ++ ds)) : w.rangeAt b (o + cs.length) ds := fun j v hj => by
  have := h (cs.length + j) v (by rw [List.getElem?_append_right (by omega)]; simpa using hj)
  rwa [← Nat.add_assoc] at this
theorem range_take {w : World} {b o : Nat} {cs ds : List Value} (h : w.rangeAt b o (cs ++ ds)) : w.rangeAt b o cs := fun j v hj => h j v (by rw [List.getElem?_append_left ((List.getElem?_eq_some_iff.1 hj).1)]; exact hj)
theorem there_part {w : World} {b o n o' n' : Nat} (h : w.there b o n) (h1 : o ≤ o') (h2 : o' + n' ≤ o + n) : w.there b o' n' := fun j hj => by
  have := h (o' - o + j) (by omega)
  rwa [show o + (o' - o + j) = o' + j by omega] at this
theorem Kept.setCells {p : Nat → Prop} {b : Nat} : ∀ (vs : List Value) (o : Nat) {w w' : World}, Kept p w w' → (b < w.heap.size → p b) → Kept p w (w'.setCells b o vs)
  | [], _, _, _, h, _ => h
  | v :: r, o, _w, _w', h, hb => Kept.setCells r (o + 1) (h.set (a := ⟨b, o, none⟩) hb v) hb

/-- a drive in memory: its blocks, its writes' slice, its function -/
structure Drv (w : World) (p : Nat) (bl : List (List Nat)) (s k : Value) : Prop where
  lt : p < w.heap.size
  len : bl.length = 130
  bb : ∀ i, i < 130 → bl[i]!.length = 64
  rng : ∀ i, i < 130 → w.rangeAt p (i * 64) (bcells bl[i]!)
  th : w.there p 0 8322
  ws : w.cell? ⟨p, 8320, none⟩ = some s
  kf : w.cell? ⟨p, 8321, none⟩ = some k
theorem Drv.same {w w' : World} {p : Nat} {bl : List (List Nat)} {s k : Value} (h : Drv w p bl s k) (e : w'.heap[p]? = w.heap[p]?) (hl : p < w'.heap.size) : Drv w' p bl s k :=
  ⟨hl, h.len, h.bb, fun i hi => range_same (h.rng i hi) e, there_same h.th e, (World.cell?_of_block (w := w) e).trans h.ws, (World.cell?_of_block (w := w) e).trans h.kf⟩
theorem Drv.kept {q : Nat → Prop} {w w' : World} {p : Nat} {bl : List (List Nat)} {s k : Value} (h : Drv w p bl s k) (K : Kept q w w') (hn : ¬ q p) : Drv w' p bl s k := h.same (K.block p h.lt hn) (Nat.lt_of_lt_of_le h.lt K.size)
theorem Drv.grow {w w' : World} {p : Nat} {bl : List (List Nat)} {s k : Value} (h : Drv w p bl s k) (hb : Below w.heap.size w w') : Drv w' p bl s k := h.same (hb.block p h.lt) (Nat.lt_of_lt_of_le h.lt hb.size)
theorem Drv.frozen {w : World} {p : Nat} {bl : List (List Nat)} {s k : Value} (h : Drv w p bl s k) {o : Nat} (ho : o < 8322) : w.frozen? ⟨p, o, none⟩ = false := by
  have := (h.th o ho).2
  rwa [Nat.zero_add] at this
/-- a block is written -/
theorem Drv.setB {w : World} {p : Nat} {bl : List (List Nat)} {s k : Value} (h : Drv w p bl s k) {x : DW} (h0 : 0 ≤ x.block) (h1 : x.block < 130) (hl : x.bytes.length = 64) : Drv (w.setCells p (x.block.toNat * 64) (bcells x.bytes)) p (setB bl x) s k := by
  have hi0 : x.block.toNat < 130 := by omega
  have hth := there_part h.th (Nat.zero_le (x.block.toNat * 64)) (n' := 64) (by omega)
  have hlen : (bcells x.bytes).length = 64 := by rw [bcells_length, hl]
  have hout : ∀ o, x.block.toNat * 64 + 64 ≤ o → (w.setCells p (x.block.toNat * 64) (bcells x.bytes)).cell? ⟨p, o, none⟩ = w.cell? ⟨p, o, none⟩ := fun o ho =>
    World.cell?_setCells_out p _ _ w ⟨p, o, none⟩ (fun _ _ => Or.inr (by rw [hlen]; exact ho))
  refine ⟨by have := (Kept.setCells (bcells x.bytes) (x.block.toNat * 64) (Kept.refl (fun b => b = p) w) (fun _ => rfl)).size; have := h.lt; omega, by rw [setB_length]; exact h.len, fun i hi => ?_, fun i hi => ?_, World.there_setCells h.th _ _ _, (hout _ (by omega)).trans h.ws, (hout _ (by omega)).trans h.kf⟩
  · rw [setB_get (by rw [h.len]; exact hi)]
    split
    · exact hl
    · exact h.bb i hi
  · rw [setB_get (by rw [h.len]; exact hi)]
    split
    · rename_i e; subst e
      exact World.rangeAt_setCells_same _ _ _ _ (by rw [hlen]; exact hth)
    · rename_i e
      refine World.rangeAt_setCells_apart (h.rng i hi) _ _ _ (Or.inr ?_)
      rw [bcells_length, h.bb i hi, hlen]
      omega
/-- its writes' slice is written -/
theorem Drv.setW {w : World} {p : Nat} {bl : List (List Nat)} {s k : Value} (h : Drv w p bl s k) (s' : Value) : Drv (w.setCell ⟨p, 8320, none⟩ s') p bl s' k := by
  refine ⟨by have := h.lt; simpa [World.setCell] using this, h.len, h.bb, fun i hi => ?_, ?_, World.cell?_setCell_same _ _ _ h.ws, (World.cell?_setCell_other _ _ _ _ (by simp)).trans h.kf⟩
  · exact World.rangeAt_setCells_apart (h.rng i hi) p 8320 [s'] (Or.inr (Or.inl (by rw [bcells_length, h.bb i hi]; omega)))
  · exact World.there_setCells h.th p 8320 [s']
theorem Drv.setK {w : World} {p : Nat} {bl : List (List Nat)} {s k : Value} (h : Drv w p bl s k) (k' : Value) : Drv (w.setCell ⟨p, 8321, none⟩ k') p bl s k' := by
  refine ⟨by have := h.lt; simpa [World.setCell] using this, h.len, h.bb, fun i hi => ?_, ?_, (World.cell?_setCell_other _ _ _ _ (by simp)).trans h.ws, World.cell?_setCell_same _ _ _ h.kf⟩
  · exact World.rangeAt_setCells_apart (h.rng i hi) p 8321 [k'] (Or.inr (Or.inl (by rw [bcells_length, h.bb i hi]; omega)))
  · exact World.there_setCells h.th p 8321 [k']

/-- a waiting write, as the drive has it -/
def DW.pc (x : DW) : List Value := .int .i64 x.block :: bcells x.bytes
def pCells (ws : List DW) : List Value := ws.flatMap DW.pc
theorem pCells_snoc (ws : List DW) (x : DW) : pCells (ws ++ [x]) = pCells ws ++ x.pc := by simp [pCells]
theorem pc_length {x : DW} (h : x.bytes.length = 64) : x.pc.length = 65 := by simp [DW.pc, bcells_length, h]
theorem pc_one {x : DW} : ∀ v, v ∈ x.pc → v.oneCell' = true := fun v hv => by
  rcases List.mem_cons.1 hv with e | e
  · subst e; rfl
  · exact cells_u8 v e
theorem pCells_get : ∀ (ws : List DW) (i j : Nat), (∀ x, x ∈ ws → x.bytes.length = 64) → i < ws.length → j < 65 → (pCells ws)[i * 65 + j]? = (ws[i]!.pc)[j]?
  | [], _, _, _, hi, _ => absurd hi (Nat.not_lt_zero _)
  | x :: r, 0, j, hw, _, hj => by
    have := pc_length (hw x (List.mem_cons_self ..))
    rw [pCells, List.flatMap_cons, Nat.zero_mul, Nat.zero_add, List.getElem?_append_left (by omega)]
    rfl
  | x :: r, i + 1, j, hw, hi, hj => by
    have hx := pc_length (hw x (List.mem_cons_self ..))
    have hlt : i < r.length := by simpa using hi
    have ih := pCells_get r i j (fun y hy => hw y (List.mem_cons_of_mem _ hy)) hlt hj
    rw [pCells, List.flatMap_cons, List.getElem?_append_right (by rw [hx, Nat.add_mul]; omega), hx, show (i + 1) * 65 + j - 65 = i * 65 + j by rw [Nat.add_mul]; omega]
    rw [pCells] at ih
    rw [ih, getElem!_pos r i hlt, getElem!_pos (x :: r) (i + 1) hi]
    rfl
theorem owns_pend {w : World} {base t n cap : Nat} {a : Option Addr} {ws : List DW} (ho : w.ownsRow base t 65 (.slice a n cap) n (pCells ws)) (hw : ∀ x, x ∈ ws → x.bytes.length = 64) {k : Nat} (hk : k < ws.length) : ∃ g, a = some ⟨g, 0, none⟩ ∧ base ≤ g ∧ g < w.heap.size ∧ w.rangeAt g (k * 65) (ws[k]!.pc) := by
  have hpl : (ws[k]!.pc).length = 65 := pc_length (hw _ (mem_at hk))
  have h0 : (pCells ws)[k * 65 + 0]? = some (.int .i64 ws[k]!.block) := (pCells_get ws k 0 hw hk (by omega)).trans rfl
  obtain ⟨g, ha, hb, hlt, _⟩ := owns_cell ho h0
  refine ⟨g, ha, hb, hlt, fun j v hj => ?_⟩
  have hj65 : j < 65 := by have := (List.getElem?_eq_some_iff.1 hj).1; omega
  obtain ⟨g', ha', _, _, hc⟩ := owns_cell ho ((pCells_get ws k j hw hk hj65).trans hj)
  rw [ha] at ha'
  obtain rfl := some_addr ha'
  exact hc

end Go.Proofs.Ythjddpkegooobaa
