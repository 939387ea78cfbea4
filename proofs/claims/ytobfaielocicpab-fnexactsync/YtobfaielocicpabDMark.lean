/-
  DMARK: disks that may be marked, and their marks. Own work.
-/
import Derived.Test.YtobfaielocicpabBytes
import Derived.Test.YtobfaielocicpabDTo
namespace Go.Proofs.Ytobfaielocicpab
open Go.RowKit

/-- two places that are not one block -/
def Apart (a a' : Option Addr) : Prop := ∀ b, a = some ⟨b, 0, none⟩ → a' ≠ some ⟨b, 0, none⟩
theorem Apart.symm {a a' : Option Addr} (h : Apart a a') : Apart a' a := fun b hb hx => h b hx hb

/-- bytes in a row of their own between two bounds -/
def BB (w : World) (lo hi : Nat) (oa : Option Addr) (bs : List Nat) : Prop := bs = [] ∨ ∃ G n, oa = some ⟨G, 0, none⟩ ∧ lo ≤ G ∧ G < hi ∧ BRow w G n bs
theorem BB.bytes {w : World} {lo hi : Nat} {oa : Option Addr} {bs : List Nat} (h : BB w lo hi oa bs) : BytesAt w oa bs := by
  rcases h with rfl | ⟨G, n, rfl, _, _, h⟩
  · exact fun i hi => absurd hi (Nat.not_lt_zero _)
  · exact brow_bytes h
theorem BB.kept {p : Nat → Prop} {w w' : World} {lo hi : Nat} {oa : Option Addr} {bs : List Nat} (h : BB w lo hi oa bs) (k : Kept p w w') (hn : ∀ b, oa = some ⟨b, 0, none⟩ → bs ≠ [] → ¬ p b) : BB w' lo hi oa bs := by
  by_cases e : bs = []
  · exact Or.inl e
  · rcases h with h | ⟨G, n, h1, h2, h3, h4⟩
    · exact Or.inl h
    · exact Or.inr ⟨G, n, h1, h2, h3, h4.kept k (hn G h1 e)⟩
theorem BB.mono {w : World} {lo hi lo' hi' : Nat} {oa : Option Addr} {bs : List Nat} (h : BB w lo hi oa bs) (h1 : lo' ≤ lo) (h2 : hi ≤ hi') : BB w lo' hi' oa bs := by
  rcases h with h | ⟨G, n, a1, a2, a3, a4⟩
  · exact Or.inl h
  · exact Or.inr ⟨G, n, a1, by omega, by omega, a4⟩

/-- lists of bytes that may be marked -/
structure MBs (w : World) (lo hi : Nat) (a : Option Addr) (n : Nat) (F : Nat → List Nat) (fa : Nat → Option Addr) (fc : Nat → Nat) : Prop where
  row : 0 < n → ∃ g m f, a = some ⟨g, 0, none⟩ ∧ lo ≤ g ∧ g < hi ∧ w.rowIs g 28 m f ∧ n ≤ m ∧ ∀ i, i < n → f i = .slice (fa i) (F i).length (fc i)
  byt : ∀ i, i < n → BB w lo hi (fa i) (F i)
  far : ∀ i j, i < j → j < n → Apart (fa i) (fa j)
/-- writes that may be marked -/
structure MWs (w : World) (lo hi : Nat) (a : Option Addr) (n : Nat) (B : Nat → Int) (F : Nat → List Nat) (fa : Nat → Option Addr) (fc : Nat → Nat) : Prop where
  row : 0 < n → ∃ g m f, a = some ⟨g, 0, none⟩ ∧ lo ≤ g ∧ g < hi ∧ w.rowIs g 133 m f ∧ n * 2 ≤ m ∧ ∀ i, i < n → f (i * 2) = .int .i64 (B i) ∧ f (i * 2 + 1) = .slice (fa i) (F i).length (fc i)
  byt : ∀ i, i < n → BB w lo hi (fa i) (F i)
  far : ∀ i j, i < j → j < n → Apart (fa i) (fa j)

theorem MBs.ne {w : World} {lo hi : Nat} {a : Option Addr} {n : Nat} {F : Nat → List Nat} {fa : Nat → Option Addr} {fc : Nat → Nat} (h : MBs w lo hi a n F fa fc) {i j : Nat} (hi : i < n) (hj : j < n) (hij : i ≠ j) : Apart (fa i) (fa j) := by
  rcases Nat.lt_or_gt_of_ne hij with e | e
  · exact h.far i j e hj
  · exact (h.far j i e hi).symm
theorem MWs.ne {w : World} {lo hi : Nat} {a : Option Addr} {n : Nat} {B : Nat → Int} {F : Nat → List Nat} {fa : Nat → Option Addr} {fc : Nat → Nat} (h : MWs w lo hi a n B F fa fc) {i j : Nat} (hi : i < n) (hj : j < n) (hij : i ≠ j) : Apart (fa i) (fa j) := by
  rcases Nat.lt_or_gt_of_ne hij with e | e
  · exact h.far i j e hj
  · exact (h.far j i e hi).symm

/-- a block of bytes -/
def IsB (w : World) (b : Nat) : Prop := ∃ c, w.heap[b]? = some (.cells c 5 (0, 0))
def IsW (w : World) (b : Nat) : Prop := ∃ c, w.heap[b]? = some (.cells c 133 (0, 0))
theorem BRow.isB {w : World} {a n : Nat} {xs : List Nat} (h : BRow w a n xs) : IsB w a := let ⟨c, hc, _⟩ := h; ⟨c, hc⟩
theorem rowIs_isW {w : World} {b n : Nat} {f : Nat → Value} (h : w.rowIs b 133 n f) : IsW w b := let ⟨c, hc, _⟩ := h; ⟨c, hc⟩
theorem not_B_of_bs {w : World} {b n : Nat} {f : Nat → Value} (h : w.rowIs b 28 n f) : ¬ IsB w b := fun ⟨c, hc⟩ => by
  obtain ⟨c', hc', _⟩ := h
  rw [hc] at hc'
  simp at hc'
theorem not_W_of_bs {w : World} {b n : Nat} {f : Nat → Value} (h : w.rowIs b 28 n f) : ¬ IsW w b := fun ⟨c, hc⟩ => by
  obtain ⟨c', hc', _⟩ := h
  rw [hc] at hc'
  simp at hc'
theorem not_B_of_W {w : World} {b : Nat} (h : IsW w b) : ¬ IsB w b := fun ⟨c, hc⟩ => by
  obtain ⟨c', hc'⟩ := h
  rw [hc] at hc'
  simp at hc'

/-- the bytes' blocks of a list -/
def TB (n : Nat) (F : Nat → List Nat) (fa : Nat → Option Addr) (b : Nat) : Prop := ∃ i, i < n ∧ F i ≠ [] ∧ fa i = some ⟨b, 0, none⟩

theorem MBs.tb {w : World} {lo hi : Nat} {a : Option Addr} {n : Nat} {F : Nat → List Nat} {fa : Nat → Option Addr} {fc : Nat → Nat} (h : MBs w lo hi a n F fa fc) {b : Nat} (hb : TB n F fa b) : lo ≤ b ∧ b < hi ∧ IsB w b := by
  obtain ⟨i, hi, hn, e⟩ := hb
  rcases h.byt i hi with h0 | ⟨G, m, h1, h2, h3, h4⟩
  · exact absurd h0 hn
  · rw [e] at h1
    obtain rfl := some_addr h1
    exact ⟨h2, h3, h4.isB⟩
theorem MWs.tb {w : World} {lo hi : Nat} {a : Option Addr} {n : Nat} {B : Nat → Int} {F : Nat → List Nat} {fa : Nat → Option Addr} {fc : Nat → Nat} (h : MWs w lo hi a n B F fa fc) {b : Nat} (hb : TB n F fa b) : lo ≤ b ∧ b < hi ∧ IsB w b := by
  obtain ⟨i, hi, hn, e⟩ := hb
  rcases h.byt i hi with h0 | ⟨G, m, h1, h2, h3, h4⟩
  · exact absurd h0 hn
  · rw [e] at h1
    obtain rfl := some_addr h1
    exact ⟨h2, h3, h4.isB⟩

theorem MBs.kept {p : Nat → Prop} {w w' : World} {lo hi : Nat} {a : Option Addr} {n : Nat} {F : Nat → List Nat} {fa : Nat → Option Addr} {fc : Nat → Nat} (h : MBs w lo hi a n F fa fc) (k : Kept p w w') (hr : ∀ b m f, a = some ⟨b, 0, none⟩ → w.rowIs b 28 m f → ¬ p b) (hn : ∀ b, TB n F fa b → ¬ p b) : MBs w' lo hi a n F fa fc :=
  ⟨fun h0 => let ⟨g, m, f, h1, h2, h3, h4, h5⟩ := h.row h0; ⟨g, m, f, h1, h2, h3, k.rowIs h4 (hr g m f h1 h4), h5⟩, fun i hi => (h.byt i hi).kept k (fun b hb hne => hn b ⟨i, hi, hne, hb⟩), h.far⟩
theorem MWs.kept {p : Nat → Prop} {w w' : World} {lo hi : Nat} {a : Option Addr} {n : Nat} {B : Nat → Int} {F : Nat → List Nat} {fa : Nat → Option Addr} {fc : Nat → Nat} (h : MWs w lo hi a n B F fa fc) (k : Kept p w w') (hr : ∀ b m f, a = some ⟨b, 0, none⟩ → w.rowIs b 133 m f → ¬ p b) (hn : ∀ b, TB n F fa b → ¬ p b) : MWs w' lo hi a n B F fa fc :=
  ⟨fun h0 => let ⟨g, m, f, h1, h2, h3, h4, h5⟩ := h.row h0; ⟨g, m, f, h1, h2, h3, k.rowIs h4 (hr g m f h1 h4), h5⟩, fun i hi => (h.byt i hi).kept k (fun b hb hne => hn b ⟨i, hi, hne, hb⟩), h.far⟩

theorem BB.range {w : World} {lo hi : Nat} {oa : Option Addr} {bs : List Nat} (h : BB w lo hi oa bs) {b : Nat} (e : oa = some ⟨b, 0, none⟩) (hn : bs ≠ []) : lo ≤ b ∧ b < hi := by
  rcases h with h0 | ⟨G, m, h1, h2, h3, _⟩
  · exact absurd h0 hn
  · rw [e] at h1
    obtain rfl := some_addr h1
    exact ⟨h2, h3⟩
theorem MBs.out {p : Nat → Prop} {w w' : World} {lo hi : Nat} {a : Option Addr} {n : Nat} {F : Nat → List Nat} {fa : Nat → Option Addr} {fc : Nat → Nat} (h : MBs w lo hi a n F fa fc) (k : Kept p w w') (hp : ∀ b, lo ≤ b → b < hi → ¬ p b) : MBs w' lo hi a n F fa fc :=
  ⟨fun h0 => let ⟨g, m, f, h1, h2, h3, h4, h5⟩ := h.row h0; ⟨g, m, f, h1, h2, h3, k.rowIs h4 (hp g h2 h3), h5⟩, fun i hi => (h.byt i hi).kept k (fun b hb hne => let r := (h.byt i hi).range hb hne; hp b r.1 r.2), h.far⟩
theorem MWs.out {p : Nat → Prop} {w w' : World} {lo hi : Nat} {a : Option Addr} {n : Nat} {B : Nat → Int} {F : Nat → List Nat} {fa : Nat → Option Addr} {fc : Nat → Nat} (h : MWs w lo hi a n B F fa fc) (k : Kept p w w') (hp : ∀ b, lo ≤ b → b < hi → ¬ p b) : MWs w' lo hi a n B F fa fc :=
  ⟨fun h0 => let ⟨g, m, f, h1, h2, h3, h4, h5⟩ := h.row h0; ⟨g, m, f, h1, h2, h3, k.rowIs h4 (hp g h2 h3), h5⟩, fun i hi => (h.byt i hi).kept k (fun b hb hne => let r := (h.byt i hi).range hb hne; hp b r.1 r.2), h.far⟩

/-- where the marks end -/
def bE (F : Nat → List Nat) (k : Nat) : Nat → Nat
  | 0 => k
  | j + 1 => bE F k j + (F j).length
def wE (F : Nat → List Nat) (k : Nat) : Nat → Nat
  | 0 => k
  | j + 1 => wE F k j + 1 + (F j).length
def bM (F : Nat → List Nat) (k i : Nat) : List Nat := marksB (bE F k i) (F i).length
def wM (F : Nat → List Nat) (k i : Nat) : List Nat := marksB (wE F k i + 1) (F i).length
theorem bE_le (F : Nat → List Nat) (k : Nat) : ∀ {i j : Nat}, i ≤ j → bE F k i ≤ bE F k j
  | i, 0, h => by obtain rfl : i = 0 := by omega
                  exact Nat.le_refl _
  | i, j + 1, h => by
    by_cases e : i = j + 1
    · subst e; exact Nat.le_refl _
    · have := bE_le F k (show i ≤ j by omega)
      simp only [bE]; omega
theorem wE_le (F : Nat → List Nat) (k : Nat) : ∀ {i j : Nat}, i ≤ j → wE F k i ≤ wE F k j
  | i, 0, h => by obtain rfl : i = 0 := by omega
                  exact Nat.le_refl _
  | i, j + 1, h => by
    by_cases e : i = j + 1
    · subst e; exact Nat.le_refl _
    · have := wE_le F k (show i ≤ j by omega)
      simp only [wE]; omega
theorem bE_sz (ls : List (List Nat)) (k : Nat) : ∀ j, j ≤ ls.length → (bE (fun i => ls[i]!) k j : Int) = k + szBs (ls.take j)
  | 0, _ => by simp [bE, szBs]
  | j + 1, h => by
    have ih := bE_sz ls k j (by omega)
    rw [szBs_take_succ ls j (by omega)]
    simp only [bE]
    omega
theorem wE_sz (ls : List DW) (k : Nat) : ∀ j, j ≤ ls.length → (wE (fun i => ls[i]!.bytes) k j : Int) = k + j + szWs (ls.take j)
  | 0, _ => by simp [wE, szWs]
  | j + 1, h => by
    have ih := wE_sz ls k j (by omega)
    rw [szWs_take_succ ls j (by omega)]
    simp only [wE]
    omega

set_option maxRecDepth 100000 in
theorem markByteS_none (oa : Option Addr) (cap k : Nat) (w : World) :
    Calls Try.prog 22 #[.slice oa 0 cap, .int .i64 k] w fun e w' => e = .returned (.int .i64 k) ∧ w' = w := by
  go_enter Try.func22, Try.ntmps22
  go_wp2
  go_loopw [1, 5] (fun c i wr => c = .int .i64 k ∧ i = .int .i64 0 ∧ wr = w) (fun _ _ _ => 0)
  case atStart => exact ⟨rfl, rfl, rfl⟩
  case round =>
    obtain ⟨rfl, rfl, rfl⟩ := hrel
    go_wp2
    go_ret
    exact ⟨rfl, rfl⟩

set_option maxRecDepth 100000 in
theorem markBytes_any (oa : Option Addr) (bs : List Nat) (cap k lo hi : Nat) (w : World) (hl : bs.length ≤ 1048576) (hk : k ≤ 1099511627776) (hM : BB w lo hi oa bs) :
    Calls Try.prog 22 #[.slice oa bs.length cap, .int .i64 k] w fun e w' => e = .returned (.int .i64 ((k + bs.length : Nat) : Int)) ∧ BB w' lo hi oa (marksB k bs.length) ∧ Kept (fun b => bs ≠ [] ∧ oa = some ⟨b, 0, none⟩) w w' := by
  by_cases e0 : bs = []
  · subst e0
    refine (markByteS_none oa cap k w).mono ?_
    rintro e w' ⟨rfl, h2⟩
    exact ⟨rfl, Or.inl (by simp [marksB]), by rw [h2]; exact Kept.refl _ _⟩
  · rcases hM with h | ⟨G, n, rfl, hG, hGh, hB⟩
    · exact absurd h e0
    · refine (markByteS_any _ bs cap k lo w hl hk (Or.inr ⟨G, n, rfl, hG, hB⟩)).mono ?_
      rintro e w' ⟨rfl, h1, h2⟩
      refine ⟨rfl, ?_, h2.mono (fun b _ h => ⟨e0, h.2⟩)⟩
      rcases h1 with h1 | ⟨G', n', h3, h4, h5⟩
      · exact Or.inl h1
      · have := some_addr h3
        subst this
        exact Or.inr ⟨G, n', rfl, hG, hGh, h5⟩

/-- one list of bytes, marked -/
theorem MBs.step {w w' : World} {lo hi : Nat} {a : Option Addr} {n : Nat} {F : Nat → List Nat} {fa : Nat → Option Addr} {fc : Nat → Nat} (h : MBs w lo hi a n F fa fc) {j : Nat} (hj : j < n) {ys : List Nat} (hy : ys.length = (F j).length) (hB : BB w' lo hi (fa j) ys) (hK : Kept (fun b => F j ≠ [] ∧ fa j = some ⟨b, 0, none⟩) w w') :
    MBs w' lo hi a n (fun i => if i = j then ys else F i) fa fc := by
  have hp : ∀ b, F j ≠ [] ∧ fa j = some ⟨b, 0, none⟩ → IsB w b := fun b hb => (h.tb ⟨j, hj, hb.1, hb.2⟩).2.2
  refine ⟨fun h0 => ?_, fun i hi => ?_, h.far⟩
  · obtain ⟨g, m, f, h1, h2, h3, h4, h5, h6⟩ := h.row h0
    refine ⟨g, m, f, h1, h2, h3, hK.rowIs h4 (fun hb => not_B_of_bs h4 (hp g hb)), h5, fun i hi => ?_⟩
    show f i = .slice (fa i) (if i = j then ys else F i).length (fc i)
    split
    · rename_i e; subst e; rw [hy]; exact h6 i hi
    · exact h6 i hi
  · show BB w' lo _ (fa i) (if i = j then ys else F i)
    split
    · rename_i e; subst e; exact hB
    · rename_i e
      exact (h.byt i hi).kept hK (fun b hb _ hq => h.ne hi hj e b hb hq.2)

theorem MBs.congr {w : World} {lo hi : Nat} {a : Option Addr} {n : Nat} {F G : Nat → List Nat} {fa : Nat → Option Addr} {fc : Nat → Nat} (h : MBs w lo hi a n F fa fc) (e : ∀ i, i < n → G i = F i) : MBs w lo hi a n G fa fc :=
  ⟨fun h0 => let ⟨g, m, f, h1, h2, h3, h4, h5, h6⟩ := h.row h0; ⟨g, m, f, h1, h2, h3, h4, h5, fun i hi => by rw [e i hi]; exact h6 i hi⟩, fun i hi => by rw [e i hi]; exact h.byt i hi, h.far⟩
theorem MWs.congr {w : World} {lo hi : Nat} {a : Option Addr} {n : Nat} {B C : Nat → Int} {F G : Nat → List Nat} {fa : Nat → Option Addr} {fc : Nat → Nat} (h : MWs w lo hi a n B F fa fc) (eB : ∀ i, i < n → C i = B i) (e : ∀ i, i < n → G i = F i) : MWs w lo hi a n C G fa fc :=
  ⟨fun h0 => let ⟨g, m, f, h1, h2, h3, h4, h5, h6⟩ := h.row h0; ⟨g, m, f, h1, h2, h3, h4, h5, fun i hi => by rw [e i hi, eB i hi]; exact h6 i hi⟩, fun i hi => by rw [e i hi]; exact h.byt i hi, h.far⟩

set_option maxRecDepth 100000 in
theorem markByteSS_any (a : Option Addr) (n cap k lo hi : Nat) (F : Nat → List Nat) (fa : Nat → Option Addr) (fc : Nat → Nat) (w : World) (hn : n ≤ 1048576) (hl : ∀ i, i < n → (F i).length ≤ 1048576) (hk : bE F k n ≤ 1099511627776) (h : MBs w lo hi a n F fa fc) :
    Calls Try.prog 93 #[.slice a n cap, .int .i64 k] w fun e w' => e = .returned (.int .i64 (bE F k n : Nat)) ∧ MBs w' lo hi a n (bM F k) fa fc ∧ Kept (TB n F fa) w w' := by
  go_enter Try.func93, Try.ntmps93
  go_wp2
  go_loopw [1, 5] (fun c i wr => ∃ (j q : Nat) (G : Nat → List Nat), j ≤ n ∧ Hid (q = bE F k j) ∧ c = .int .i64 (q : Int) ∧ i = .int .i64 (j : Int) ∧ MBs wr lo hi a n G fa fc ∧ (∀ i, i < j → G i = bM F k i) ∧ (∀ i, j ≤ i → G i = F i) ∧ Kept (TB n F fa) w wr) (fun _ i _ => n - (intOf i).toNat)
  case atStart => exact ⟨0, k, F, Nat.zero_le _, rfl, rfl, rfl, h, fun i hi => absurd hi (Nat.not_lt_zero _), fun _ _ => rfl, Kept.refl _ _⟩
  case round =>
    obtain ⟨j, q, G, hj, hq, rfl, rfl, hM, hG1, hG2, hK⟩ := hrel
    have hqle : q ≤ 1099511627776 := by have := bE_le F k hj; have := hq.out; omega
    by_cases hlt : j < n
    · obtain ⟨g, m, f, rfl, h2, h3, h4, h5, h6⟩ := hM.row (by omega)
      have c0 := h4.cell (i := j) (by omega)
      rw [h6 j hlt, hG2 j (Nat.le_refl _)] at c0
      have i0 : (0 : Int) ≤ (j : Int) := by omega
      have i1 : (j : Int) < (n : Int) := by omega
      have hBj := hM.byt j hlt
      rw [hG2 j (Nat.le_refl _)] at hBj
      have hlj := hl j hlt
      obtain ⟨ys, hys⟩ := hid_ex (F j)
      rw [← hys.out] at c0 hBj hlj
      go_wp2_with (go_at_call 22; refine (markBytes_any (fa j) ys (fc j) q lo hi _ hlj hqle hBj).mono ?_; rintro e w2 ⟨rfl, hB2, hK2⟩)
      go_roundw
      case rel =>
        have e1 : G j = F j := hG2 j (Nat.le_refl _)
        have hb1 : marksB q ys.length = bM F k j := by rw [hys.out, hq.out]; rfl
        refine ⟨j + 1, q + ys.length, _, by omega, by show _ = _; rw [hq.out, hys.out]; rfl, by go_num, by go_num, hM.step hlt (ys := marksB q ys.length) (by rw [marksB_length, e1, hys.out]) hB2 (hK2.mono (fun b _ hb => by rw [e1, ← hys.out]; exact hb)), fun i hi => ?_, fun i hi => ?_, hK.trans hK2 (fun b _ hb => ⟨j, hlt, by rw [← hys.out]; exact hb.1, hb.2⟩)⟩
        · show (if i = j then _ else _) = _
          split
          · rename_i e; rw [e]; exact hb1
          · exact hG1 i (by omega)
        · show (if i = j then _ else _) = _
          rw [if_neg (by omega)]; exact hG2 i (by omega)
      case measure => simp [intOf]; omega
    · obtain rfl : j = n := by omega
      go_wp2
      go_ret
      exact ⟨by rw [hq.out]; rfl, hM.congr (fun i hi => (hG1 i hi).symm), hK⟩

set_option maxRecDepth 100000 in
theorem heldByteSS_any (a : Option Addr) (n cap k lo hi : Nat) (F : Nat → List Nat) (fa : Nat → Option Addr) (fc : Nat → Nat) (w : World) (hn : n ≤ 1048576) (hl : ∀ i, i < n → (F i).length ≤ 1048576) (hk : bE F k n ≤ 1099511627776) (h : MBs w lo hi a n (bM F k) fa fc) :
    Calls Try.prog 95 #[.slice a n cap, .int .i64 k] w fun e w' => e = .returned (.int .i64 (bE F k n : Nat)) ∧ Below w.heap.size w w' := by
  go_enter Try.func95, Try.ntmps95
  go_wp2
  go_loopw [1, 5] (fun c i wr => ∃ (j q : Nat), j ≤ n ∧ Hid (q = bE F k j) ∧ c = .int .i64 (q : Int) ∧ i = .int .i64 (j : Int) ∧ Below w.heap.size w wr) (fun _ i _ => n - (intOf i).toNat)
  case atStart => exact ⟨0, k, Nat.zero_le _, rfl, rfl, rfl, gre _⟩
  case round =>
    obtain ⟨j, q, hj, hq, rfl, rfl, hb⟩ := hrel
    have hqle : q ≤ 1099511627776 := by have := bE_le F k hj; have := hq.out; omega
    have hM := h.out (Kept.of_below hb (fun _ => False)) (fun _ _ _ e => e)
    by_cases hlt : j < n
    · obtain ⟨g, m, f, rfl, h2, h3, h4, h5, h6⟩ := hM.row (by omega)
      have c0 := h4.cell (i := j) (by omega)
      rw [h6 j hlt] at c0
      have i0 : (0 : Int) ≤ (j : Int) := by omega
      have i1 : (j : Int) < (n : Int) := by omega
      have hBj := (hM.byt j hlt).bytes
      have hlj := hl j hlt
      unfold bM at c0 hBj
      rw [marksB_length] at c0
      rw [← hq.out] at hBj
      obtain ⟨x, hx⟩ := hid_ex (F j).length
      rw [← hx.out] at c0 hBj hlj
      have hd : ¬ ((q : Int) + (x : Int) < 0) := by omega
      go_wp2_with (go_at_call 23; refine (heldByteS_any (fa j) x (fc j) q _ hlj hqle hBj).mono ?_; rintro e w2 ⟨rfl, hb2⟩)
      go_roundw
      case rel => exact ⟨j + 1, q + x, by omega, by show _ = _; rw [hq.out, hx.out]; rfl, by go_num, by go_num, gca hb hb2⟩
      case measure => simp [intOf]; omega
    · obtain rfl : j = n := by omega
      go_wp2
      go_ret
      exact ⟨by rw [hq.out]; rfl, hb⟩

end Go.Proofs.Ytobfaielocicpab
