import Derived.Deep.RegionHeld3
import Derived.Deep.QuietTactic
import Derived.BigQuiet
import Derived.Laws.BytesArg
import Derived.Test.YthjddpkegooobacGreatPartU

/-
  DMARK2: marks in writes and disks. Own work.
-/
namespace Go.Proofs.YthjddpkegooobacGreat
open Go.RowKit

/-- one write, marked -/
theorem MWs.step {w w' : World} {lo hi : Nat} {a : Option Addr} {n : Nat} {B : Nat → Int} {F : Nat → List Nat} {fa : Nat → Option Addr} {fc : Nat → Nat} (h : MWs w lo hi a n B F fa fc) {j : Nat} (hj : j < n) {g : Nat} (hg : a = some ⟨g, 0, none⟩) (k : Int) {ys : List Nat} (hy : ys.length = (F j).length) (hB : BB w' lo hi (fa j) ys) (hK : Kept (fun b => F j ≠ [] ∧ fa j = some ⟨b, 0, none⟩) (w.setCell ⟨g, j * 2, none⟩ (.int .i64 k)) w') :
    MWs w' lo hi a n (fun i => if i = j then k else B i) (fun i => if i = j then ys else F i) fa fc := by
  obtain ⟨g', m, f, h1, h2, h3, h4, h5, h6⟩ := h.row (by omega)
  rw [hg] at h1
  obtain rfl := some_addr h1
  have hp : ∀ b, F j ≠ [] ∧ fa j = some ⟨b, 0, none⟩ → IsB w b := fun b hb => (h.tb ⟨j, hj, hb.1, hb.2⟩).2.2
  have hS := (Kept.refl (fun b => b = g) w).set (a := ⟨g, j * 2, none⟩) (fun _ => rfl) (.int .i64 k)
  refine ⟨fun _ => ?_, fun i hi => ?_, h.far⟩
  · refine ⟨g, m, _, hg, h2, h3, hK.rowIs (h4.set (j * 2) (.int .i64 k)) (fun hb => not_B_of_W (rowIs_isW h4) (hp g hb)), h5, fun i hi => ⟨?_, ?_⟩⟩
    · show (if i * 2 = j * 2 then _ else _) = _
      by_cases e : i = j
      · subst e; simp
      · rw [if_neg (by omega), if_neg e]; exact (h6 i hi).1
    · show (if i * 2 + 1 = j * 2 then _ else _) = Value.slice (fa i) (if i = j then ys else F i).length (fc i)
      rw [if_neg (by omega)]
      split
      · rename_i e; subst e; rw [hy]; exact (h6 i hi).2
      · exact (h6 i hi).2
  · show BB w' lo _ (fa i) (if i = j then ys else F i)
    split
    · rename_i e; subst e; exact hB
    · rename_i e
      refine ((h.byt i hi).kept hS (fun b hb hne hq => ?_)).kept hK (fun b hb _ hq => h.ne hi hj e b hb hq.2)
      subst hq
      exact not_B_of_W (rowIs_isW h4) (h.tb ⟨i, hi, hne, hb⟩).2.2

/-- what marking writes touches -/
def TW (a : Option Addr) (n : Nat) (F : Nat → List Nat) (fa : Nat → Option Addr) (b : Nat) : Prop := a = some ⟨b, 0, none⟩ ∨ TB n F fa b

set_option maxRecDepth 100000 in
theorem markWriteS_any (a : Option Addr) (n cap k lo hi : Nat) (B : Nat → Int) (F : Nat → List Nat) (fa : Nat → Option Addr) (fc : Nat → Nat) (w : World) (hn : n ≤ 1048576) (hl : ∀ i, i < n → (F i).length ≤ 1048576) (hk : wE F k n ≤ 1099511627776) (h : MWs w lo hi a n B F fa fc) :
    Calls Tryz.prog 34 #[.slice a n cap, .int .i64 k] w fun e w' => e = .returned (.int .i64 (wE F k n : Nat)) ∧ MWs w' lo hi a n (fun i => (wE F k i : Nat)) (wM F k) fa fc ∧ Kept (fun b => 0 < n ∧ TW a n F fa b) w w' := by
  go_enter Tryz.func34, Tryz.ntmps34
  go_wp2
  go_loopw [1, 5] (fun c i wr => ∃ (j q : Nat) (C : Nat → Int) (G : Nat → List Nat), j ≤ n ∧ Hid (q = wE F k j) ∧ c = .int .i64 (q : Int) ∧ i = .int .i64 (j : Int) ∧ MWs wr lo hi a n C G fa fc ∧ (∀ i, i < j → C i = (wE F k i : Nat) ∧ G i = wM F k i) ∧ (∀ i, j ≤ i → G i = F i) ∧ Kept (fun b => 0 < n ∧ TW a n F fa b) w wr) (fun _ i _ => n - (intOf i).toNat)
  case atStart => exact ⟨0, k, B, F, Nat.zero_le _, rfl, rfl, rfl, h, fun i hi => absurd hi (Nat.not_lt_zero _), fun _ _ => rfl, Kept.refl _ _⟩
  case round =>
    obtain ⟨j, q, C, G, hj, hq, rfl, rfl, hM, hG1, hG2, hK⟩ := hrel
    have hqle : q ≤ 1099511627776 := by have := wE_le F k hj; have := hq.out; omega
    by_cases hlt : j < n
    · obtain ⟨g, m, f, rfl, h2, h3, h4, h5, h6⟩ := hM.row (by omega)
      have hq2 : q + 1 ≤ 1099511627776 := by have h8 := wE_le F k (show j + 1 ≤ n by omega); have h9 := hq.out; simp only [wE] at h8; omega
      have c0 := h4.cell (i := j * 2) (by omega)
      have c1 := h4.cell (i := j * 2 + 1) (by omega)
      have fz := h4.frozen
      rw [(h6 j hlt).1] at c0
      rw [(h6 j hlt).2, hG2 j (Nat.le_refl _)] at c1
      have c1' := (World.cell?_setCell_other wr ⟨g, j * 2, none⟩ ⟨g, j * 2 + 1, none⟩ (.int .i64 (q : Int)) (by simp)).trans c1
      have i0 : (0 : Int) ≤ (j : Int) := by omega
      have i1 : (j : Int) < (n : Int) := by omega
      have hBj := hM.byt j hlt
      have hBj := hBj.kept ((Kept.refl (fun b => b = g) wr).set (a := ⟨g, j * 2, none⟩) (fun _ => rfl) (.int .i64 (q : Int))) (fun b hb hne hq => by subst hq; exact not_B_of_W (rowIs_isW h4) (hM.tb ⟨j, hlt, hne, hb⟩).2.2)
      rw [hG2 j (Nat.le_refl _)] at hBj
      have hlj := hl j hlt
      obtain ⟨ys, hys⟩ := hid_ex (F j)
      rw [← hys.out] at c1 c1' hBj hlj
      go_wp2_with (go_at_call 69; rw [show ((q : Int) + 1) = ((q + 1 : Nat) : Int) by omega]; refine (markBytes_any (fa j) ys (fc j) (q + 1) lo hi _ hlj hq2 hBj).mono ?_; rintro e w2 ⟨rfl, hB2, hK2⟩)
      go_roundw
      case rel =>
        have e1 : G j = F j := hG2 j (Nat.le_refl _)
        have hb1 : marksB (q + 1) ys.length = wM F k j := by rw [hys.out, hq.out]; rfl
        refine ⟨j + 1, q + 1 + ys.length, _, _, by omega, by show _ = _; rw [hq.out, hys.out]; rfl, by go_num, by go_num, hM.step hlt rfl (q : Int) (ys := marksB (q + 1) ys.length) (by rw [marksB_length, e1, hys.out]) hB2 (hK2.mono (fun b _ hb => by rw [e1, ← hys.out]; exact hb)), fun i hi => ⟨?_, ?_⟩, fun i hi => ?_, (hK.set (fun _ => ⟨by omega, Or.inl rfl⟩) _).trans hK2 (fun b _ hb => ⟨by omega, Or.inr ⟨j, hlt, by rw [← hys.out]; exact hb.1, hb.2⟩⟩)⟩
        · show (if i = j then _ else _) = _
          split
          · rename_i e; rw [e, hq.out]
          · exact (hG1 i (by omega)).1
        · show (if i = j then _ else _) = _
          split
          · rename_i e; rw [e]; exact hb1
          · exact (hG1 i (by omega)).2
        · show (if i = j then _ else _) = _
          rw [if_neg (by omega)]; exact hG2 i (by omega)
      case measure => simp [intOf]; omega
    · obtain rfl : j = n := by omega
      go_wp2
      go_ret
      exact ⟨by rw [hq.out]; rfl, hM.congr (fun i hi => (hG1 i hi).1.symm) (fun i hi => (hG1 i hi).2.symm), hK⟩

set_option maxRecDepth 100000 in
theorem heldWriteS_any (a : Option Addr) (n cap k lo hi : Nat) (F : Nat → List Nat) (fa : Nat → Option Addr) (fc : Nat → Nat) (w : World) (hn : n ≤ 1048576) (hl : ∀ i, i < n → (F i).length ≤ 1048576) (hk : wE F k n ≤ 1099511627776) (h : MWs w lo hi a n (fun i => (wE F k i : Nat)) (wM F k) fa fc) :
    Calls Tryz.prog 37 #[.slice a n cap, .int .i64 k] w fun e w' => e = .returned (.int .i64 (wE F k n : Nat)) ∧ Below w.heap.size w w' := by
  go_enter Tryz.func37, Tryz.ntmps37
  go_wp2
  go_loopw [1, 5] (fun c i wr => ∃ (j q : Nat), j ≤ n ∧ Hid (q = wE F k j) ∧ c = .int .i64 (q : Int) ∧ i = .int .i64 (j : Int) ∧ Below w.heap.size w wr) (fun _ i _ => n - (intOf i).toNat)
  case atStart => exact ⟨0, k, Nat.zero_le _, rfl, rfl, rfl, gre _⟩
  case round =>
    obtain ⟨j, q, hj, hq, rfl, rfl, hb⟩ := hrel
    have hqle : q ≤ 1099511627776 := by have := wE_le F k hj; have := hq.out; omega
    have hM := h.out (Kept.of_below hb (fun _ => False)) (fun _ _ _ e => e)
    by_cases hlt : j < n
    · obtain ⟨g, m, f, rfl, h2, h3, h4, h5, h6⟩ := hM.row (by omega)
      have hq2 : q + 1 ≤ 1099511627776 := by have h8 := wE_le F k (show j + 1 ≤ n by omega); have h9 := hq.out; simp only [wE] at h8; omega
      have c0 := h4.cell (i := j * 2) (by omega)
      have c1 := h4.cell (i := j * 2 + 1) (by omega)
      rw [(h6 j hlt).1, ← hq.out] at c0
      rw [(h6 j hlt).2] at c1
      have i0 : (0 : Int) ≤ (j : Int) := by omega
      have i1 : (j : Int) < (n : Int) := by omega
      have hBj := (hM.byt j hlt).bytes
      have hlj := hl j hlt
      unfold wM at c1 hBj
      rw [marksB_length] at c1
      rw [← hq.out] at hBj
      obtain ⟨x, hx⟩ := hid_ex (F j).length
      rw [← hx.out] at c1 hBj hlj
      have hd : ¬ ((q : Int) + 1 + (x : Int) < 0) := by omega
      have hn2 : ((q : Int) != (q : Int)) = false := by simp
      go_wp2_with (go_at_call 71; rw [show ((q : Int) + 1) = ((q + 1 : Nat) : Int) by omega]; refine (heldByteS_any (fa j) x (fc j) (q + 1) _ hlj hq2 hBj).mono ?_; rintro e w2 ⟨rfl, hb2⟩)
      go_roundw
      case rel => exact ⟨j + 1, q + 1 + x, by omega, by show _ = _; rw [hq.out, hx.out]; rfl, by go_num, by go_num, gca hb hb2⟩
      case measure => simp [intOf]; omega
    · obtain rfl : j = n := by omega
      go_wp2
      go_ret
      exact ⟨by rw [hq.out]; rfl, hb⟩

/-- the same, marked from k on -/
structure MDM (w : World) (lo hi : Nat) (l : DL) (d : DD) (k : Nat) (fa ga : Nat → Option Addr) (fc gc : Nat → Nat) : Prop where
  b : MBs w lo hi l.ba d.blocks.length (bM (fun i => d.blocks[i]!) k) fa fc
  w : MWs w lo hi l.wa d.waiting.length (fun i => (wE (fun i => d.waiting[i]!.bytes) (bE (fun i => d.blocks[i]!) k d.blocks.length) i : Nat)) (wM (fun i => d.waiting[i]!.bytes) (bE (fun i => d.blocks[i]!) k d.blocks.length)) ga gc
def DD.mend (d : DD) (k : Nat) : Nat := wE (fun i => d.waiting[i]!.bytes) (bE (fun i => d.blocks[i]!) k d.blocks.length) d.waiting.length
theorem DD.mend_sz (d : DD) (k : Nat) : (d.mend k : Int) ≤ k + d.sz := by
  unfold DD.mend DD.sz
  rw [wE_sz _ _ _ (Nat.le_refl _), List.take_length, bE_sz _ _ _ (Nat.le_refl _), List.take_length]
  omega
theorem DD.mend_le (d : DD) (k : Nat) : bE (fun i => d.blocks[i]!) k d.blocks.length ≤ d.mend k := wE_le _ _ (Nat.zero_le _)

theorem MDM.out {p : Nat → Prop} {w w' : World} {lo hi : Nat} {l : DL} {d : DD} {k : Nat} {fa ga : Nat → Option Addr} {fc gc : Nat → Nat} (h : MDM w lo hi l d k fa ga fc gc) (K : Kept p w w') (hp : ∀ b, lo ≤ b → b < hi → ¬ p b) : MDM w' lo hi l d k fa ga fc gc := ⟨h.b.out K hp, h.w.out K hp⟩
theorem MDM.grow {w w' : World} {lo hi : Nat} {l : DL} {d : DD} {k : Nat} {fa ga : Nat → Option Addr} {fc gc : Nat → Nat} (h : MDM w lo hi l d k fa ga fc gc) (hb : Below w.heap.size w w') : MDM w' lo hi l d k fa ga fc gc := h.out (Kept.of_below hb (fun _ => False)) (fun _ _ _ e => e)

theorem OwnD.md {w : World} {l : DL} {lo : Nat} {bs xs : Nat → Nat} {d : DD} (h : OwnD w l lo bs xs d) : MD w lo w.heap.size l d (fun i => some ⟨bs i, 0, none⟩) (fun i => some ⟨xs i, 0, none⟩) (fun i => d.blocks[i]!.length) (fun i => d.waiting[i]!.bytes.length) := by
  obtain ⟨⟨N, h1, h2, f, h3, h4⟩, M, h5, h6, ⟨f', h7, h8⟩, h9⟩ := h
  refine ⟨⟨fun _ => ⟨N, _, f, h1, h2, h3.lt, h3, Nat.le_refl _, fun i hi => (h4 i hi).1⟩, fun i hi => ?_, fun i j hij hj => ?_⟩, ⟨fun _ => ⟨M, _, f', h5, h6, h7.lt, h7, Nat.le_refl _, fun i hi => ⟨(h8 i hi).1, (h8 i hi).2.1⟩⟩, fun i hi => ?_, fun i j hij hj => ?_⟩, fun i j hi hj => ?_⟩
  · have h0 := h4 i hi
    exact Or.inr ⟨bs i, _, rfl, by omega, h0.2.1.lt, h0.2.1⟩
  · intro b e1 e2
    have := (h4 j hj).2.2.2 i hij
    have := some_addr e1
    have := some_addr e2
    omega
  · have h0 := h8 i hi
    exact Or.inr ⟨xs i, _, rfl, by omega, h0.2.2.1.lt, h0.2.2.1⟩
  · intro b e1 e2
    have := (h8 j hj).2.2.2.2 i hij
    have := some_addr e1
    have := some_addr e2
    omega
  · intro b e1 e2
    have := h9 i hi
    have := (h8 j hj).2.2.2.1
    have := some_addr e1
    have := some_addr e2
    omega

set_option maxRecDepth 100000 in
theorem markDisk_any (d : DD) (l : DL) (k lo hi : Nat) (fa ga : Nat → Option Addr) (fc gc : Nat → Nat) (w : World) (hs : d.Small) (hk : d.mend k ≤ 1099511627776) (hhi : hi ≤ w.heap.size) (h : MD w lo hi l d fa ga fc gc) :
    Calls Tryz.prog 12 #[d.val l, .int .i64 k] w fun e w' => e = .returned (.int .i64 (d.mend k : Nat)) ∧ MDM w' lo hi l d k fa ga fc gc ∧ Kept (fun b => lo ≤ b ∧ b < hi) w w' := by
  have hA := gal (gre w) (.cells #[.slice l.ba d.blocks.length l.bc, .slice l.wa d.waiting.length l.wc] 35)
  have hbx := DBox.new w d l 35
  have hM0 := h.grow hA
  obtain ⟨q, hq⟩ := hid_ex (bE (fun i => d.blocks[i]!) k d.blocks.length)
  have hmd : Hid (d.mend k = wE (fun i => d.waiting[i]!.bytes) q d.waiting.length) := by show _ = _; rw [hq.out]; rfl
  have hqk : q ≤ 1099511627776 := by rw [hq.out]; exact Nat.le_trans (d.mend_le k) hk
  go_enter Tryz.func12, Tryz.ntmps12
  go_wp2_with (go_at_call 33; refine (markByteSS_any l.ba d.blocks.length l.bc k lo hi (fun i => d.blocks[i]!) fa fc _ hs.bl (fun i hi => hs.bb _ (mem_at hi)) (by rw [← hq.out]; exact hqk) hM0.b).mono ?_; rintro e w1 ⟨rfl, hM1, hK1⟩; rw [← hq.out]; obtain ⟨_, x0, x1⟩ := hbx.kept hK1 (fun hp => by have := hM0.b.tb hp; omega))
  have hW1 := hM0.w.kept hK1 (fun b m f _ hr hp => not_B_of_W (rowIs_isW hr) (hM0.b.tb hp).2.2) (fun b hb hp => by
    obtain ⟨i, hi, _, e1⟩ := hp
    obtain ⟨j, hj, _, e2⟩ := hb
    exact h.far i j hi hj b e1 e2)
  refine (markWriteS_any l.wa d.waiting.length l.wc q lo hi _ (fun i => d.waiting[i]!.bytes) ga gc _ hs.wl (fun i hi => hs.wb _ (mem_at hi)) (by rw [← hmd.out]; exact hk) hW1).mono ?_
  rintro e w2 ⟨rfl, hM2, hK2⟩
  rw [← hmd.out]
  go_wp2
  go_ret
  refine ⟨rfl, ⟨?_, by rw [← hq.out]; exact hM2⟩, ?_⟩
  · refine hM1.kept hK2 (fun b m f hb hr hp => ?_) (fun b hb hp => ?_)
    · rcases hp.2 with e | e
      · obtain ⟨g, m', f', h1, _, _, h4, _⟩ := hW1.row hp.1
        rw [e] at h1
        obtain rfl := some_addr h1
        exact not_W_of_bs hr (rowIs_isW h4)
      · exact not_B_of_bs hr (hW1.tb e).2.2
    · obtain ⟨i, hi, hne, e1⟩ := hb
      rcases hp.2 with e | e
      · obtain ⟨g, m', f', h1, _, _, h4, _⟩ := hW1.row hp.1
        rw [e] at h1
        obtain rfl := some_addr h1
        exact not_B_of_W (rowIs_isW h4) (hM1.tb ⟨i, hi, hne, e1⟩).2.2
      · obtain ⟨j, hj, _, e2⟩ := e
        exact h.far i j hi hj b e1 e2
  · have hk0 : Kept (fun b => lo ≤ b ∧ b < hi) w _ := Kept.of_below hA _
    refine (hk0.trans hK1 (fun b _ hp => ?_)).trans hK2 (fun b _ hp => ?_)
    · have := hM0.b.tb hp
      exact ⟨this.1, this.2.1⟩
    · rcases hp.2 with e | e
      · obtain ⟨g, m', f', h1, h2, h3, _⟩ := hW1.row hp.1
        rw [e] at h1
        obtain rfl := some_addr h1
        exact ⟨h2, h3⟩
      · have := hW1.tb e
        exact ⟨this.1, this.2.1⟩

set_option maxRecDepth 100000 in
theorem heldDisk_any (d : DD) (l : DL) (k lo hi : Nat) (fa ga : Nat → Option Addr) (fc gc : Nat → Nat) (w : World) (hs : d.Small) (hk : d.mend k ≤ 1099511627776) (h : MDM w lo hi l d k fa ga fc gc) :
    Calls Tryz.prog 14 #[d.val l, .int .i64 k] w fun e w' => e = .returned (.int .i64 (d.mend k : Nat)) ∧ Below w.heap.size w w' := by
  have hA := gal (gre w) (.cells #[.slice l.ba d.blocks.length l.bc, .slice l.wa d.waiting.length l.wc] 35)
  have hbx := DBox.new w d l 35
  have hM0 := h.grow hA
  obtain ⟨q, hq⟩ := hid_ex (bE (fun i => d.blocks[i]!) k d.blocks.length)
  have hmd : Hid (d.mend k = wE (fun i => d.waiting[i]!.bytes) q d.waiting.length) := by show _ = _; rw [hq.out]; rfl
  have hqk : q ≤ 1099511627776 := by rw [hq.out]; exact Nat.le_trans (d.mend_le k) hk
  have hd : ¬ ((q : Int) < 0) := by omega
  have hd2 : ¬ ((d.mend k : Int) < 0) := by omega
  go_enter Tryz.func14, Tryz.ntmps14
  go_wp2_with (first
    | (go_at_call 36; refine (heldByteSS_any l.ba d.blocks.length l.bc k lo hi (fun i => d.blocks[i]!) fa fc _ hs.bl (fun i hi => hs.bb _ (mem_at hi)) (by rw [← hq.out]; exact hqk) hM0.b).mono ?_; rintro e w1 ⟨rfl, hb1⟩; rw [← hq.out]; obtain ⟨_, x0, x1⟩ := hbx.grow hb1)
    | (go_at_call 37; refine (heldWriteS_any l.wa d.waiting.length l.wc q lo hi (fun i => d.waiting[i]!.bytes) ga gc _ hs.wl (fun i hi => hs.wb _ (mem_at hi)) (by rw [← hmd.out]; exact hk) (by rw [hq.out]; exact (hM0.grow hb1).w)).mono ?_; rintro e w2 ⟨rfl, hb2⟩; rw [← hmd.out]))
  go_ret
  exact ⟨rfl, gca (gca hA hb1) hb2⟩

end Go.Proofs.YthjddpkegooobacGreat

/-
  DEQ: the laws' comparisons of disks, where both are the same. Own work.
-/
namespace Go.Proofs.YthjddpkegooobacGreat
open Go.RowKit

set_option maxRecDepth 100000 in
theorem eqByteSS_same (a a' : Option Addr) (cap cap' : Nat) (ns : List (List Nat)) (w : World) (hl : ns.length ≤ maxLen) (hv : ∀ n, n ∈ ns → n.length ≤ maxLen) (ha : BlksAt w a ns) (ha' : BlksAt w a' ns) :
    Calls Tryz.prog 29 #[.slice a ns.length cap, .slice a' ns.length cap'] w fun e w' => e = .returned (.bool true) ∧ Below w.heap.size w w' := by
  unfold maxLen at hl
  have hne : ((ns.length : Int) != (ns.length : Int)) = false := by simp
  go_enter Tryz.func29, Tryz.ntmps29
  go_wp2
  go_loopw [5] (fun i wr => ∃ k : Nat, k ≤ ns.length ∧ i = .int .i64 k ∧ Below w.heap.size w wr) (fun i _ => ns.length - (intOf i).toNat)
  case atStart => exact ⟨0, Nat.zero_le _, rfl, Below.refl _ _⟩
  case round =>
    obtain ⟨k, hk, rfl, hb⟩ := hrel
    by_cases hlt : k < ns.length
    · obtain ⟨n, b, off, av, cv, hvk, hvm, rfl, c0, hva⟩ := (ha.grow hb).get hlt
      obtain ⟨n', b', off', av', cv', hvk', hvm', rfl, d0, hva'⟩ := (ha'.grow hb).get hlt
      have e : n' = n := by rw [hvk.out, hvk'.out]
      subst e
      have i0 : (0 : Int) ≤ (k : Int) := by omega
      have i1 : (k : Int) < (ns.length : Int) := by omega
      have hvl := hv n' hvm
      have hv1 : BytesAt wr.drew av n' := hva.grow (gdr (gre _))
      have hv2 : BytesAt wr.drew av' n' := hva'.grow (gdr (gre _))
      clear ha ha' hvk hvk' hva hva'
      go_wp2
      go_region_held3 (fun w' => w'.cell? ⟨b, off + k, none⟩ = some (.slice av n'.length cv) ∧ w'.cell? ⟨b', off' + k, none⟩ = some (.slice av' n'.length cv')) (first | go_keep | (go_split_ands; refine ⟨?_, ?_⟩ <;> exact cell_later hb' (by assumption))) ((go_at_call 66; refine (eqByteS_same av av' n' cv cv' _ hvl hv1 hv2).mono ?_; rintro e w' ⟨rfl, hb'⟩))
      go_wp2
      go_roundw
      case rel => exact ⟨k + 1, by omega, by go_num, gca (gdr hb) hb'⟩
      case measure => simp [intOf]; omega
    · go_wp2
      go_ret
      exact ⟨rfl, hb⟩

set_option maxRecDepth 100000 in
theorem eqWrite_same (x : DW) (a a' : Option Addr) (cap cap' : Nat) (w : World) (hl : x.bytes.length ≤ maxLen) (ha : BytesAt w a x.bytes) (ha' : BytesAt w a' x.bytes) :
    Calls Tryz.prog 67 #[x.val a cap, x.val a' cap'] w fun e w' => e = .returned (.bool true) ∧ Below w.heap.size w w' := by
  have hne : ((x.block : Int) != (x.block : Int)) = false := by simp
  go_enter Tryz.func67, Tryz.ntmps67
  go_wp2_with (go_at_call 66; refine (eqByteS_same a a' x.bytes cap cap' _ hl (ha.grow (gal (gal (gre _) _) _)) (ha'.grow (gal (gal (gre _) _) _))).mono ?_; rintro e w' ⟨rfl, hb'⟩)
  go_ret
  exact ⟨rfl, gca (gal (gal (gre _) _) _) hb'⟩

set_option maxRecDepth 100000 in
theorem eqWriteS_same (a a' : Option Addr) (cap cap' : Nat) (ns : List DW) (w : World) (hl : ns.length ≤ maxLen) (hv : ∀ n, n ∈ ns → n.bytes.length ≤ maxLen) (ha : WrsAt w a ns) (ha' : WrsAt w a' ns) :
    Calls Tryz.prog 30 #[.slice a ns.length cap, .slice a' ns.length cap'] w fun e w' => e = .returned (.bool true) ∧ Below w.heap.size w w' := by
  unfold maxLen at hl
  have hne : ((ns.length : Int) != (ns.length : Int)) = false := by simp
  go_enter Tryz.func30, Tryz.ntmps30
  go_wp2
  go_loopw [5] (fun i wr => ∃ k : Nat, k ≤ ns.length ∧ i = .int .i64 k ∧ Below w.heap.size w wr) (fun i _ => ns.length - (intOf i).toNat)
  case atStart => exact ⟨0, Nat.zero_le _, rfl, Below.refl _ _⟩
  case round =>
    obtain ⟨k, hk, rfl, hb⟩ := hrel
    by_cases hlt : k < ns.length
    · obtain ⟨n, b, off, av, cv, hvk, hvm, rfl, c0, c1, hva⟩ := (ha.grow hb).get hlt
      obtain ⟨n', b', off', av', cv', hvk', hvm', rfl, d0, d1, hva'⟩ := (ha'.grow hb).get hlt
      have e : n' = n := by rw [hvk.out, hvk'.out]
      subst e
      have i0 : (0 : Int) ≤ (k : Int) := by omega
      have i1 : (k : Int) < (ns.length : Int) := by omega
      have hvl := hv n' hvm
      have hv1 : BytesAt wr.drew av n'.bytes := hva.grow (gdr (gre _))
      have hv2 : BytesAt wr.drew av' n'.bytes := hva'.grow (gdr (gre _))
      clear ha ha' hvk hvk' hva hva'
      go_wp2
      go_region_held3 (fun w' => w'.cell? ⟨b, off + k * 2, none⟩ = some (.int .i64 n'.block) ∧ w'.cell? ⟨b, off + k * 2 + 1, none⟩ = some (.slice av n'.bytes.length cv) ∧ w'.cell? ⟨b', off' + k * 2, none⟩ = some (.int .i64 n'.block) ∧ w'.cell? ⟨b', off' + k * 2 + 1, none⟩ = some (.slice av' n'.bytes.length cv')) (first | go_keep | (go_split_ands; refine ⟨?_, ?_, ?_, ?_⟩ <;> exact cell_later hb' (by assumption))) ((go_at_call 67; refine (eqWrite_same n' av av' cv cv' _ hvl hv1 hv2).mono ?_; rintro e w' ⟨rfl, hb'⟩))
      go_wp2
      go_roundw
      case rel => exact ⟨k + 1, by omega, by go_num, gca (gdr hb) hb'⟩
      case measure => simp [intOf]; omega
    · go_wp2
      go_ret
      exact ⟨rfl, hb⟩

set_option maxRecDepth 100000 in
theorem eqDisk_same (d : DD) (l l' : DL) (w : World) (hd : d.Ok) (ha : DAt w l d) (ha' : DAt w l' d) :
    Calls Tryz.prog 10 #[d.val l, d.val l'] w fun e w' => e = .returned (.bool true) ∧ Below w.heap.size w w' := by
  have hA := gal (gal (gre w) (.cells #[.slice l.ba d.blocks.length l.bc, .slice l.wa d.waiting.length l.wc] 35)) (.cells #[.slice l'.ba d.blocks.length l'.bc, .slice l'.wa d.waiting.length l'.wc] 35)
  go_enter Tryz.func10, Tryz.ntmps10
  go_wp2_with (first
    | (go_at_call 29; refine (eqByteSS_same l.ba l'.ba l.bc l'.bc d.blocks _ hd.bl (fun n hn => (hd.bb n hn).len) (ha.b.grow hA) (ha'.b.grow hA)).mono ?_; rintro e w' ⟨rfl, hb'⟩; obtain ⟨hc, hf⟩ := bcell hb')
    | (go_at_call 30; refine (eqWriteS_same l.wa l'.wa l.wc l'.wc d.waiting _ hd.wl (fun n hn => (hd.wb n hn).len) (ha.w.grow (gca hA hb')) (ha'.w.grow (gca hA hb'))).mono ?_; rintro e w'' ⟨rfl, hb''⟩))
  go_ret
  exact ⟨rfl, gca (gca hA hb') hb''⟩

end Go.Proofs.YthjddpkegooobacGreat

/-
  LAW: FnExactBlank, walked. Own work.
-/
namespace Go.Proofs.YthjddpkegooobacGreat
open Go.RowKit

theorem DD.Fit.small {d : DD} (h : d.Fit) : d.Small := ⟨by have := h.bl; omega, fun b hb => by have := h.bb b hb; omega, by have := h.wl; omega, fun x hx => by have := (h.wb x hx).2.2; omega⟩
theorem szBs_64 {l : List (List Nat)} (h : ∀ b, b ∈ l → b.length = 64) : szBs l = 64 * l.length := by
  induction l with
  | nil => simp [szBs]
  | cons x r ih =>
    have h1 := ih (fun b hb => h b (List.mem_cons_of_mem _ hb))
    have h2 := h x (List.mem_cons_self ..)
    simp only [szBs, List.length_cons]
    omega
theorem szWs_64 {l : List DW} (h : ∀ b, b ∈ l → b.bytes.length = 64) : szWs l = 64 * l.length := by
  induction l with
  | nil => simp [szWs]
  | cons x r ih =>
    have h1 := ih (fun b hb => h b (List.mem_cons_of_mem _ hb))
    have h2 := h x (List.mem_cons_self ..)
    simp only [szWs, List.length_cons]
    omega
theorem DD.Fit.mend {d : DD} (h : d.Fit) : d.mend 1 ≤ 1099511627776 := by
  have h1 := d.mend_sz 1
  unfold DD.sz at h1
  rw [szBs_64 h.bb, szWs_64 (fun b hb => (h.wb b hb).2.2)] at h1
  have := h.bl
  have := h.wl
  omega
theorem blank_fit : blankD.Fit := ⟨by simp [blankD], by simp [blankD], fun b hb => by rw [List.eq_of_mem_replicate hb]; simp, fun x hx => by cases hx⟩
theorem blank_ok : blankD.Ok := ⟨by simp [blankD, maxLen], fun b hb => by rw [List.eq_of_mem_replicate hb]; exact ⟨by simp [maxLen], fun x hx => by rw [List.eq_of_mem_replicate hx]; decide⟩, by simp [blankD], fun x hx => (by cases hx), fun x hx => (by cases hx)⟩

end Go.Proofs.YthjddpkegooobacGreat

/-
  DSZ: the laws' sizes of disks. Own work.
-/
namespace Go.Proofs.YthjddpkegooobacGreat
open Go.RowKit

set_option maxRecDepth 100000 in
theorem szByteS_any (a : Option Addr) (n cap : Nat) (left : Int) (w : World) (hl : n ≤ maxLen) (h0 : 0 ≤ left) (h1 : left ≤ 1048576) :
    Calls Tryz.prog 38 #[.slice a n cap, .int .i64 left] w fun e w' => e = .returned (.int .i64 (leftBy left n)) ∧ Below w.heap.size w w' := by
  unfold maxLen at hl
  go_enter Tryz.func38, Tryz.ntmps38
  go_wp2
  all_goals go_ret
  · exact ⟨ret_int (leftBy_neg (by assumption)).symm, gre _⟩
  · exact ⟨ret_int (leftBy_pos (Int.not_lt.2 (by assumption))).symm, gre _⟩

set_option maxRecDepth 100000 in
theorem szByteSS_any (a : Option Addr) (cap : Nat) (vs : List (List Nat)) (left : Int) (w : World) (hl : vs.length ≤ maxLen) (hv : ∀ v, v ∈ vs → v.length ≤ maxLen) (h0 : 0 ≤ left) (h1 : left ≤ 1048576) (ha : BlksAt w a vs) :
    Calls Tryz.prog 15 #[.slice a vs.length cap, .int .i64 left] w fun e w' => e = .returned (.int .i64 (leftBy left (vs.length + szBs vs))) ∧ Below w.heap.size w w' := by
  unfold maxLen at hl
  have hsn := szBs_nonneg vs
  go_enter Tryz.func15, Tryz.ntmps15
  go_wp2
  · go_ret
    exact ⟨ret_int (leftBy_neg (by omega)).symm, gre _⟩
  go_loopw [1, 5] (fun l i wr => ∃ k : Nat, k ≤ vs.length ∧ i = .int .i64 k ∧ l = .int .i64 (left - vs.length - szBs (vs.take k)) ∧ 0 ≤ left - vs.length - szBs (vs.take k) ∧ Below w.heap.size w wr) (fun _ i _ => vs.length - (intOf i).toNat)
  case atStart => exact ⟨0, Nat.zero_le _, rfl, by simp [szBs], by simp [szBs]; omega, gre _⟩
  case round =>
    obtain ⟨k, hk, rfl, rfl, hpos, hb⟩ := hrel
    by_cases hlt : k < vs.length
    · obtain ⟨v, b, off, a', c', hvk, hvm, rfl, hc, hva⟩ := (ha.grow hb).get hlt
      have hstep : Hid (szBs (vs.take (k + 1)) = szBs (vs.take k) + v.length) := by rw [hvk.out]; exact szBs_take_succ vs k hlt
      have hle := szBs_take_le vs (k + 1)
      have hn0 := szBs_nonneg (vs.take k)
      go_wp2_with (go_at_call 38; refine (szByteS_any a' v.length c' _ _ (hv v hvm) (by omega) (by omega)).mono ?_; rintro e w' ⟨rfl, hb'⟩)
      · go_ret
        have hn := leftBy_of_neg (by assumption)
        have hs := hstep.out
        exact ⟨ret_int (leftBy_neg (by omega)).symm, gca hb hb'⟩
      · have hn := leftBy_of_nonneg (by assumption)
        have hs := hstep.out
        go_roundw
        case rel => exact ⟨k + 1, by omega, by go_num, by rw [hn.1, hs]; go_num, by omega, gca hb hb'⟩
        case measure => simp [intOf]; omega
    · go_wp2
      go_ret
      have e : k = vs.length := by omega
      subst e
      rw [List.take_length] at hpos
      exact ⟨ret_int (by rw [List.take_length, leftBy_pos (by omega)]; omega), hb⟩

set_option maxRecDepth 100000 in
theorem szWrite_any (x : DW) (a : Option Addr) (cap : Nat) (left : Int) (w : World) (hl : x.bytes.length ≤ maxLen) (h0 : 0 ≤ left) (h1 : left ≤ 1048576) :
    Calls Tryz.prog 39 #[x.val a cap, .int .i64 left] w fun e w' => e = .returned (.int .i64 (leftBy left x.bytes.length)) ∧ Below w.heap.size w w' := by
  go_enter Tryz.func39, Tryz.ntmps39
  go_wp2_with (go_at_call 38; refine (szByteS_any a x.bytes.length cap _ _ hl h0 h1).mono ?_; rintro e w' ⟨rfl, hb'⟩)
  · go_ret
    have hneg := leftBy_of_neg (by assumption)
    exact ⟨ret_int (leftBy_neg (by omega)).symm, gca (gal (gre _) _) hb'⟩
  · go_ret
    exact ⟨rfl, gca (gal (gre _) _) hb'⟩

set_option maxRecDepth 100000 in
theorem szWriteS_any (a : Option Addr) (cap : Nat) (vs : List DW) (left : Int) (w : World) (hl : vs.length ≤ maxLen) (hv : ∀ v, v ∈ vs → v.bytes.length ≤ maxLen) (h0 : 0 ≤ left) (h1 : left ≤ 1048576) (ha : WrsAt w a vs) :
    Calls Tryz.prog 16 #[.slice a vs.length cap, .int .i64 left] w fun e w' => e = .returned (.int .i64 (leftBy left (vs.length + szWs vs))) ∧ Below w.heap.size w w' := by
  unfold maxLen at hl
  have hsn := szWs_nonneg vs
  go_enter Tryz.func16, Tryz.ntmps16
  go_wp2
  · go_ret
    exact ⟨ret_int (leftBy_neg (by omega)).symm, gre _⟩
  go_loopw [1, 5] (fun l i wr => ∃ k : Nat, k ≤ vs.length ∧ i = .int .i64 k ∧ l = .int .i64 (left - vs.length - szWs (vs.take k)) ∧ 0 ≤ left - vs.length - szWs (vs.take k) ∧ Below w.heap.size w wr) (fun _ i _ => vs.length - (intOf i).toNat)
  case atStart => exact ⟨0, Nat.zero_le _, rfl, by simp [szWs], by simp [szWs]; omega, gre _⟩
  case round =>
    obtain ⟨k, hk, rfl, rfl, hpos, hb⟩ := hrel
    by_cases hlt : k < vs.length
    · obtain ⟨v, b, off, a', c', hvk, hvm, rfl, hc, hc2, hva⟩ := (ha.grow hb).get hlt
      have hstep : Hid (szWs (vs.take (k + 1)) = szWs (vs.take k) + v.bytes.length) := by rw [hvk.out]; exact szWs_take_succ vs k hlt
      have hle := szWs_take_le vs (k + 1)
      have hn0 := szWs_nonneg (vs.take k)
      go_wp2_with (go_at_call 39; refine (szWrite_any v a' c' _ _ (hv v hvm) (by omega) (by omega)).mono ?_; rintro e w' ⟨rfl, hb'⟩)
      · go_ret
        have hn := leftBy_of_neg (by assumption)
        have hs := hstep.out
        exact ⟨ret_int (leftBy_neg (by omega)).symm, gca hb hb'⟩
      · have hn := leftBy_of_nonneg (by assumption)
        have hs := hstep.out
        go_roundw
        case rel => exact ⟨k + 1, by omega, by go_num, by rw [hn.1, hs]; go_num, by omega, gca hb hb'⟩
        case measure => simp [intOf]; omega
    · go_wp2
      go_ret
      have e : k = vs.length := by omega
      subst e
      rw [List.take_length] at hpos
      exact ⟨ret_int (by rw [List.take_length, leftBy_pos (by omega)]; omega), hb⟩

set_option maxRecDepth 100000 in
theorem szDisk_any (d : DD) (l : DL) (left : Int) (w : World) (hd : d.Ok) (h0 : 0 ≤ left) (h1 : left ≤ 1048576) (ha : DAt w l d) :
    Calls Tryz.prog 4 #[d.val l, .int .i64 left] w fun e w' => e = .returned (.int .i64 (leftBy left d.sz)) ∧ Below w.heap.size w w' := by
  have hz : Hid (d.sz = (d.blocks.length + szBs d.blocks) + (d.waiting.length + szWs d.waiting)) := rfl
  have hrz := szBs_nonneg d.blocks
  have hnz := szWs_nonneg d.waiting
  go_enter Tryz.func4, Tryz.ntmps4
  go_wp2_with (go_at_call 15; refine (szByteSS_any l.ba l.bc d.blocks _ _ hd.bl (fun v hv => (hd.bb v hv).len) h0 h1 (ha.b.grow (gal (gre _) _))).mono ?_; rintro e w' ⟨rfl, hb'⟩; obtain ⟨hc, hf⟩ := bcell hb')
  · go_ret
    have hneg := leftBy_of_neg (by assumption)
    have := hz.out
    exact ⟨ret_int (leftBy_neg (by omega)).symm, gca (gal (gre _) _) hb'⟩
  · have hnn := leftBy_of_nonneg (by assumption)
    have hB : Below w.heap.size w w' := gca (gal (gre _) _) hb'
    have hle : leftBy left (d.blocks.length + szBs d.blocks) ≤ 1048576 := by omega
    have hge : 0 ≤ leftBy left (d.blocks.length + szBs d.blocks) := by omega
    have hnn' : Hid _ := hnn
    clear hnn
    go_wp2_with (go_at_call 16; refine (szWriteS_any l.wa l.wc d.waiting _ _ hd.wl (fun v hv => (hd.wb v hv).len) hge hle (ha.w.grow hB)).mono ?_; rintro e w'' ⟨rfl, hb''⟩)
    · go_ret
      have hneg := leftBy_of_neg (by assumption)
      have := hz.out
      have := hnn'.out
      exact ⟨ret_int (leftBy_neg (by omega)).symm, gca hB hb''⟩
    · go_ret
      have h1 := leftBy_of_nonneg (by assumption)
      have := hz.out
      have := hnn'.out
      exact ⟨ret_int (by rw [h1.1, leftBy_pos (s := d.sz) (by omega)]; omega), gca hB hb''⟩

end Go.Proofs.YthjddpkegooobacGreat

/-
  LAW: FnExactSync, walked. Own work.
-/
namespace Go.Proofs.YthjddpkegooobacGreat
open Go.RowKit

/-- disks that a law may hold against each other, and mark -/
structure DD.Tame (d : DD) : Prop where
  ok : d.Ok
  small : d.Small
  mend : d.mend 1 ≤ 1099511627776
theorem zero_tame : zeroD.Tame := ⟨⟨Nat.zero_le _, fun b hb => (by cases hb), Nat.zero_le _, fun x hx => (by cases hx), fun x hx => (by cases hx)⟩, ⟨Nat.zero_le _, fun b hb => (by cases hb), Nat.zero_le _, fun x hx => (by cases hx)⟩, by decide⟩
theorem DD.Fit.tame {d : DD} (h : d.Fit) (hok : d.Ok) : d.Tame := ⟨hok, h.small, h.mend⟩
theorem settle_tame {d : DD} (hd : d.Ok) (keep : Nat → Bool) : (d.settle keep).Tame := by
  cases hok : d.ok with
  | false => rw [settle_no hok]; exact zero_tame
  | true =>
    have hf := DD.fit hok
    rw [settle_yes hok]
    refine DD.Fit.tame ⟨by show (settleN _ _ _ _).length = 130; rw [settleN_length]; exact hf.bl, Nat.zero_le _, settleN_all hf.bb (fun x hx => (hf.wb x hx).2.2) _ (Nat.le_refl _), fun x hx => (by cases hx)⟩ ⟨by show (settleN _ _ _ _).length ≤ maxLen; rw [settleN_length]; exact hd.bl, settleN_all hd.bb hd.wb _ (Nat.le_refl _), Nat.zero_le _, fun x hx => (by cases hx), fun x hx => (by cases hx)⟩
theorem DD.small_mend {d : DD} (h : d.sz ≤ 1048576) : d.mend 1 ≤ 1099511627776 := by have := d.mend_sz 1; omega

end Go.Proofs.YthjddpkegooobacGreat

/-
  SZ: the laws' sizes. Own work.
-/
namespace Go.Proofs.YthjddpkegooobacGreat
open Go.RowKit

set_option maxRecDepth 100000 in
theorem szVal_any (v : GV) (left : Int) (w : World) (hv : v.Ok) (h0 : 0 ≤ left) (h1 : left ≤ 1048576) :
    Calls Tryz.prog 17 #[v.val, .int .i64 left] w fun e w' => e = .returned (.int .i64 (leftBy left v.sz)) ∧ Below w.heap.size w w' := by
  have ht := hv.text
  unfold maxLen at ht
  go_enter Tryz.func17, Tryz.ntmps17
  go_wp2
  all_goals go_ret
  · exact ⟨ret_int (leftBy_neg (by assumption)).symm, (Below.refl _ _).alloc (Nat.le_refl _) _⟩
  · exact ⟨ret_int (leftBy_pos (Int.not_lt.2 (by assumption))).symm, (Below.refl _ _).alloc (Nat.le_refl _) _⟩

set_option maxRecDepth 100000 in
theorem szValS_any (a : Option Addr) (cap : Nat) (vs : List GV) (left : Int) (w : World) (hl : vs.length ≤ maxLen) (hv : ∀ v, v ∈ vs → v.Ok) (h0 : 0 ≤ left) (h1 : left ≤ 1048576) (ha : ValsAt w.heap.size w a vs) :
    Calls Tryz.prog 72 #[.slice a vs.length cap, .int .i64 left] w fun e w' => e = .returned (.int .i64 (leftBy left (vs.length + szVals vs))) ∧ Below w.heap.size w w' := by
  unfold maxLen at hl
  have hsn := szVals_nonneg vs
  go_enter Tryz.func72, Tryz.ntmps72
  go_wp2
  · go_ret
    exact ⟨ret_int (leftBy_neg (by omega)).symm, Below.refl _ _⟩
  go_loopw [1, 5] (fun l i wr => ∃ k : Nat, k ≤ vs.length ∧ i = .int .i64 k ∧ l = .int .i64 (left - vs.length - szVals (vs.take k)) ∧ 0 ≤ left - vs.length - szVals (vs.take k) ∧ Below w.heap.size w wr) (fun _ i _ => vs.length - (intOf i).toNat)
  case atStart => exact ⟨0, Nat.zero_le _, rfl, by simp [szVals], by simp [szVals]; omega, Below.refl _ _⟩
  case round =>
    obtain ⟨k, hk, rfl, rfl, hpos, hb⟩ := hrel
    by_cases hlt : k < vs.length
    · obtain ⟨v, b, off, hvk, hvm, rfl, hbs, hva⟩ := ha.get hlt
      have hva := hva.below hb hbs
      have c0 := hva.kind
      have c1 := hva.num
      have c2 := hva.text
      have c3 := hva.node
      have hstep : Hid (szVals (vs.take (k + 1)) = szVals (vs.take k) + v.sz) := by rw [hvk.out]; exact szVals_take_succ vs k hlt
      have hle := szVals_take_le vs (k + 1)
      have hn0 := szVals_nonneg (vs.take k)
      have hvz := v.sz_nonneg
      go_wp2_with (go_at_call 17; refine (szVal_any v _ _ (hv v hvm) (by omega) (by omega)).mono ?_; rintro e w' ⟨rfl, hb'⟩)
      · go_ret
        have hn := leftBy_of_neg (by assumption)
        have hs := hstep.out
        exact ⟨ret_int (leftBy_neg (by omega)).symm, hb.trans (hb'.mono hb.size)⟩
      · have hn := leftBy_of_nonneg (by assumption)
        have hs := hstep.out
        go_roundw
        case rel => exact ⟨k + 1, by omega, by go_num, by rw [hn.1, hs]; go_num, by omega, hb.trans (hb'.mono hb.size)⟩
        case measure => simp [intOf]; omega
    · go_wp2
      go_ret
      have e : k = vs.length := by omega
      subst e
      rw [List.take_length] at hpos
      exact ⟨ret_int (by rw [List.take_length, leftBy_pos (by omega)]; omega), hb⟩

set_option maxRecDepth 100000 in
theorem szNode_any (a : Option Addr) (cap : Nat) (n : GN) (left : Int) (w : World) (hn : n.Ok) (h0 : 0 ≤ left) (h1 : left ≤ 1048576) (ha : ValsAt w.heap.size w a n.vals) :
    Calls Tryz.prog 40 #[.agg #[.int .i64 n.tag, .slice a n.vals.length cap], .int .i64 left] w fun e w' => e = .returned (.int .i64 (leftBy left n.sz)) ∧ Below w.heap.size w w' := by
  have hz : Hid (n.sz = n.vals.length + szVals n.vals) := rfl
  go_enter Tryz.func40, Tryz.ntmps40
  go_wp2_with (go_at_call 72; refine (szValS_any a cap n.vals _ _ hn.len hn.vals h0 h1 ((ha.below ((Below.refl _ _).alloc (Nat.le_refl _) _)).mono (by simp))).mono ?_; rintro e w' ⟨rfl, hb'⟩)
  · go_ret
    have hneg := leftBy_of_neg (by assumption)
    have := hz.out
    exact ⟨ret_int (leftBy_neg (by omega)).symm, ((Below.refl _ _).alloc (Nat.le_refl _) _).trans (hb'.mono (by simp))⟩
  · go_ret
    have := hz.out
    exact ⟨ret_int (by rw [this]), ((Below.refl _ _).alloc (Nat.le_refl _) _).trans (hb'.mono (by simp))⟩

set_option maxRecDepth 100000 in
theorem szNodeS_any (a : Option Addr) (cap : Nat) (ns : List GN) (left : Int) (w : World) (hl : ns.length ≤ maxLen) (hv : ∀ n, n ∈ ns → n.Ok) (h0 : 0 ≤ left) (h1 : left ≤ 1048576) (ha : NodesAt w.heap.size w a ns) :
    Calls Tryz.prog 18 #[.slice a ns.length cap, .int .i64 left] w fun e w' => e = .returned (.int .i64 (leftBy left (ns.length + szNodes ns))) ∧ Below w.heap.size w w' := by
  unfold maxLen at hl
  have hsn := szNodes_nonneg ns
  go_enter Tryz.func18, Tryz.ntmps18
  go_wp2
  · go_ret
    exact ⟨ret_int (leftBy_neg (by omega)).symm, Below.refl _ _⟩
  go_loopw [1, 5] (fun l i wr => ∃ k : Nat, k ≤ ns.length ∧ i = .int .i64 k ∧ l = .int .i64 (left - ns.length - szNodes (ns.take k)) ∧ 0 ≤ left - ns.length - szNodes (ns.take k) ∧ Below w.heap.size w wr) (fun _ i _ => ns.length - (intOf i).toNat)
  case atStart => exact ⟨0, Nat.zero_le _, rfl, by simp [szNodes], by simp [szNodes]; omega, Below.refl _ _⟩
  case round =>
    obtain ⟨k, hk, rfl, rfl, hpos, hb⟩ := hrel
    by_cases hlt : k < ns.length
    · obtain ⟨n, b, off, a', cap', hvk, hvm, rfl, hbs, hva⟩ := ha.get hlt
      have hva := hva.below hb hbs
      have c0 := hva.tag
      have c1 := hva.sl
      have hstep : Hid (szNodes (ns.take (k + 1)) = szNodes (ns.take k) + n.sz) := by rw [hvk.out]; exact szNodes_take_succ ns k hlt
      have hle := szNodes_take_le ns (k + 1)
      have hn0 := szNodes_nonneg (ns.take k)
      have hvz := n.sz_nonneg
      have hvals := hva.vals
      go_wp2_with (go_at_call 40; refine (szNode_any a' cap' n _ _ (hv n hvm) (by omega) (by omega) (hvals.mono hb.size)).mono ?_; rintro e w' ⟨rfl, hb'⟩)
      · go_ret
        have hn := leftBy_of_neg (by assumption)
        have hs := hstep.out
        exact ⟨ret_int (leftBy_neg (by omega)).symm, hb.trans (hb'.mono hb.size)⟩
      · have hn := leftBy_of_nonneg (by assumption)
        have hs := hstep.out
        go_roundw
        case rel => exact ⟨k + 1, by omega, by go_num, by rw [hn.1, hs]; go_num, by omega, hb.trans (hb'.mono hb.size)⟩
        case measure => simp [intOf]; omega
    · go_wp2
      go_ret
      have e : k = ns.length := by omega
      subst e
      rw [List.take_length] at hpos
      exact ⟨ret_int (by rw [List.take_length, leftBy_pos (by omega)]; omega), hb⟩

set_option maxRecDepth 100000 in
theorem szGraph_any (a : Option Addr) (cap : Nat) (g : GG) (left : Int) (w : World) (hg : g.Ok) (h0 : 0 ≤ left) (h1 : left ≤ 1048576) (ha : NodesAt w.heap.size w a g.nodes) :
    Calls Tryz.prog 5 #[g.val a cap, .int .i64 left] w fun e w' => e = .returned (.int .i64 (leftBy left g.sz)) ∧ Below w.heap.size w w' := by
  have hz : Hid (g.sz = g.root.sz + g.nodes.length + szNodes g.nodes) := rfl
  have hrz := g.root.sz_nonneg
  have hnz := szNodes_nonneg g.nodes
  go_enter Tryz.func5, Tryz.ntmps5
  go_wp2_with (go_at_call 17; refine (szVal_any g.root _ _ hg.root h0 h1).mono ?_; rintro e w' ⟨rfl, hb'⟩; obtain ⟨hc, hf⟩ := bcell hb')
  · go_ret
    have hneg := leftBy_of_neg (by assumption)
    have := hz.out
    exact ⟨ret_int (leftBy_neg (by omega)).symm, ((Below.refl _ _).alloc (Nat.le_refl _) _).trans (hb'.mono (by simp))⟩
  · have hnn := leftBy_of_nonneg (by assumption)
    have hB : Below w.heap.size w w' := ((Below.refl _ _).alloc (Nat.le_refl _) _).trans (hb'.mono (by simp))
    have hle : leftBy left g.root.sz ≤ 1048576 := by omega
    have hge : 0 ≤ leftBy left g.root.sz := by omega
    have hnn' : Hid _ := hnn
    clear hnn
    go_wp2_with (go_at_call 18; refine (szNodeS_any a cap g.nodes _ _ hg.len hg.nodes hge hle ((ha.below hB).mono hB.size)).mono ?_; rintro e w'' ⟨rfl, hb''⟩)
    · go_ret
      have hneg := leftBy_of_neg (by assumption)
      have := hz.out
      have := hnn'.out
      exact ⟨ret_int (leftBy_neg (by omega)).symm, hB.trans (hb''.mono hB.size)⟩
    · go_ret
      have h1 := leftBy_of_nonneg (by assumption)
      have := hz.out
      have := hnn'.out
      exact ⟨ret_int (by rw [h1.1, leftBy_pos (s := g.sz) (by omega)]; omega), hB.trans (hb''.mono hB.size)⟩

end Go.Proofs.YthjddpkegooobacGreat

/-
  EQ: the laws' comparisons, where both are the same. Own work.
-/
namespace Go.Proofs.YthjddpkegooobacGreat
open Go.RowKit

set_option maxRecDepth 100000 in
theorem eqVal_same (v : GV) (w : World) :
    Calls Tryz.prog 31 #[v.val, v.val] w fun e w' => e = .returned (.bool true) ∧ Below w.heap.size w w' := by
  go_enter Tryz.func31, Tryz.ntmps31
  go_wp2
  all_goals go_ret
  all_goals exact ⟨rfl, gal (gal (gre _) _) _⟩

set_option maxRecDepth 100000 in
theorem eqValS_same (a a' : Option Addr) (cap cap' : Nat) (vs : List GV) (w : World) (hl : vs.length ≤ maxLen) (ha : ValsAt w.heap.size w a vs) (ha' : ValsAt w.heap.size w a' vs) :
    Calls Tryz.prog 103 #[.slice a vs.length cap, .slice a' vs.length cap'] w fun e w' => e = .returned (.bool true) ∧ Below w.heap.size w w' := by
  unfold maxLen at hl
  go_enter Tryz.func103, Tryz.ntmps103
  go_wp2
  go_loopw [5] (fun i wr => ∃ k : Nat, k ≤ vs.length ∧ i = .int .i64 k ∧ Below w.heap.size w wr) (fun i _ => vs.length - (intOf i).toNat)
  case atStart => exact ⟨0, Nat.zero_le _, rfl, Below.refl _ _⟩
  case round =>
    obtain ⟨k, hk, rfl, hb⟩ := hrel
    by_cases hlt : k < vs.length
    · obtain ⟨v, b, off, hvk, hvm, rfl, hbs, hva⟩ := ha.get hlt
      obtain ⟨v', b', off', hvk', hvm', rfl, hbs', hva'⟩ := ha'.get hlt
      have e : v' = v := by rw [hvk.out, hvk'.out]
      subst e
      have hva := hva.below hb hbs
      have hva' := hva'.below hb hbs'
      have hz1 : b < wr.heap.size := Nat.lt_of_lt_of_le hbs hb.size
      have hz2 : b' < wr.heap.size := Nat.lt_of_lt_of_le hbs' hb.size
      have c0 := hva.kind
      have c1 := hva.num
      have c2 := hva.text
      have c3 := hva.node
      have d0 := hva'.kind
      have d1 := hva'.num
      have d2 := hva'.text
      have d3 := hva'.node
      have i0 : (0 : Int) ≤ (k : Int) := by omega
      have i1 : (k : Int) < (vs.length : Int) := by omega
      clear ha ha' hvk hvk' hva hva'
      go_wp2
      go_region_held3 (fun w' => w'.cell? ⟨b, off + k * 4, none⟩ = some (.int .i64 v'.kind) ∧ w'.cell? ⟨b, off + k * 4 + 1, none⟩ = some (.int .i64 v'.num) ∧ w'.cell? ⟨b, off + k * 4 + 2, none⟩ = some (.string v'.text) ∧ w'.cell? ⟨b, off + k * 4 + 3, none⟩ = some (.int .i64 v'.node) ∧ w'.cell? ⟨b', off' + k * 4, none⟩ = some (.int .i64 v'.kind) ∧ w'.cell? ⟨b', off' + k * 4 + 1, none⟩ = some (.int .i64 v'.num) ∧ w'.cell? ⟨b', off' + k * 4 + 2, none⟩ = some (.string v'.text) ∧ w'.cell? ⟨b', off' + k * 4 + 3, none⟩ = some (.int .i64 v'.node)) (first | go_keep | (go_split_ands; refine ⟨?_, ?_, ?_, ?_, ?_, ?_, ?_, ?_⟩ <;> exact cell_later hb' (by assumption))) ((go_at_call 31; refine (eqVal_same v' _).mono ?_; rintro e w' ⟨rfl, hb'⟩))
      go_wp2
      go_roundw
      case rel => exact ⟨k + 1, by omega, by go_num, gca (gdr hb) hb'⟩
      case measure => simp [intOf]; omega
    · go_wp2
      go_ret
      exact ⟨rfl, hb⟩

set_option maxRecDepth 100000 in
theorem eqNode_same (a a' : Option Addr) (cap cap' : Nat) (n : GN) (w : World) (hl : n.vals.length ≤ maxLen) (ha : ValsAt w.heap.size w a n.vals) (ha' : ValsAt w.heap.size w a' n.vals) :
    Calls Tryz.prog 68 #[.agg #[.int .i64 n.tag, .slice a n.vals.length cap], .agg #[.int .i64 n.tag, .slice a' n.vals.length cap']] w fun e w' => e = .returned (.bool true) ∧ Below w.heap.size w w' := by
  go_enter Tryz.func68, Tryz.ntmps68
  go_wp2_with (go_at_call 103; refine (eqValS_same a a' cap cap' n.vals _ hl (ha.grow (gal (gal (gre _) _) _)) (ha'.grow (gal (gal (gre _) _) _))).mono ?_; rintro e w' ⟨rfl, hb'⟩)
  go_ret
  exact ⟨rfl, gca (gal (gal (gre _) _) _) hb'⟩

set_option maxRecDepth 100000 in
theorem eqNodeS_same (a a' : Option Addr) (cap cap' : Nat) (ns : List GN) (w : World) (hl : ns.length ≤ maxLen) (hv : ∀ n, n ∈ ns → n.vals.length ≤ maxLen) (ha : NodesAt w.heap.size w a ns) (ha' : NodesAt w.heap.size w a' ns) :
    Calls Tryz.prog 32 #[.slice a ns.length cap, .slice a' ns.length cap'] w fun e w' => e = .returned (.bool true) ∧ Below w.heap.size w w' := by
  unfold maxLen at hl
  go_enter Tryz.func32, Tryz.ntmps32
  go_wp2
  go_loopw [5] (fun i wr => ∃ k : Nat, k ≤ ns.length ∧ i = .int .i64 k ∧ Below w.heap.size w wr) (fun i _ => ns.length - (intOf i).toNat)
  case atStart => exact ⟨0, Nat.zero_le _, rfl, Below.refl _ _⟩
  case round =>
    obtain ⟨k, hk, rfl, hb⟩ := hrel
    by_cases hlt : k < ns.length
    · obtain ⟨n, b, off, av, cv, hvk, hvm, rfl, hbs, hva⟩ := ha.get hlt
      obtain ⟨n', b', off', av', cv', hvk', hvm', rfl, hbs', hva'⟩ := ha'.get hlt
      have e : n' = n := by rw [hvk.out, hvk'.out]
      subst e
      have hva := hva.below hb hbs
      have hva' := hva'.below hb hbs'
      have c0 := hva.tag
      have c1 := hva.sl
      have d0 := hva'.tag
      have d1 := hva'.sl
      have i0 : (0 : Int) ≤ (k : Int) := by omega
      have i1 : (k : Int) < (ns.length : Int) := by omega
      have hvl := hv n' hvm
      have hv1 : ValsAt wr.drew.heap.size wr.drew av n'.vals := (hva.vals.mono hb.size).grow (gdr (gre _))
      have hv2 : ValsAt wr.drew.heap.size wr.drew av' n'.vals := (hva'.vals.mono hb.size).grow (gdr (gre _))
      clear ha ha' hvk hvk' hva hva'
      go_wp2
      go_region_held3 (fun w' => w'.cell? ⟨b, off + k * 2, none⟩ = some (.int .i64 n'.tag) ∧ w'.cell? ⟨b, off + k * 2 + 1, none⟩ = some (.slice av n'.vals.length cv) ∧ w'.cell? ⟨b', off' + k * 2, none⟩ = some (.int .i64 n'.tag) ∧ w'.cell? ⟨b', off' + k * 2 + 1, none⟩ = some (.slice av' n'.vals.length cv')) (first | go_keep | (go_split_ands; refine ⟨?_, ?_, ?_, ?_⟩ <;> exact cell_later hb' (by assumption))) ((go_at_call 68; refine (eqNode_same av av' cv cv' n' _ hvl hv1 hv2).mono ?_; rintro e w' ⟨rfl, hb'⟩))
      go_wp2
      go_roundw
      case rel => exact ⟨k + 1, by omega, by go_num, gca (gdr hb) hb'⟩
      case measure => simp [intOf]; omega
    · go_wp2
      go_ret
      exact ⟨rfl, hb⟩

set_option maxRecDepth 100000 in
theorem eqGraph_same (a a' : Option Addr) (cap cap' : Nat) (g : GG) (w : World) (hg : g.Ok) (ha : NodesAt w.heap.size w a g.nodes) (ha' : NodesAt w.heap.size w a' g.nodes) :
    Calls Tryz.prog 11 #[g.val a cap, g.val a' cap'] w fun e w' => e = .returned (.bool true) ∧ Below w.heap.size w w' := by
  go_enter Tryz.func11, Tryz.ntmps11
  go_wp2_with (first | (go_at_call 31; refine (eqVal_same g.root _).mono ?_; rintro e w' ⟨rfl, hb'⟩; obtain ⟨hc, hf⟩ := bcell hb') | (go_at_call 32; refine (eqNodeS_same a a' cap cap' g.nodes _ hg.len (fun n hn => (hg.nodes n hn).len) (ha.grow (gca (gal (gal (gre _) _) _) hb')) (ha'.grow (gca (gal (gal (gre _) _) _) hb'))).mono ?_; rintro e w'' ⟨rfl, hb''⟩))
  go_ret
  exact ⟨rfl, gca (gca (gal (gal (gre _) _) _) hb') hb''⟩

end Go.Proofs.YthjddpkegooobacGreat

/-
  SMALL: what a graph's size says of its parts. Own work.
-/
namespace Go.Proofs.YthjddpkegooobacGreat

/-- what a size at most so great says of the parts -/
theorem GG.small {g : GG} (h : g.sz ≤ 1048576) : g.nodes.length ≤ 1048576 ∧ ∀ n, n ∈ g.nodes → n.vals.length ≤ 1048576 := by
  have h0 := g.root.sz_nonneg
  have h1 := szNodes_nonneg g.nodes
  unfold GG.sz at h
  refine ⟨by omega, fun n hn => ?_⟩
  have h2 : n.sz ≤ szNodes g.nodes := by
    clear h h0 h1
    generalize g.nodes = l at hn ⊢
    induction l with
    | nil => cases hn
    | cons x r ih =>
      simp only [szNodes]
      have := x.sz_nonneg
      have := szNodes_nonneg r
      cases List.mem_cons.1 hn with
      | inl e => subst e; omega
      | inr e => have := ih e; omega
  have h3 := szVals_nonneg n.vals
  unfold GN.sz at h2
  omega

end Go.Proofs.YthjddpkegooobacGreat

/-
  MARKTEXT: the laws' text of a number. Own work.
-/
namespace Go.Proofs.YthjddpkegooobacGreat
open Go.RowKit

/-- the digits that are still to come, ahead of those that are there -/
def mtLoop : Nat → Nat → ByteArray → ByteArray
  | 0, _, s => s
  | f + 1, j, s => if j = 0 then s else mtLoop f (j / 10) (strOfNums [48 + (j : Int) % 10] ++ s)
/-- the text of a number -/
def mt (k : Nat) : ByteArray := ⟨#[109]⟩ ++ mtLoop (k + 1) k ⟨#[]⟩

set_option maxRecDepth 100000 in
theorem mtLoop_zero (f : Nat) (s : ByteArray) : mtLoop f 0 s = s := by cases f <;> simp [mtLoop]
theorem mtLoop_step {f j : Nat} (s : ByteArray) (hj : j ≠ 0) (hf : j < f) : mtLoop f j s = mtLoop (f - 1) (j / 10) (strOfNums [48 + (j : Int) % 10] ++ s) := by
  cases f with
  | zero => omega
  | succ f => simp [mtLoop, hj]
set_option maxRecDepth 100000 in
theorem digit_size (x : Int) : (strOfNums [x]).size = 1 := rfl

set_option maxRecDepth 100000 in
theorem markText_any (k : Nat) (w : World) (h0 : 0 < k) (hk : k ≤ 1099511627776) :
    Calls Tryz.prog 104 #[.int .i64 k] w fun e w' => e = .returned (.string (mt k)) ∧ Below w.heap.size w w' := by
  have hd : ¬ ((k : Int) ≤ 0) := by omega
  go_enter Tryz.func104, Tryz.ntmps104
  go_wp2
  go_loopw [0, 3] (fun i o ws => ∃ (j f : Nat) (s : ByteArray), i = .int .i64 j ∧ o = .string s ∧ j < f ∧ Hid (mtLoop f j s = mtLoop (k + 1) k ⟨#[]⟩) ∧ s.size + j ≤ k ∧ Below w.heap.size w ws) (fun i _ _ => (intOf i).toNat)
  case atStart => exact ⟨k, k + 1, ⟨#[]⟩, rfl, rfl, by omega, rfl, by show 0 + k ≤ k; omega, gre _⟩
  case round =>
    obtain ⟨j, f, s, rfl, rfl, hf, hm, hsz, hb⟩ := hrel
    by_cases hj : j = 0
    · subst hj
      have hd2 : ¬ ((0 : Int) < ((0 : Nat) : Int)) := by omega
      have hc : ¬ (9223372036854775807 < 1 + s.size) := by omega
      have hm2 : Hid (mt k = ⟨#[109]⟩ ++ s) := by have h1 := hm.out; rw [mtLoop_zero] at h1; show mt k = _; unfold mt; rw [← h1]
      go_wp2
      go_ret
      exact ⟨by rw [hm2.out]; rfl, hb⟩
    · have hd2 : (0 : Int) < (j : Int) := by omega
      obtain ⟨d, hdd⟩ : ∃ d, Hid (d = strOfNums [48 + (j : Int) % 10]) := ⟨_, rfl⟩
      have hds : d.size = 1 := by rw [hdd.out]; rfl
      have hconv : (convert 52 9 (.slice (some ⟨wr.heap.size, 0, none⟩) 1 1)).run Tryz.prog (wr.alloc (.cells #[.int .u8 (48 + (j : Int) % 10)] 5)) = .ok (.string d) (wr.alloc (.cells #[.int .u8 (48 + (j : Int) % 10)] 5)) := by
        rw [hdd.out]
        exact run_convert_bytes_arg _ 52 5 Tryz.underlying52 Tryz.underlying5 wr.heap.size 0 1 1 [48 + (j : Int) % 10] rfl (fun i hi => by have e : i = 0 := (by omega); subst e; simp) 9 Tryz.underlying9
      have hc : ¬ (9223372036854775807 < d.size + s.size) := by omega
      have hnext : Hid (mtLoop (f - 1) (j / 10) (d ++ s) = mtLoop (k + 1) k ⟨#[]⟩) := by rw [hdd.out, ← mtLoop_step s hj hf]; exact hm.out
      have hsz2 : (d ++ s).size + j / 10 ≤ k := by rw [ByteArray.size_append]; omega
      go_wp2
      go_roundw
      case rel => exact ⟨j / 10, f - 1, d ++ s, by go_num, rfl, by omega, hnext, hsz2, gal hb _⟩
      case measure => simp [intOf]; omega

end Go.Proofs.YthjddpkegooobacGreat
