/-
  DMARK2: marks in writes and disks. Own work.
-/
import Derived.Test.YthjddpkegooobabDMark
namespace Go.Proofs.Ythjddpkegooobab
open Go.RowKit

/-- one write, marked -/
theorem MWs.step {w w' : World} {lo hi : Nat} {a : Option Addr} {n : Nat} {B : Nat → Int} {F : Nat → List Nat} {fa : Nat → Option Addr} {fc : Nat → Nat} (h : MWs w lo hi a n B F fa fc) {j : Nat} (hj : j < n) {g : Nat} (hg : a = some ⟨g, 0, none⟩) (k : Int) {ys : List Nat} (hy : ys.length = (F j).length) (hB : BB w' lo hi (fa j) ys) (hK : Kept (fun b => F j ≠ [] ∧ fa j = some ⟨b, 0, none⟩) (w.setCell ⟨g, j * 2, none⟩ (.int .i64 k)) w') :
    MWs w' lo hi a n (fun i => if i = j then k else B i) (fun i => if i = j then ys else F i) fa fc := by
  obtain ⟨g', m, f, h1, h2, h3, h4, h5, h6⟩ := h.row (by omega)
  rw [hg] at h1
  obtain rfl := some_addr h1
  have hp : ∀ b, F j ≠ [] ∧ fa j = some ⟨b, 0, none⟩ → IsB w b := fun b hb => (h.tb ⟨j, hj, hb.1, hb.2⟩).2.2
  have hS := (Kept.refl (fun b => b = g) w).set (a := ⟨g, j * 2, none⟩) (fun _ => rfl) (.int .i64 k)
  refine ⟨fun _ => ?_, fun i hi => ?_, h.far⟩
  · refine ⟨g, m, _, hg, h2, h3, hK.rowIs (h4.set (j * 2) (.int .i64 k)) (fun hb => not_B_of_W (rowIs_isW h4) (hp g hb)), h5, fun i hi => ⟨?_, ?_⟩⟩
    · show (if i * 2 = j * 2 then _ else _) = _
      by_cases e : i = j
      · subst e; simp
      · rw [if_neg (by omega), if_neg e]; exact (h6 i hi).1
    · show (if i * 2 + 1 = j * 2 then _ else _) = Value.slice (fa i) (if i = j then ys else F i).length (fc i)
      rw [if_neg (by omega)]
      split
      · rename_i e; subst e; rw [hy]; exact (h6 i hi).2
      · exact (h6 i hi).2
  · show BB w' lo _ (fa i) (if i = j then ys else F i)
    split
    · rename_i e; subst e; exact hB
    · rename_i e
      refine ((h.byt i hi).kept hS (fun b hb hne hq => ?_)).kept hK (fun b hb _ hq => h.ne hi hj e b hb hq.2)
      subst hq
      exact not_B_of_W (rowIs_isW h4) (h.tb ⟨i, hi, hne, hb⟩).2.2

/-- what marking writes touches -/
def TW (a : Option Addr) (n : Nat) (F : Nat → List Nat) (fa : Nat → Option Addr) (b : Nat) : Prop := a = some ⟨b, 0, none⟩ ∨ TB n F fa b

set_option maxRecDepth 100000 in
theorem markWriteS_any (a : Option Addr) (n cap k lo hi : Nat) (B : Nat → Int) (F : Nat → List Nat) (fa : Nat → Option Addr) (fc : Nat → Nat) (w : World) (hn : n ≤ 1048576) (hl : ∀ i, i < n → (F i).length ≤ 1048576) (hk : wE F k n ≤ 1099511627776) (h : MWs w lo hi a n B F fa fc) :
    Calls Try.prog 94 #[.slice a n cap, .int .i64 k] w fun e w' => e = .returned (.int .i64 (wE F k n : Nat)) ∧ MWs w' lo hi a n (fun i => (wE F k i : Nat)) (wM F k) fa fc ∧ Kept (fun b => 0 < n ∧ TW a n F fa b) w w' := by
  go_enter Try.func94, Try.ntmps94
  go_wp2
  go_loopw [1, 5] (fun c i wr => ∃ (j q : Nat) (C : Nat → Int) (G : Nat → List Nat), j ≤ n ∧ Hid (q = wE F k j) ∧ c = .int .i64 (q : Int) ∧ i = .int .i64 (j : Int) ∧ MWs wr lo hi a n C G fa fc ∧ (∀ i, i < j → C i = (wE F k i : Nat) ∧ G i = wM F k i) ∧ (∀ i, j ≤ i → G i = F i) ∧ Kept (fun b => 0 < n ∧ TW a n F fa b) w wr) (fun _ i _ => n - (intOf i).toNat)
  case atStart => exact ⟨0, k, B, F, Nat.zero_le _, rfl, rfl, rfl, h, fun i hi => absurd hi (Nat.not_lt_zero _), fun _ _ => rfl, Kept.refl _ _⟩
  case round =>
    obtain ⟨j, q, C, G, hj, hq, rfl, rfl, hM, hG1, hG2, hK⟩ := hrel
    have hqle : q ≤ 1099511627776 := by have := wE_le F k hj; have := hq.out; omega
    by_cases hlt : j < n
    · obtain ⟨g, m, f, rfl, h2, h3, h4, h5, h6⟩ := hM.row (by omega)
      have hq2 : q + 1 ≤ 1099511627776 := by have h8 := wE_le F k (show j + 1 ≤ n by omega); have h9 := hq.out; simp only [wE] at h8; omega
      have c0 := h4.cell (i := j * 2) (by omega)
      have c1 := h4.cell (i := j * 2 + 1) (by omega)
      have fz := h4.frozen
      rw [(h6 j hlt).1] at c0
      rw [(h6 j hlt).2, hG2 j (Nat.le_refl _)] at c1
      have c1' := (World.cell?_setCell_other wr ⟨g, j * 2, none⟩ ⟨g, j * 2 + 1, none⟩ (.int .i64 (q : Int)) (by simp)).trans c1
      have i0 : (0 : Int) ≤ (j : Int) := by omega
      have i1 : (j : Int) < (n : Int) := by omega
      have hBj := hM.byt j hlt
      have hBj := hBj.kept ((Kept.refl (fun b => b = g) wr).set (a := ⟨g, j * 2, none⟩) (fun _ => rfl) (.int .i64 (q : Int))) (fun b hb hne hq => by subst hq; exact not_B_of_W (rowIs_isW h4) (hM.tb ⟨j, hlt, hne, hb⟩).2.2)
      rw [hG2 j (Nat.le_refl _)] at hBj
      have hlj := hl j hlt
      obtain ⟨ys, hys⟩ := hid_ex (F j)
      rw [← hys.out] at c1 c1' hBj hlj
      go_wp2_with (go_at_call 22; rw [show ((q : Int) + 1) = ((q + 1 : Nat) : Int) by omega]; refine (markBytes_any (fa j) ys (fc j) (q + 1) lo hi _ hlj hq2 hBj).mono ?_; rintro e w2 ⟨rfl, hB2, hK2⟩)
      go_roundw
      case rel =>
        have e1 : G j = F j := hG2 j (Nat.le_refl _)
        have hb1 : marksB (q + 1) ys.length = wM F k j := by rw [hys.out, hq.out]; rfl
        refine ⟨j + 1, q + 1 + ys.length, _, _, by omega, by show _ = _; rw [hq.out, hys.out]; rfl, by go_num, by go_num, hM.step hlt rfl (q : Int) (ys := marksB (q + 1) ys.length) (by rw [marksB_length, e1, hys.out]) hB2 (hK2.mono (fun b _ hb => by rw [e1, ← hys.out]; exact hb)), fun i hi => ⟨?_, ?_⟩, fun i hi => ?_, (hK.set (fun _ => ⟨by omega, Or.inl rfl⟩) _).trans hK2 (fun b _ hb => ⟨by omega, Or.inr ⟨j, hlt, by rw [← hys.out]; exact hb.1, hb.2⟩⟩)⟩
        · show (if i = j then _ else _) = _
          split
          · rename_i e; rw [e, hq.out]
          · exact (hG1 i (by omega)).1
        · show (if i = j then _ else _) = _
          split
          · rename_i e; rw [e]; exact hb1
          · exact (hG1 i (by omega)).2
        · show (if i = j then _ else _) = _
          rw [if_neg (by omega)]; exact hG2 i (by omega)
      case measure => simp [intOf]; omega
    · obtain rfl : j = n := by omega
      go_wp2
      go_ret
      exact ⟨by rw [hq.out]; rfl, hM.congr (fun i hi => (hG1 i hi).1.symm) (fun i hi => (hG1 i hi).2.symm), hK⟩

set_option maxRecDepth 100000 in
theorem heldWriteS_any (a : Option Addr) (n cap k lo hi : Nat) (F : Nat → List Nat) (fa : Nat → Option Addr) (fc : Nat → Nat) (w : World) (hn : n ≤ 1048576) (hl : ∀ i, i < n → (F i).length ≤ 1048576) (hk : wE F k n ≤ 1099511627776) (h : MWs w lo hi a n (fun i => (wE F k i : Nat)) (wM F k) fa fc) :
    Calls Try.prog 96 #[.slice a n cap, .int .i64 k] w fun e w' => e = .returned (.int .i64 (wE F k n : Nat)) ∧ Below w.heap.size w w' := by
  go_enter Try.func96, Try.ntmps96
  go_wp2
  go_loopw [1, 5] (fun c i wr => ∃ (j q : Nat), j ≤ n ∧ Hid (q = wE F k j) ∧ c = .int .i64 (q : Int) ∧ i = .int .i64 (j : Int) ∧ Below w.heap.size w wr) (fun _ i _ => n - (intOf i).toNat)
  case atStart => exact ⟨0, k, Nat.zero_le _, rfl, rfl, rfl, gre _⟩
  case round =>
    obtain ⟨j, q, hj, hq, rfl, rfl, hb⟩ := hrel
    have hqle : q ≤ 1099511627776 := by have := wE_le F k hj; have := hq.out; omega
    have hM := h.out (Kept.of_below hb (fun _ => False)) (fun _ _ _ e => e)
    by_cases hlt : j < n
    · obtain ⟨g, m, f, rfl, h2, h3, h4, h5, h6⟩ := hM.row (by omega)
      have hq2 : q + 1 ≤ 1099511627776 := by have h8 := wE_le F k (show j + 1 ≤ n by omega); have h9 := hq.out; simp only [wE] at h8; omega
      have c0 := h4.cell (i := j * 2) (by omega)
      have c1 := h4.cell (i := j * 2 + 1) (by omega)
      rw [(h6 j hlt).1, ← hq.out] at c0
      rw [(h6 j hlt).2] at c1
      have i0 : (0 : Int) ≤ (j : Int) := by omega
      have i1 : (j : Int) < (n : Int) := by omega
      have hBj := (hM.byt j hlt).bytes
      have hlj := hl j hlt
      unfold wM at c1 hBj
      rw [marksB_length] at c1
      rw [← hq.out] at hBj
      obtain ⟨x, hx⟩ := hid_ex (F j).length
      rw [← hx.out] at c1 hBj hlj
      have hd : ¬ ((q : Int) + 1 + (x : Int) < 0) := by omega
      have hn2 : ((q : Int) != (q : Int)) = false := by simp
      go_wp2_with (go_at_call 23; rw [show ((q : Int) + 1) = ((q + 1 : Nat) : Int) by omega]; refine (heldByteS_any (fa j) x (fc j) (q + 1) _ hlj hq2 hBj).mono ?_; rintro e w2 ⟨rfl, hb2⟩)
      go_roundw
      case rel => exact ⟨j + 1, q + 1 + x, by omega, by show _ = _; rw [hq.out, hx.out]; rfl, by go_num, by go_num, gca hb hb2⟩
      case measure => simp [intOf]; omega
    · obtain rfl : j = n := by omega
      go_wp2
      go_ret
      exact ⟨by rw [hq.out]; rfl, hb⟩

/-- the same, marked from k on -/
structure MDM (w : World) (lo hi : Nat) (l : DL) (d : DD) (k : Nat) (fa ga : Nat → Option Addr) (fc gc : Nat → Nat) : Prop where
  b : MBs w lo hi l.ba d.blocks.length (bM (fun i => d.blocks[i]!) k) fa fc
  w : MWs w lo hi l.wa d.waiting.length (fun i => (wE (fun i => d.waiting[i]!.bytes) (bE (fun i => d.blocks[i]!) k d.blocks.length) i : Nat)) (wM (fun i => d.waiting[i]!.bytes) (bE (fun i => d.blocks[i]!) k d.blocks.length)) ga gc
def DD.mend (d : DD) (k : Nat) : Nat := wE (fun i => d.waiting[i]!.bytes) (bE (fun i => d.blocks[i]!) k d.blocks.length) d.waiting.length
theorem DD.mend_sz (d : DD) (k : Nat) : (d.mend k : Int) ≤ k + d.sz := by
  unfold DD.mend DD.sz
  rw [wE_sz _ _ _ (Nat.le_refl _), List.take_length, bE_sz _ _ _ (Nat.le_refl _), List.take_length]
  omega
theorem DD.mend_le (d : DD) (k : Nat) : bE (fun i => d.blocks[i]!) k d.blocks.length ≤ d.mend k := wE_le _ _ (Nat.zero_le _)

theorem MDM.out {p : Nat → Prop} {w w' : World} {lo hi : Nat} {l : DL} {d : DD} {k : Nat} {fa ga : Nat → Option Addr} {fc gc : Nat → Nat} (h : MDM w lo hi l d k fa ga fc gc) (K : Kept p w w') (hp : ∀ b, lo ≤ b → b < hi → ¬ p b) : MDM w' lo hi l d k fa ga fc gc := ⟨h.b.out K hp, h.w.out K hp⟩
theorem MDM.grow {w w' : World} {lo hi : Nat} {l : DL} {d : DD} {k : Nat} {fa ga : Nat → Option Addr} {fc gc : Nat → Nat} (h : MDM w lo hi l d k fa ga fc gc) (hb : Below w.heap.size w w') : MDM w' lo hi l d k fa ga fc gc := h.out (Kept.of_below hb (fun _ => False)) (fun _ _ _ e => e)

theorem OwnD.md {w : World} {l : DL} {lo : Nat} {bs xs : Nat → Nat} {d : DD} (h : OwnD w l lo bs xs d) : MD w lo w.heap.size l d (fun i => some ⟨bs i, 0, none⟩) (fun i => some ⟨xs i, 0, none⟩) (fun i => d.blocks[i]!.length) (fun i => d.waiting[i]!.bytes.length) := by
  obtain ⟨⟨N, h1, h2, f, h3, h4⟩, M, h5, h6, ⟨f', h7, h8⟩, h9⟩ := h
  refine ⟨⟨fun _ => ⟨N, _, f, h1, h2, h3.lt, h3, Nat.le_refl _, fun i hi => (h4 i hi).1⟩, fun i hi => ?_, fun i j hij hj => ?_⟩, ⟨fun _ => ⟨M, _, f', h5, h6, h7.lt, h7, Nat.le_refl _, fun i hi => ⟨(h8 i hi).1, (h8 i hi).2.1⟩⟩, fun i hi => ?_, fun i j hij hj => ?_⟩, fun i j hi hj => ?_⟩
  · have h0 := h4 i hi
    exact Or.inr ⟨bs i, _, rfl, by omega, h0.2.1.lt, h0.2.1⟩
  · intro b e1 e2
    have := (h4 j hj).2.2.2 i hij
    have := some_addr e1
    have := some_addr e2
    omega
  · have h0 := h8 i hi
    exact Or.inr ⟨xs i, _, rfl, by omega, h0.2.2.1.lt, h0.2.2.1⟩
  · intro b e1 e2
    have := (h8 j hj).2.2.2.2 i hij
    have := some_addr e1
    have := some_addr e2
    omega
  · intro b e1 e2
    have := h9 i hi
    have := (h8 j hj).2.2.2.1
    have := some_addr e1
    have := some_addr e2
    omega

set_option maxRecDepth 100000 in
theorem markDisk_any (d : DD) (l : DL) (k lo hi : Nat) (fa ga : Nat → Option Addr) (fc gc : Nat → Nat) (w : World) (hs : d.Small) (hk : d.mend k ≤ 1099511627776) (hhi : hi ≤ w.heap.size) (h : MD w lo hi l d fa ga fc gc) :
    Calls Try.prog 33 #[d.val l, .int .i64 k] w fun e w' => e = .returned (.int .i64 (d.mend k : Nat)) ∧ MDM w' lo hi l d k fa ga fc gc ∧ Kept (fun b => lo ≤ b ∧ b < hi) w w' := by
  have hA := gal (gre w) (.cells #[.slice l.ba d.blocks.length l.bc, .slice l.wa d.waiting.length l.wc] 50)
  have hbx := DBox.new w d l 50
  have hM0 := h.grow hA
  obtain ⟨q, hq⟩ := hid_ex (bE (fun i => d.blocks[i]!) k d.blocks.length)
  have hmd : Hid (d.mend k = wE (fun i => d.waiting[i]!.bytes) q d.waiting.length) := by show _ = _; rw [hq.out]; rfl
  have hqk : q ≤ 1099511627776 := by rw [hq.out]; exact Nat.le_trans (d.mend_le k) hk
  go_enter Try.func33, Try.ntmps33
  go_wp2_with (go_at_call 93; refine (markByteSS_any l.ba d.blocks.length l.bc k lo hi (fun i => d.blocks[i]!) fa fc _ hs.bl (fun i hi => hs.bb _ (mem_at hi)) (by rw [← hq.out]; exact hqk) hM0.b).mono ?_; rintro e w1 ⟨rfl, hM1, hK1⟩; rw [← hq.out]; obtain ⟨_, x0, x1⟩ := hbx.kept hK1 (fun hp => by have := hM0.b.tb hp; omega))
  have hW1 := hM0.w.kept hK1 (fun b m f _ hr hp => not_B_of_W (rowIs_isW hr) (hM0.b.tb hp).2.2) (fun b hb hp => by
    obtain ⟨i, hi, _, e1⟩ := hp
    obtain ⟨j, hj, _, e2⟩ := hb
    exact h.far i j hi hj b e1 e2)
  refine (markWriteS_any l.wa d.waiting.length l.wc q lo hi _ (fun i => d.waiting[i]!.bytes) ga gc _ hs.wl (fun i hi => hs.wb _ (mem_at hi)) (by rw [← hmd.out]; exact hk) hW1).mono ?_
  rintro e w2 ⟨rfl, hM2, hK2⟩
  rw [← hmd.out]
  go_wp2
  go_ret
  refine ⟨rfl, ⟨?_, by rw [← hq.out]; exact hM2⟩, ?_⟩
  · refine hM1.kept hK2 (fun b m f hb hr hp => ?_) (fun b hb hp => ?_)
    · rcases hp.2 with e | e
      · obtain ⟨g, m', f', h1, _, _, h4, _⟩ := hW1.row hp.1
        rw [e] at h1
        obtain rfl := some_addr h1
        exact not_W_of_bs hr (rowIs_isW h4)
      · exact not_B_of_bs hr (hW1.tb e).2.2
    · obtain ⟨i, hi, hne, e1⟩ := hb
      rcases hp.2 with e | e
      · obtain ⟨g, m', f', h1, _, _, h4, _⟩ := hW1.row hp.1
        rw [e] at h1
        obtain rfl := some_addr h1
        exact not_B_of_W (rowIs_isW h4) (hM1.tb ⟨i, hi, hne, e1⟩).2.2
      · obtain ⟨j, hj, _, e2⟩ := e
        exact h.far i j hi hj b e1 e2
  · have hk0 : Kept (fun b => lo ≤ b ∧ b < hi) w _ := Kept.of_below hA _
    refine (hk0.trans hK1 (fun b _ hp => ?_)).trans hK2 (fun b _ hp => ?_)
    · have := hM0.b.tb hp
      exact ⟨this.1, this.2.1⟩
    · rcases hp.2 with e | e
      · obtain ⟨g, m', f', h1, h2, h3, _⟩ := hW1.row hp.1
        rw [e] at h1
        obtain rfl := some_addr h1
        exact ⟨h2, h3⟩
      · have := hW1.tb e
        exact ⟨this.1, this.2.1⟩

set_option maxRecDepth 100000 in
theorem heldDisk_any (d : DD) (l : DL) (k lo hi : Nat) (fa ga : Nat → Option Addr) (fc gc : Nat → Nat) (w : World) (hs : d.Small) (hk : d.mend k ≤ 1099511627776) (h : MDM w lo hi l d k fa ga fc gc) :
    Calls Try.prog 34 #[d.val l, .int .i64 k] w fun e w' => e = .returned (.int .i64 (d.mend k : Nat)) ∧ Below w.heap.size w w' := by
  have hA := gal (gre w) (.cells #[.slice l.ba d.blocks.length l.bc, .slice l.wa d.waiting.length l.wc] 50)
  have hbx := DBox.new w d l 50
  have hM0 := h.grow hA
  obtain ⟨q, hq⟩ := hid_ex (bE (fun i => d.blocks[i]!) k d.blocks.length)
  have hmd : Hid (d.mend k = wE (fun i => d.waiting[i]!.bytes) q d.waiting.length) := by show _ = _; rw [hq.out]; rfl
  have hqk : q ≤ 1099511627776 := by rw [hq.out]; exact Nat.le_trans (d.mend_le k) hk
  have hd : ¬ ((q : Int) < 0) := by omega
  have hd2 : ¬ ((d.mend k : Int) < 0) := by omega
  go_enter Try.func34, Try.ntmps34
  go_wp2_with (first
    | (go_at_call 95; refine (heldByteSS_any l.ba d.blocks.length l.bc k lo hi (fun i => d.blocks[i]!) fa fc _ hs.bl (fun i hi => hs.bb _ (mem_at hi)) (by rw [← hq.out]; exact hqk) hM0.b).mono ?_; rintro e w1 ⟨rfl, hb1⟩; rw [← hq.out]; obtain ⟨_, x0, x1⟩ := hbx.grow hb1)
    | (go_at_call 96; refine (heldWriteS_any l.wa d.waiting.length l.wc q lo hi (fun i => d.waiting[i]!.bytes) ga gc _ hs.wl (fun i hi => hs.wb _ (mem_at hi)) (by rw [← hmd.out]; exact hk) (by rw [hq.out]; exact (hM0.grow hb1).w)).mono ?_; rintro e w2 ⟨rfl, hb2⟩; rw [← hmd.out]))
  go_ret
  exact ⟨rfl, gca (gca hA hb1) hb2⟩

end Go.Proofs.Ythjddpkegooobab
