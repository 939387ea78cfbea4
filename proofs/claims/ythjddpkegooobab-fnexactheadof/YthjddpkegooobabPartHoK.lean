import Derived.ProofKit
import Derived.OpenShut
import Derived.Deep.Slices
import Derived.Test.YthjddpkegooobabPartHoI
import Derived.Test.YthjddpkegooobabPartHoJ

/-
  DMARK2: marks in writes and disks. Own work.
-/
namespace Go.Proofs.Ythjddpkegooobab
open Go.RowKit

/-- one write, marked -/
theorem MWs.step {w w' : World} {lo hi : Nat} {a : Option Addr} {n : Nat} {B : Nat → Int} {F : Nat → List Nat} {fa : Nat → Option Addr} {fc : Nat → Nat} (h : MWs w lo hi a n B F fa fc) {j : Nat} (hj : j < n) {g : Nat} (hg : a = some ⟨g, 0, none⟩) (k : Int) {ys : List Nat} (hy : ys.length = (F j).length) (hB : BB w' lo hi (fa j) ys) (hK : Kept (fun b => F j ≠ [] ∧ fa j = some ⟨b, 0, none⟩) (w.setCell ⟨g, j * 2, none⟩ (.int .i64 k)) w') :
    MWs w' lo hi a n (fun i => if i = j then k else B i) (fun i => if i = j then ys else F i) fa fc := by
  obtain ⟨g', m, f, h1, h2, h3, h4, h5, h6⟩ := h.row (by omega)
  rw [hg] at h1
  obtain rfl := some_addr h1
  have hp : ∀ b, F j ≠ [] ∧ fa j = some ⟨b, 0, none⟩ → IsB w b := fun b hb => (h.tb ⟨j, hj, hb.1, hb.2⟩).2.2
  have hS := (Kept.refl (fun b => b = g) w).set (a := ⟨g, j * 2, none⟩) (fun _ => rfl) (.int .i64 k)
  refine ⟨fun _ => ?_, fun i hi => ?_, h.far⟩
  · refine ⟨g, m, _, hg, h2, h3, hK.rowIs (h4.set (j * 2) (.int .i64 k)) (fun hb => not_B_of_W (rowIs_isW h4) (hp g hb)), h5, fun i hi => ⟨?_, ?_⟩⟩
    · show (if i * 2 = j * 2 then _ else _) = _
      by_cases e : i = j
      · subst e; simp
      · rw [if_neg (by omega), if_neg e]; exact (h6 i hi).1
    · show (if i * 2 + 1 = j * 2 then _ else _) = Value.slice (fa i) (if i = j then ys else F i).length (fc i)
      rw [if_neg (by omega)]
      split
      · rename_i e; subst e; rw [hy]; exact (h6 i hi).2
      · exact (h6 i hi).2
  · show BB w' lo _ (fa i) (if i = j then ys else F i)
    split
    · rename_i e; subst e; exact hB
    · rename_i e
      refine ((h.byt i hi).kept hS (fun b hb hne hq => ?_)).kept hK (fun b hb _ hq => h.ne hi hj e b hb hq.2)
      subst hq
      exact not_B_of_W (rowIs_isW h4) (h.tb ⟨i, hi, hne, hb⟩).2.2

/-- what marking writes touches -/
def TW (a : Option Addr) (n : Nat) (F : Nat → List Nat) (fa : Nat → Option Addr) (b : Nat) : Prop := a = some ⟨b, 0, none⟩ ∨ TB n F fa b

set_option maxRecDepth 100000 in
theorem markWriteS_any (a : Option Addr) (n cap k lo hi : Nat) (B : Nat → Int) (F : Nat → List Nat) (fa : Nat → Option Addr) (fc : Nat → Nat) (w : World) (hn : n ≤ 1048576) (hl : ∀ i, i < n → (F i).length ≤ 1048576) (hk : wE F k n ≤ 1099511627776) (h : MWs w lo hi a n B F fa fc) :
    Calls Try.prog 94 #[.slice a n cap, .int .i64 k] w fun e w' => e = .returned (.int .i64 (wE F k n : Nat)) ∧ MWs w' lo hi a n (fun i => (wE F k i : Nat)) (wM F k) fa fc ∧ Kept (fun b => 0 < n ∧ TW a n F fa b) w w' := by
  go_enter Try.func94, Try.ntmps94
  go_wp2
  go_loopw [1, 5] (fun c i wr => ∃ (j q : Nat) (C : Nat → Int) (G : Nat → List Nat), j ≤ n ∧ Hid (q = wE F k j) ∧ c = .int .i64 (q : Int) ∧ i = .int .i64 (j : Int) ∧ MWs wr lo hi a n C G fa fc ∧ (∀ i, i < j → C i = (wE F k i : Nat) ∧ G i = wM F k i) ∧ (∀ i, j ≤ i → G i = F i) ∧ Kept (fun b => 0 < n ∧ TW a n F fa b) w wr) (fun _ i _ => n - (intOf i).toNat)
  case atStart => exact ⟨0, k, B, F, Nat.zero_le _, rfl, rfl, rfl, h, fun i hi => absurd hi (Nat.not_lt_zero _), fun _ _ => rfl, Kept.refl _ _⟩
  case round =>
    obtain ⟨j, q, C, G, hj, hq, rfl, rfl, hM, hG1, hG2, hK⟩ := hrel
    have hqle : q ≤ 1099511627776 := by have := wE_le F k hj; have := hq.out; omega
    by_cases hlt : j < n
    · obtain ⟨g, m, f, rfl, h2, h3, h4, h5, h6⟩ := hM.row (by omega)
      have hq2 : q + 1 ≤ 1099511627776 := by have h8 := wE_le F k (show j + 1 ≤ n by omega); have h9 := hq.out; simp only [wE] at h8; omega
      have c0 := h4.cell (i := j * 2) (by omega)
      have c1 := h4.cell (i := j * 2 + 1) (by omega)
      have fz := h4.frozen
      rw [(h6 j hlt).1] at c0
      rw [(h6 j hlt).2, hG2 j (Nat.le_refl _)] at c1
      have c1' := (World.cell?_setCell_other wr ⟨g, j * 2, none⟩ ⟨g, j * 2 + 1, none⟩ (.int .i64 (q : Int)) (by simp)).trans c1
      have i0 : (0 : Int) ≤ (j : Int) := by omega
      have i1 : (j : Int) < (n : Int) := by omega
      have hBj := hM.byt j hlt
      have hBj := hBj.kept ((Kept.refl (fun b => b = g) wr).set (a := ⟨g, j * 2, none⟩) (fun _ => rfl) (.int .i64 (q : Int))) (fun b hb hne hq => by subst hq; exact not_B_of_W (rowIs_isW h4) (hM.tb ⟨j, hlt, hne, hb⟩).2.2)
      rw [hG2 j (Nat.le_refl _)] at hBj
      have hlj := hl j hlt
      obtain ⟨ys, hys⟩ := hid_ex (F j)
      rw [← hys.out] at c1 c1' hBj hlj
      go_wp2_with (go_at_call 22; rw [show ((q : Int) + 1) = ((q + 1 : Nat) : Int) by omega]; refine (markBytes_any (fa j) ys (fc j) (q + 1) lo hi _ hlj hq2 hBj).mono ?_; rintro e w2 ⟨rfl, hB2, hK2⟩)
      go_roundw
      case rel =>
        have e1 : G j = F j := hG2 j (Nat.le_refl _)
        have hb1 : marksB (q + 1) ys.length = wM F k j := by rw [hys.out, hq.out]; rfl
        refine ⟨j + 1, q + 1 + ys.length, _, _, by omega, by show _ = _; rw [hq.out, hys.out]; rfl, by go_num, by go_num, hM.step hlt rfl (q : Int) (ys := marksB (q + 1) ys.length) (by rw [marksB_length, e1, hys.out]) hB2 (hK2.mono (fun b _ hb => by rw [e1, ← hys.out]; exact hb)), fun i hi => ⟨?_, ?_⟩, fun i hi => ?_, (hK.set (fun _ => ⟨by omega, Or.inl rfl⟩) _).trans hK2 (fun b _ hb => ⟨by omega, Or.inr ⟨j, hlt, by rw [← hys.out]; exact hb.1, hb.2⟩⟩)⟩
        · show (if i = j then _ else _) = _
          split
          · rename_i e; rw [e, hq.out]
          · exact (hG1 i (by omega)).1
        · show (if i = j then _ else _) = _
          split
          · rename_i e; rw [e]; exact hb1
          · exact (hG1 i (by omega)).2
        · show (if i = j then _ else _) = _
          rw [if_neg (by omega)]; exact hG2 i (by omega)
      case measure => simp [intOf]; omega
    · obtain rfl : j = n := by omega
      go_wp2
      go_ret
      exact ⟨by rw [hq.out]; rfl, hM.congr (fun i hi => (hG1 i hi).1.symm) (fun i hi => (hG1 i hi).2.symm), hK⟩

set_option maxRecDepth 100000 in
theorem heldWriteS_any (a : Option Addr) (n cap k lo hi : Nat) (F : Nat → List Nat) (fa : Nat → Option Addr) (fc : Nat → Nat) (w : World) (hn : n ≤ 1048576) (hl : ∀ i, i < n → (F i).length ≤ 1048576) (hk : wE F k n ≤ 1099511627776) (h : MWs w lo hi a n (fun i => (wE F k i : Nat)) (wM F k) fa fc) :
    Calls Try.prog 96 #[.slice a n cap, .int .i64 k] w fun e w' => e = .returned (.int .i64 (wE F k n : Nat)) ∧ Below w.heap.size w w' := by
  go_enter Try.func96, Try.ntmps96
  go_wp2
  go_loopw [1, 5] (fun c i wr => ∃ (j q : Nat), j ≤ n ∧ Hid (q = wE F k j) ∧ c = .int .i64 (q : Int) ∧ i = .int .i64 (j : Int) ∧ Below w.heap.size w wr) (fun _ i _ => n - (intOf i).toNat)
  case atStart => exact ⟨0, k, Nat.zero_le _, rfl, rfl, rfl, gre _⟩
  case round =>
    obtain ⟨j, q, hj, hq, rfl, rfl, hb⟩ := hrel
    have hqle : q ≤ 1099511627776 := by have := wE_le F k hj; have := hq.out; omega
    have hM := h.out (Kept.of_below hb (fun _ => False)) (fun _ _ _ e => e)
    by_cases hlt : j < n
    · obtain ⟨g, m, f, rfl, h2, h3, h4, h5, h6⟩ := hM.row (by omega)
      have hq2 : q + 1 ≤ 1099511627776 := by have h8 := wE_le F k (show j + 1 ≤ n by omega); have h9 := hq.out; simp only [wE] at h8; omega
      have c0 := h4.cell (i := j * 2) (by omega)
      have c1 := h4.cell (i := j * 2 + 1) (by omega)
      rw [(h6 j hlt).1, ← hq.out] at c0
      rw [(h6 j hlt).2] at c1
      have i0 : (0 : Int) ≤ (j : Int) := by omega
      have i1 : (j : Int) < (n : Int) := by omega
      have hBj := (hM.byt j hlt).bytes
      have hlj := hl j hlt
      unfold wM at c1 hBj
      rw [marksB_length] at c1
      rw [← hq.out] at hBj
      obtain ⟨x, hx⟩ := hid_ex (F j).length
      rw [← hx.out] at c1 hBj hlj
      have hd : ¬ ((q : Int) + 1 + (x : Int) < 0) := by omega
      have hn2 : ((q : Int) != (q : Int)) = false := by simp
      go_wp2_with (go_at_call 23; rw [show ((q : Int) + 1) = ((q + 1 : Nat) : Int) by omega]; refine (heldByteS_any (fa j) x (fc j) (q + 1) _ hlj hq2 hBj).mono ?_; rintro e w2 ⟨rfl, hb2⟩)
      go_roundw
      case rel => exact ⟨j + 1, q + 1 + x, by omega, by show _ = _; rw [hq.out, hx.out]; rfl, by go_num, by go_num, gca hb hb2⟩
      case measure => simp [intOf]; omega
    · obtain rfl : j = n := by omega
      go_wp2
      go_ret
      exact ⟨by rw [hq.out]; rfl, hb⟩

/-- the same, marked from k on -/
structure MDM (w : World) (lo hi : Nat) (l : DL) (d : DD) (k : Nat) (fa ga : Nat → Option Addr) (fc gc : Nat → Nat) : Prop where
  b : MBs w lo hi l.ba d.blocks.length (bM (fun i => d.blocks[i]!) k) fa fc
  w : MWs w lo hi l.wa d.waiting.length (fun i => (wE (fun i => d.waiting[i]!.bytes) (bE (fun i => d.blocks[i]!) k d.blocks.length) i : Nat)) (wM (fun i => d.waiting[i]!.bytes) (bE (fun i => d.blocks[i]!) k d.blocks.length)) ga gc
def DD.mend (d : DD) (k : Nat) : Nat := wE (fun i => d.waiting[i]!.bytes) (bE (fun i => d.blocks[i]!) k d.blocks.length) d.waiting.length
theorem DD.mend_sz (d : DD) (k : Nat) : (d.mend k : Int) ≤ k + d.sz := by
  unfold DD.mend DD.sz
  rw [wE_sz _ _ _ (Nat.le_refl _), List.take_length, bE_sz _ _ _ (Nat.le_refl _), List.take_length]
  omega
theorem DD.mend_le (d : DD) (k : Nat) : bE (fun i => d.blocks[i]!) k d.blocks.length ≤ d.mend k := wE_le _ _ (Nat.zero_le _)

theorem MDM.out {p : Nat → Prop} {w w' : World} {lo hi : Nat} {l : DL} {d : DD} {k : Nat} {fa ga : Nat → Option Addr} {fc gc : Nat → Nat} (h : MDM w lo hi l d k fa ga fc gc) (K : Kept p w w') (hp : ∀ b, lo ≤ b → b < hi → ¬ p b) : MDM w' lo hi l d k fa ga fc gc := ⟨h.b.out K hp, h.w.out K hp⟩
theorem MDM.grow {w w' : World} {lo hi : Nat} {l : DL} {d : DD} {k : Nat} {fa ga : Nat → Option Addr} {fc gc : Nat → Nat} (h : MDM w lo hi l d k fa ga fc gc) (hb : Below w.heap.size w w') : MDM w' lo hi l d k fa ga fc gc := h.out (Kept.of_below hb (fun _ => False)) (fun _ _ _ e => e)

theorem OwnD.md {w : World} {l : DL} {lo : Nat} {bs xs : Nat → Nat} {d : DD} (h : OwnD w l lo bs xs d) : MD w lo w.heap.size l d (fun i => some ⟨bs i, 0, none⟩) (fun i => some ⟨xs i, 0, none⟩) (fun i => d.blocks[i]!.length) (fun i => d.waiting[i]!.bytes.length) := by
  obtain ⟨⟨N, h1, h2, f, h3, h4⟩, M, h5, h6, ⟨f', h7, h8⟩, h9⟩ := h
  refine ⟨⟨fun _ => ⟨N, _, f, h1, h2, h3.lt, h3, Nat.le_refl _, fun i hi => (h4 i hi).1⟩, fun i hi => ?_, fun i j hij hj => ?_⟩, ⟨fun _ => ⟨M, _, f', h5, h6, h7.lt, h7, Nat.le_refl _, fun i hi => ⟨(h8 i hi).1, (h8 i hi).2.1⟩⟩, fun i hi => ?_, fun i j hij hj => ?_⟩, fun i j hi hj => ?_⟩
  · have h0 := h4 i hi
    exact Or.inr ⟨bs i, _, rfl, by omega, h0.2.1.lt, h0.2.1⟩
  · intro b e1 e2
    have := (h4 j hj).2.2.2 i hij
    have := some_addr e1
    have := some_addr e2
    omega
  · have h0 := h8 i hi
    exact Or.inr ⟨xs i, _, rfl, by omega, h0.2.2.1.lt, h0.2.2.1⟩
  · intro b e1 e2
    have := (h8 j hj).2.2.2.2 i hij
    have := some_addr e1
    have := some_addr e2
    omega
  · intro b e1 e2
    have := h9 i hi
    have := (h8 j hj).2.2.2.1
    have := some_addr e1
    have := some_addr e2
    omega

set_option maxRecDepth 100000 in
theorem markDisk_any (d : DD) (l : DL) (k lo hi : Nat) (fa ga : Nat → Option Addr) (fc gc : Nat → Nat) (w : World) (hs : d.Small) (hk : d.mend k ≤ 1099511627776) (hhi : hi ≤ w.heap.size) (h : MD w lo hi l d fa ga fc gc) :
    Calls Try.prog 33 #[d.val l, .int .i64 k] w fun e w' => e = .returned (.int .i64 (d.mend k : Nat)) ∧ MDM w' lo hi l d k fa ga fc gc ∧ Kept (fun b => lo ≤ b ∧ b < hi) w w' := by
  have hA := gal (gre w) (.cells #[.slice l.ba d.blocks.length l.bc, .slice l.wa d.waiting.length l.wc] 50)
  have hbx := DBox.new w d l 50
  have hM0 := h.grow hA
  obtain ⟨q, hq⟩ := hid_ex (bE (fun i => d.blocks[i]!) k d.blocks.length)
  have hmd : Hid (d.mend k = wE (fun i => d.waiting[i]!.bytes) q d.waiting.length) := by show _ = _; rw [hq.out]; rfl
  have hqk : q ≤ 1099511627776 := by rw [hq.out]; exact Nat.le_trans (d.mend_le k) hk
  go_enter Try.func33, Try.ntmps33
  go_wp2_with (go_at_call 93; refine (markByteSS_any l.ba d.blocks.length l.bc k lo hi (fun i => d.blocks[i]!) fa fc _ hs.bl (fun i hi => hs.bb _ (mem_at hi)) (by rw [← hq.out]; exact hqk) hM0.b).mono ?_; rintro e w1 ⟨rfl, hM1, hK1⟩; rw [← hq.out]; obtain ⟨_, x0, x1⟩ := hbx.kept hK1 (fun hp => by have := hM0.b.tb hp; omega))
  have hW1 := hM0.w.kept hK1 (fun b m f _ hr hp => not_B_of_W (rowIs_isW hr) (hM0.b.tb hp).2.2) (fun b hb hp => by
    obtain ⟨i, hi, _, e1⟩ := hp
    obtain ⟨j, hj, _, e2⟩ := hb
    exact h.far i j hi hj b e1 e2)
  refine (markWriteS_any l.wa d.waiting.length l.wc q lo hi _ (fun i => d.waiting[i]!.bytes) ga gc _ hs.wl (fun i hi => hs.wb _ (mem_at hi)) (by rw [← hmd.out]; exact hk) hW1).mono ?_
  rintro e w2 ⟨rfl, hM2, hK2⟩
  rw [← hmd.out]
  go_wp2
  go_ret
  refine ⟨rfl, ⟨?_, by rw [← hq.out]; exact hM2⟩, ?_⟩
  · refine hM1.kept hK2 (fun b m f hb hr hp => ?_) (fun b hb hp => ?_)
    · rcases hp.2 with e | e
      · obtain ⟨g, m', f', h1, _, _, h4, _⟩ := hW1.row hp.1
        rw [e] at h1
        obtain rfl := some_addr h1
        exact not_W_of_bs hr (rowIs_isW h4)
      · exact not_B_of_bs hr (hW1.tb e).2.2
    · obtain ⟨i, hi, hne, e1⟩ := hb
      rcases hp.2 with e | e
      · obtain ⟨g, m', f', h1, _, _, h4, _⟩ := hW1.row hp.1
        rw [e] at h1
        obtain rfl := some_addr h1
        exact not_B_of_W (rowIs_isW h4) (hM1.tb ⟨i, hi, hne, e1⟩).2.2
      · obtain ⟨j, hj, _, e2⟩ := e
        exact h.far i j hi hj b e1 e2
  · have hk0 : Kept (fun b => lo ≤ b ∧ b < hi) w _ := Kept.of_below hA _
    refine (hk0.trans hK1 (fun b _ hp => ?_)).trans hK2 (fun b _ hp => ?_)
    · have := hM0.b.tb hp
      exact ⟨this.1, this.2.1⟩
    · rcases hp.2 with e | e
      · obtain ⟨g, m', f', h1, h2, h3, _⟩ := hW1.row hp.1
        rw [e] at h1
        obtain rfl := some_addr h1
        exact ⟨h2, h3⟩
      · have := hW1.tb e
        exact ⟨this.1, this.2.1⟩

set_option maxRecDepth 100000 in
theorem heldDisk_any (d : DD) (l : DL) (k lo hi : Nat) (fa ga : Nat → Option Addr) (fc gc : Nat → Nat) (w : World) (hs : d.Small) (hk : d.mend k ≤ 1099511627776) (h : MDM w lo hi l d k fa ga fc gc) :
    Calls Try.prog 34 #[d.val l, .int .i64 k] w fun e w' => e = .returned (.int .i64 (d.mend k : Nat)) ∧ Below w.heap.size w w' := by
  have hA := gal (gre w) (.cells #[.slice l.ba d.blocks.length l.bc, .slice l.wa d.waiting.length l.wc] 50)
  have hbx := DBox.new w d l 50
  have hM0 := h.grow hA
  obtain ⟨q, hq⟩ := hid_ex (bE (fun i => d.blocks[i]!) k d.blocks.length)
  have hmd : Hid (d.mend k = wE (fun i => d.waiting[i]!.bytes) q d.waiting.length) := by show _ = _; rw [hq.out]; rfl
  have hqk : q ≤ 1099511627776 := by rw [hq.out]; exact Nat.le_trans (d.mend_le k) hk
  have hd : ¬ ((q : Int) < 0) := by omega
  have hd2 : ¬ ((d.mend k : Int) < 0) := by omega
  go_enter Try.func34, Try.ntmps34
  go_wp2_with (first
    | (go_at_call 95; refine (heldByteSS_any l.ba d.blocks.length l.bc k lo hi (fun i => d.blocks[i]!) fa fc _ hs.bl (fun i hi => hs.bb _ (mem_at hi)) (by rw [← hq.out]; exact hqk) hM0.b).mono ?_; rintro e w1 ⟨rfl, hb1⟩; rw [← hq.out]; obtain ⟨_, x0, x1⟩ := hbx.grow hb1)
    | (go_at_call 96; refine (heldWriteS_any l.wa d.waiting.length l.wc q lo hi (fun i => d.waiting[i]!.bytes) ga gc _ hs.wl (fun i hi => hs.wb _ (mem_at hi)) (by rw [← hmd.out]; exact hk) (by rw [hq.out]; exact (hM0.grow hb1).w)).mono ?_; rintro e w2 ⟨rfl, hb2⟩; rw [← hmd.out]))
  go_ret
  exact ⟨rfl, gca (gca hA hb1) hb2⟩

end Go.Proofs.Ythjddpkegooobab

/-
  BEQUAL: the library's comparing of bytes. Own work.
-/
namespace Go.Proofs.Ythjddpkegooobab
open Go.RowKit

theorem bs_strB {xs : List Nat} (h : ∀ x, x ∈ xs → x < 256) : bsOf (strB xs) = xs := by
  unfold bsOf strB strOfNums
  show ((xs.map _).map _).map _ = xs
  rw [List.map_map, List.map_map]
  conv => rhs; rw [← List.map_id xs]
  apply List.map_congr_left
  intro x hx
  show (UInt8.ofNat ((x : Int)).toNat).toNat = x
  have := h x hx
  simp []
  omega
theorem strB_eq {xs ys : List Nat} (hx : ∀ x, x ∈ xs → x < 256) (hy : ∀ x, x ∈ ys → x < 256) : ((strB xs).toList == (strB ys).toList) = decide (xs = ys) := by
  by_cases h : xs = ys
  · subst h; simp
  · rw [decide_eq_false h, beq_eq_false_iff_ne]
    intro e
    apply h
    have e2 : strB xs = strB ys := by
      apply ByteArray.ext
      apply Array.ext'
      rw [← ByteArray.toList_eq, ← ByteArray.toList_eq]; exact e
    rw [← bs_strB hx, e2, bs_strB hy]

set_option maxRecDepth 100000 in
theorem bytesEqual_any (a a' : Option Addr) (xs ys : List Nat) (c c' : Nat) (w : World) (hx : ∀ x, x ∈ xs → x < 256) (hy : ∀ x, x ∈ ys → x < 256) (ha : BytesAt w a xs) (ha' : BytesAt w a' ys) :
    Calls Try.prog 88 #[.slice a xs.length c, .slice a' ys.length c'] w fun e w' => e = .returned (.bool (decide (xs = ys))) ∧ Below w.heap.size w w' := by
  have h1 := conv_text (n := xs.length) (c := c) ha rfl
  have h2 := conv_text (n := ys.length) (c := c') ha' rfl
  have h3 := strB_eq hx hy
  go_enter Try.func88, Try.ntmps88
  go_wp2
  go_ret
  exact ⟨by first | rfl | rw [← h3]; rfl, gre _⟩

end Go.Proofs.Ythjddpkegooobab

/-
  REGIONV: the end of a region that draws its order. Own work.
-/
namespace Go.Proofs.Ythjddpkegooobab
open Go.RowKit

/-- none may come up any more -/
theorem anyU_done {P : Program} {ops : Array Oper} {Q : Exit → Act → World → Prop} {md : Region.Mode} {S : World → Prop} {lst : Nat} {fuel : Nat} {listed : Array Bool} {a : Act} {w : World} (hd : Region.ready md ops listed = []) (hQ : Q .normal a w) : anyU P md ops Q S lst fuel listed a w := by
  cases fuel with
  | zero => exact ⟨hd, hQ⟩
  | succ f => exact ⟨fun _ => hQ, fun i hi => by rw [hd] at hi; cases hi⟩

end Go.Proofs.Ythjddpkegooobab

/-
  IHEAD2: the program's HeadOf. Own work.
-/
namespace Go.Proofs.Ythjddpkegooobab
open Go.RowKit

theorem run_slice_tail (u : World) (b : Nat) : (Instr.sliceAt 121 (.pointer (some ⟨b, 0, none⟩)) (some (.int .i64 4)) none none).run Try.prog u = .ok (.slice (some ⟨b, 4, none⟩) 60 60) u := by
  simp [Instr.sliceAt, run_underlying Try.underlying121, Instr.sureAddr, Instr.sliceBounds, go_sem, Addr.add]
set_option maxRecDepth 100000 in
theorem method_drive (p : Nat) (w : World) : (method 337 119 (.pointer (some ⟨p, 0, none⟩)) "loop.example/chest/impl.read").run Try.prog w = .ok (111, .pointer (some ⟨p, 0, none⟩)) w := by kernel_rfl

theorem rdLow_some : ∀ (k i : Nat) (n : Int) (r : List Nat), k ≤ r.length → ∃ x, rdLow k i n r = some (x, r.drop k)
  | 0, _, n, r, _ => ⟨n, rfl⟩
  | k + 1, i, n, x :: r, h => by
    obtain ⟨y, hy⟩ := rdLow_some k (i + 1) (orI n x i) r (by simpa using h)
    exact ⟨y, hy⟩

/-- what heads' bytes read as to the program -/
structure IRd (bs : List Nat) (g l s : Int) (r1 r2 r3 : List Nat) : Prop where
  e1 : rdLow 8 0 0 (bs.drop 4) = some (g, r1)
  e2 : rdLow 8 0 0 r1 = some (l, r2)
  e3 : rdLow 8 0 0 r2 = some (s, r3)
theorem ird {bs : List Nat} (h : bs.length = 64) : ∃ g l s r1 r2 r3, IRd bs g l s r1 r2 r3 := by
  obtain ⟨g, hg⟩ := rdLow_some 8 0 0 (bs.drop 4) (by rw [List.length_drop]; omega)
  obtain ⟨l, hl⟩ := rdLow_some 8 0 0 ((bs.drop 4).drop 8) (by rw [List.length_drop, List.length_drop]; omega)
  obtain ⟨s, hs⟩ := rdLow_some 8 0 0 (((bs.drop 4).drop 8).drop 8) (by rw [List.length_drop, List.length_drop, List.length_drop]; omega)
  exact ⟨g, l, s, _, _, _, hg, hl, hs⟩
theorem ird_is {bs : List Nat} {g l s : Int} {r1 r2 r3 : List Nat} (h : IRd bs g l s r1 r2 r3) {x : HH} (hx : x.Is bs) : g = x.gen ∧ l = x.len ∧ s = x.sum := by
  have hr := rng_i64 hx.rng
  obtain ⟨h1, h2, h3⟩ := h
  rw [hx.eq, headB_drop, rdLow_word (by unfold I64; omega)] at h1
  injection h1 with h1
  injection h1 with e1 e1'
  rw [← e1', rdLow_word (by unfold I64; omega)] at h2
  injection h2 with h2
  injection h2 with e2 e2'
  rw [← e2', rdLow_word hx.sum] at h3
  injection h3 with h3
  injection h3 with e3 e3'
  exact ⟨e1.symm, e2.symm, e3.symm⟩
theorem ird_sum {bs : List Nat} {g l s : Int} {r1 r2 r3 : List Nat} (h : IRd bs g l s r1 r2 r3) (hk : headOkB true g l = true) (he : headB g l s = bs) : I64 s := by
  have hr := rng_i64 hk
  obtain ⟨h1, h2, h3⟩ := h
  rw [← he, headB_drop, rdLow_word (by unfold I64; omega)] at h1
  injection h1 with h1
  injection h1 with e1 e1'
  rw [← e1', rdLow_word (by unfold I64; omega)] at h2
  injection h2 with h2
  injection h2 with e2 e2'
  have h4 := rdLow_back 8 0 0 (u64n s) (lowB 8 (sumN (headN g l s)) ++ List.replicate 28 0) (by omega) (by simp)
  rw [show IntKind.i64.wrap ((0 : Nat) : Int) = 0 by rw [IntKind.wrap_i64]; omega, e2', h3] at h4
  injection h4 with h4
  injection h4 with e3 e3'
  rw [e3, IntKind.wrap_i64]
  unfold I64
  omega

theorem readWord_known (b : Nat) (sa : Option Addr) (cap : Nat) (bs r : List Nat) (x : Int) (r' : List Nat) (w : World) (hR : Rd w b sa cap bs r) (hx : Hid (rdLow 8 0 0 r = some (x, r'))) :
    Calls Try.prog 157 #[.pointer (some ⟨b, 0, none⟩)] w fun e w' => e = .returned (.int .i64 x) ∧ Rd w' b sa cap bs r' ∧ Kept (fun k => k = b) w w' :=
  (readWord_any b sa cap bs r w hR).mono fun e w' ⟨hK, h⟩ => by
    rcases h with ⟨y, q, hf, he, hR'⟩ | ⟨hf, _⟩
    · have e1 := hx.out.symm.trans hf.out
      injection e1 with e1
      injection e1 with e2 e3
      subst e2
      subst e3
      exact ⟨he, hR', hK⟩
    · have e1 := hx.out.symm.trans hf.out
      cases e1

theorem Rd.new {w : World} {q : Nat} {bs : List Nat} (hb : ∀ x, x ∈ bs → x < 256) (hl : bs.length = 64) (ht : TRow w 121 q 64 bs) : Rd (w.alloc (.cells #[.slice (some ⟨q, 4, none⟩) 60 60, .int .i64 0] 117)) w.heap.size (some ⟨q, 4, none⟩) 60 (bs.drop 4) (bs.drop 4) := by
  have hd : (bs.drop 4).length = 60 := by rw [List.length_drop, hl]
  have hA := gal (gre w) (.cells #[.slice (some ⟨q, 4, none⟩) 60 60, .int .i64 0] 117)
  refine ⟨⟨0, ⟨by simp, by rw [hd]; simp, by simp, fun o => by simp⟩, Nat.zero_le _, rfl⟩, ?_, by omega, by omega, fun x hx => hb x (List.mem_of_mem_drop hx)⟩
  refine BytesLow.below (B := w.heap.size) (w := w) (fun i hi => ?_) hA
  obtain ⟨b, off, e, hc⟩ := ht.at_ (4 + i) (by omega)
  refine ⟨q, 4, rfl, ht.lt, ?_⟩
  injection e with e
  injection e with e3 e4
  subst e3
  subst e4
  rw [getElem!_pos (bs.drop 4) i hi, List.getElem_drop]
  rw [getElem!_pos bs (4 + i) (by omega), Nat.zero_add] at hc
  exact hc

theorem headBB_byte (ok : Bool) (gen len sum : Int) : ∀ x, x ∈ headBB ok gen len sum → x < 256 := by
  unfold headBB
  split
  · intro x hx
    unfold headB at hx
    rcases List.mem_append.1 hx with hx | hx
    · rcases List.mem_append.1 hx with hx | hx
      · exact headN_byte gen len sum x hx
      · exact lowB_byte _ _ _ hx
    · rw [List.eq_of_mem_replicate hx]; decide
  · intro x hx
    cases hx
theorem calls_argsH {P : Program} {f : Nat} {a b : Array Value} {w : World} {Q : Ending → World → Prop} (h : Calls P f a w Q) (e : a = b) : Calls P f b w Q := by subst e; exact h

/-- a slot of a drive -/
structure SV (w : World) (b p m : Nat) : Prop where
  lt : b < w.heap.size
  c0 : w.cell? ⟨b, 0, none⟩ = some (.pointer (some ⟨p, 0, none⟩))
  c1 : w.cell? ⟨b, 1, none⟩ = some (.int .i64 (m : Int))
theorem SV.kept {q : Nat → Prop} {w w' : World} {b p m : Nat} (h : SV w b p m) (k : Kept q w w') (hn : ¬ q b) : SV w' b p m :=
  ⟨Nat.lt_of_lt_of_le h.lt k.size, k.cell h.c0 hn, k.cell h.c1 hn⟩
theorem SV.grow {w w' : World} {b p m : Nat} (h : SV w b p m) (k : Below w.heap.size w w') : SV w' b p m := h.kept (Kept.of_below k (fun _ => False)) (fun e => e)
theorem SV.new (w : World) (p m : Nat) (t : TypeId) : SV (w.alloc (.cells #[.pointer (some ⟨p, 0, none⟩), .int .i64 (m : Int)] t)) w.heap.size p m := ⟨by simp, by simp, by simp⟩

set_option maxHeartbeats 2000000 in
set_option maxRecDepth 100000 in
theorem head_any (p m : Nat) (bl : List (List Nat)) (pa : Option Addr) (pc : Nat) (ws : List DW) (kv : Value) (bs : List Nat) (w : World) (hm : m < 130) (hw : ws.length ≤ 201) (hbs : Hid (readN bl ws (m : Int) ws.length = bs)) (hbl : Hid (bs.length = 64)) (hbb : ∀ x, x ∈ bs → x < 256) (hDr : Dr w p bl pa pc ws kv) :
    Calls Try.prog 115 #[.agg #[.pointer (some ⟨p, 0, none⟩), .int .i64 (m : Int)]] w fun e w' => e = .returned (headOf bs).val ∧ Below w.heap.size w w' := by
  have hz64 := (zero_of_info zero_content).1
  have hSl := run_slice_content
  have hSl4 := run_slice_tail
  have hMe := method_drive p
  obtain ⟨G, L, S, r1, r2, r3, hE⟩ := ird hbl.out
  have E1 : Hid _ := hE.e1
  have E2 : Hid _ := hE.e2
  have E3 : Hid _ := hE.e3
  have hyl : Hid ((bcells bs).length = 64) := by show _ = _; rw [bcells_length, hbl.out]
  have hA := gal (gal (gre w) (.cells #[.pointer (some ⟨p, 0, none⟩), .int .i64 (m : Int)] 141)) (.cells #[.bool false, .int .i64 0, .int .i64 0, .int .i64 0] 74)
  have hR0 := HV.new_at (w.alloc (.cells #[.pointer (some ⟨p, 0, none⟩), .int .i64 (m : Int)] 141)) noH 74 (w.heap.size + 1) (by simp)
  go_enter Try.func115, Try.ntmps115
  go_upto_region 2 with (first
    | (go_at_call 111; refine (read_any p bl pa pc ws kv (m : Int) _ (by omega) (by omega) hw (hDr.grow hA)).mono ?_; rw [hbs.out]; rintro e w1 ⟨rfl, hb1⟩)
    | (refine wpList_alloc_big rfl 121 rfl _ hz64 ?_)
    | (refine wpList_store_new rfl 121 _ _ rfl _ (bcells bs).toArray rfl rfl (by rw [size_content]; simp [hyl.out]) (by simp [zeros, hyl.out]) (all_oneCell_toArray cells_u8) ?_))
  have hrow := row_new w1 bs 121
  rw [hbl.out] at hrow
  have hb2 := gal hb1 (.cells (bcells bs).toArray 121)
  have hs2 : w1.heap.size + 1 = (w1.alloc (.cells (bcells bs).toArray 121)).heap.size := by simp
  have hRl := (hR0.grow hb1).box.lt
  generalize w1.alloc (.cells (bcells bs).toArray 121) = w2 at hrow hb2 hs2 ⊢
  generalize w1.heap.size = q at hrow hs2 hRl ⊢
  have hRd := Rd.new hbb hbl.out hrow
  have hb3 := gal hb2 (.cells #[.slice (some ⟨q, 4, none⟩) 60 60, .int .i64 0] 117)
  have hrow3 := hrow.kept (Kept.of_below (gal (gre w2) (.cells #[.slice (some ⟨q, 4, none⟩) 60 60, .int .i64 0] 117)) (fun _ => False)) (fun e => e)
  go_upto_region 3 with fail
  generalize w2.alloc (.cells #[.slice (some ⟨q, 4, none⟩) 60 60, .int .i64 0] 117) = w3 at hRd hb3 hrow3 ⊢
  rw [← hs2] at hRd ⊢
  clear hrow hb2 hs2
  have hR3 := hR0.grow hb3
  have hA3 := gca hA hb3
  go_upto_region 4 with (first
    | (go_at_call 157; refine (readWord_known _ _ _ _ r2 S r3 w5 hRd2 E3).mono ?_; rintro e w6 ⟨rfl, hRd3, hK3⟩)
    | (go_at_call 157; refine (readWord_known _ _ _ _ r1 L r2 w4 hRd1 E2).mono ?_; rintro e w5 ⟨rfl, hRd2, hK2⟩)
    | (go_at_call 157; refine (readWord_known _ _ _ _ _ G r1 w3 hRd E1).mono ?_; rintro e w4 ⟨rfl, hRd1, hK1⟩))
  have hK := (hK1.trans hK2 (fun _ _ h => h)).trans hK3 (fun _ _ h => h)
  have hR6 := hR3.kept hK (by omega)
  have hrow6 := hrow3.kept hK (by omega)
  have hA6 := hA3.trans (hK.below (B := w.heap.size) hA3.size (fun k hk e => by omega))
  have hb7 := gal (gre w6) (.cells #[.bool true, .int .i64 G, .int .i64 L, .int .i64 S] 74)
  have hHv := HV.new_at w6 ⟨true, G, L, S⟩ 74 w6.heap.size rfl
  have hR7 := hR6.grow hb7
  have hrow7 := hrow6.kept (Kept.of_below hb7 (fun _ => False)) (fun e => e)
  have hA7 := gca hA6 hb7
  have hHl := hRd3.lt
  generalize w6.alloc (.cells #[.bool true, .int .i64 G, .int .i64 L, .int .i64 S] 74) = w7 at hb7 hHv hR7 hrow7 hA7 ⊢
  generalize w6.heap.size = H at hb7 hHv ⊢
  clear hRd hRd1 hRd2 hRd3 hK1 hK2 hK3 hK hR3 hR6 hrow3 hrow6 hA3 hA6
  have hB : Below w7.heap.size w7 w7.drew := gdr (gre _)
  by_cases t : headBB true G L S = bs
  · have t' : Hid (decide (headBB true G L S = bs) = true) := decide_eq_true t
    have hk : headOkB true G L = true := by
      cases hk : headOkB true G L with
      | true => rfl
      | false =>
        rw [show headBB true G L S = [] from if_neg (by rw [hk]; simp)] at t
        have := hbl.out
        rw [← t] at this
        simp at this
    have hhe : headB G L S = bs := by rw [← t]; exact (if_pos hk).symm
    have hans : Hid (headOf bs = ⟨true, G, L, S⟩) := headOf_yes (x := ⟨true, G, L, S⟩) ⟨rfl, hk, ird_sum hE hk hhe, hhe.symm⟩
    clear t hk hhe hE
    refine wp_regionU (fun u => HBox u H true G L S) 99 (by kernel_rfl) (hHv.grow hB).box (fun _ => ?_)
    refine anyU_take (i := 0) (v := ?_) rfl (by kernel_rfl) (by kernel_rfl) (by kernel_rfl) (by kernel_rfl) (fun _ _ _ h => h) (Or.inl ⟨by rfl, ?_⟩) (hHv.grow hB).box ?_
    rotate_left
    · intro u hSu; obtain ⟨_, s0, s1, s2, s3⟩ := hSu; go_simp <;> with_reducible rfl
    simp only [Act.put, List.getElem_toArray, List.getElem_cons_zero, List.setIfInBounds_toArray, List.set_cons_zero, List.set_cons_succ]
    refine anyU_take (i := 2) (v := ?_) rfl (by kernel_rfl) (by kernel_rfl) (by kernel_rfl) (by kernel_rfl) (fun _ _ _ h => h) (Or.inl ⟨by rfl, ?_⟩) (hHv.grow hB).box ?_
    rotate_left
    · intro u hSu; go_simp <;> with_reducible rfl
    simp only [Act.put, List.getElem_toArray, List.getElem_cons_zero, List.getElem_cons_succ, List.setIfInBounds_toArray, List.set_cons_zero, List.set_cons_succ]
    refine anyU_one (i := 1) (by kernel_rfl) rfl (fun K hK => ?_)
    go_simp
    refine (implHeadBlock_any true G L S _).mono ?_
    rintro e w8 ⟨oa8, c8, rfl, hM8, hb8⟩
    have hB := gca hB hb8
    refine hK.out _ _ (hHv.grow hB).box ?_
    clear hK
    refine anyU_one (i := 3) (by kernel_rfl) rfl (fun K hK => ?_)
    go_simp
    refine (calls_argsH (bytesEqual_any oa8 (some ⟨q, 0, none⟩) (headBB true G L S) bs c8 64 w8 (headBB_byte true G L S) hbb hM8.atH (hrow7.at_.grow hB)) (by rw [hbl.out])).mono ?_
    rintro e w9 ⟨rfl, hb9⟩
    rw [t'.out]
    have hB := gca hB hb9
    refine hK.out _ _ (hHv.grow hB).box ?_
    clear hK
    refine anyU_one (i := 4) (by kernel_rfl) rfl (fun K hK => ?_)
    go_simp
    refine hK.out _ _ (hHv.grow hB).box ?_
    clear hK
    refine anyU_done (by kernel_rfl) ?_
    have hR9 := hR7.grow hB
    have hH9 := hHv.grow hB
    have hA9 := gca hA7 hB
    clear hB hb8 hb9 hM8
    obtain ⟨⟨_, z0, z1, z2, z3⟩, zf⟩ := id hR9
    obtain ⟨⟨_, y0, y1, y2, y3⟩, yf⟩ := id hH9
    go_upto_region 99 with fail
    obtain ⟨c0, c1, c2, c3, K⟩ := ret4 hR9 (.bool true) (.int .i64 G) (.int .i64 L) (.int .i64 S)
    exact bodyPost_ret (v := headV true G L S) (by simp [results, Try.results115, go_sem, c0, c1, c2, c3]) rfl ⟨by rw [hans.out], hA9.trans (K.below (B := w.heap.size) hA9.size (fun k hk e => by omega))⟩
  · have t' : Hid (decide (headBB true G L S = bs) = false) := decide_eq_false t
    have hans : Hid (headOf bs = noH) := headOf_no (bs := bs) (fun x hx => by
      obtain ⟨e1, e2, e3⟩ := ird_is hE hx
      refine t ?_
      rw [e1, e2, e3]
      exact (if_pos hx.rng).trans hx.eq.symm)
    clear t hE
    refine wp_regionU (fun u => HBox u H true G L S) 99 (by kernel_rfl) (hHv.grow hB).box (fun _ => ?_)
    refine anyU_take (i := 0) (v := ?_) rfl (by kernel_rfl) (by kernel_rfl) (by kernel_rfl) (by kernel_rfl) (fun _ _ _ h => h) (Or.inl ⟨by rfl, ?_⟩) (hHv.grow hB).box ?_
    rotate_left
    · intro u hSu; obtain ⟨_, s0, s1, s2, s3⟩ := hSu; go_simp <;> with_reducible rfl
    simp only [Act.put, List.getElem_toArray, List.getElem_cons_zero, List.setIfInBounds_toArray, List.set_cons_zero, List.set_cons_succ]
    refine anyU_take (i := 2) (v := ?_) rfl (by kernel_rfl) (by kernel_rfl) (by kernel_rfl) (by kernel_rfl) (fun _ _ _ h => h) (Or.inl ⟨by rfl, ?_⟩) (hHv.grow hB).box ?_
    rotate_left
    · intro u hSu; go_simp <;> with_reducible rfl
    simp only [Act.put, List.getElem_toArray, List.getElem_cons_zero, List.getElem_cons_succ, List.setIfInBounds_toArray, List.set_cons_zero, List.set_cons_succ]
    refine anyU_one (i := 1) (by kernel_rfl) rfl (fun K hK => ?_)
    go_simp
    refine (implHeadBlock_any true G L S _).mono ?_
    rintro e w8 ⟨oa8, c8, rfl, hM8, hb8⟩
    have hB := gca hB hb8
    refine hK.out _ _ (hHv.grow hB).box ?_
    clear hK
    refine anyU_one (i := 3) (by kernel_rfl) rfl (fun K hK => ?_)
    go_simp
    refine (calls_argsH (bytesEqual_any oa8 (some ⟨q, 0, none⟩) (headBB true G L S) bs c8 64 w8 (headBB_byte true G L S) hbb hM8.atH (hrow7.at_.grow hB)) (by rw [hbl.out])).mono ?_
    rintro e w9 ⟨rfl, hb9⟩
    rw [t'.out]
    have hB := gca hB hb9
    refine hK.out _ _ (hHv.grow hB).box ?_
    clear hK
    refine anyU_one (i := 4) (by kernel_rfl) rfl (fun K hK => ?_)
    go_simp
    refine hK.out _ _ (hHv.grow hB).box ?_
    clear hK
    refine anyU_done (by kernel_rfl) ?_
    have hR9 := hR7.grow hB
    have hH9 := hHv.grow hB
    have hA9 := gca hA7 hB
    clear hB hb8 hb9 hM8
    obtain ⟨⟨_, z0, z1, z2, z3⟩, zf⟩ := id hR9
    obtain ⟨⟨_, y0, y1, y2, y3⟩, yf⟩ := id hH9
    go_upto_region 99 with fail
    obtain ⟨c0, c1, c2, c3, K⟩ := ret4 hR9 (.bool false) (.int .i64 0) (.int .i64 0) (.int .i64 0)
    exact bodyPost_ret (v := noH.val) (by simp [results, Try.results115, go_sem, c0, c1, c2, c3]) rfl ⟨by rw [hans.out], hA9.trans (K.below (B := w.heap.size) hA9.size (fun k hk e => by omega))⟩

end Go.Proofs.Ythjddpkegooobab

/-
  IHEAD2: the program's HeadOf. Own work.
-/
namespace Go.Proofs.Ythjddpkegooobab
open Go.RowKit

set_option maxHeartbeats 1000000 in
set_option maxRecDepth 100000 in
theorem implHeadOf_any (d : DD) (l : DL) (b : Int) (w : World) (hd : d.Ok) (ha : DAt w l d) (hb : I64 b) :
    Calls Try.prog 51 #[d.val l, .int .i64 b] w fun e w' => e = .returned (d.headOf b).val ∧ Below w.heap.size w w' := by
  unfold I64 at hb
  have hA := gal (gal (gre w) (.cells #[.slice l.ba d.blocks.length l.bc, .slice l.wa d.waiting.length l.wc] 50)) (.cells #[.bool false, .int .i64 0, .int .i64 0, .int .i64 0] 74)
  have hX0 := (DBox.new w d l 50).grow (gal (gre _) (.cells #[.bool false, .int .i64 0, .int .i64 0, .int .i64 0] 74))
  have hR0 := HV.new_at (w.alloc (.cells #[.slice l.ba d.blocks.length l.bc, .slice l.wa d.waiting.length l.wc] 50)) noH 74 (w.heap.size + 1) (by simp)
  by_cases hno : d.ok = false ∨ b < 0 ∨ b ≥ 2
  · rw [show d.headOf b = noH from if_neg (fun h => by rcases hno with e | e | e; · rw [e] at h; cases h.1
                                                       · omega
                                                       · omega)]
    cases hok : d.ok with
    | false =>
      have hok' : Hid _ := hok
      clear hok hno
      go_enter Try.func51, Try.ntmps51
      go_upto_region 99 with (go_at_call 38; refine (implDiskOk_any d l _ hd (ha.grow hA)).mono ?_; rintro e w2 ⟨rfl, hb2⟩; rw [hok'.out]; have hR2 := hR0.grow hb2; obtain ⟨⟨_, z0, z1, z2, z3⟩, zf⟩ := id hR2)
      obtain ⟨c0, c1, c2, c3, K⟩ := ret4 hR2 (.bool false) (.int .i64 0) (.int .i64 0) (.int .i64 0)
      exact bodyPost_ret (v := noH.val) (by simp [results, Try.results51, go_sem, c0, c1, c2, c3]) rfl ⟨rfl, (gca hA hb2).trans (K.below (B := w.heap.size) (gca hA hb2).size (fun k hk e => by omega))⟩
    | true =>
      have hok' : Hid _ := hok
      have hno2 : b < 0 ∨ (¬ b < 0 ∧ b ≥ 2) := by
        rcases hno with e | e | e
        · rw [hok] at e; cases e
        · exact Or.inl e
        · exact Or.inr ⟨by omega, e⟩
      clear hok hno
      rcases hno2 with g0 | ⟨g0, g1⟩
      all_goals
        go_enter Try.func51, Try.ntmps51
        go_upto_region 99 with (go_at_call 38; refine (implDiskOk_any d l _ hd (ha.grow hA)).mono ?_; rintro e w2 ⟨rfl, hb2⟩; rw [hok'.out]; have hR2 := hR0.grow hb2; obtain ⟨⟨_, z0, z1, z2, z3⟩, zf⟩ := id hR2)
        obtain ⟨c0, c1, c2, c3, K⟩ := ret4 hR2 (.bool false) (.int .i64 0) (.int .i64 0) (.int .i64 0)
        exact bodyPost_ret (v := noH.val) (by simp [results, Try.results51, go_sem, c0, c1, c2, c3]) rfl ⟨rfl, (gca hA hb2).trans (K.below (B := w.heap.size) (gca hA hb2).size (fun k hk e => by omega))⟩
  · have hok : d.ok = true := by
      cases h : d.ok with
      | true => rfl
      | false => exact absurd (Or.inl h) hno
    have g0 : ¬ b < 0 := fun h => hno (Or.inr (Or.inl h))
    have g1 : ¬ b ≥ 2 := fun h => hno (Or.inr (Or.inr h))
    clear hno
    obtain ⟨m, rfl⟩ : ∃ m : Nat, b = (m : Int) := ⟨b.toNat, by omega⟩
    have hm : m < 130 := by omega
    have hok' : Hid _ := hok
    rw [show d.headOf (m : Int) = Go.Proofs.Ythjddpkegooobab.headOf (d.rd m) from (if_pos ⟨hok, by omega, by omega⟩).trans (by simp)]
    obtain ⟨h, hh⟩ := hid_ex (Go.Proofs.Ythjddpkegooobab.headOf (d.rd m))
    rw [← hh.out]
    have hfit := DD.fit hok
    clear hok
    go_enter Try.func51, Try.ntmps51
    go_upto_region 99 with (first
      | (go_at_call 38; refine (implDiskOk_any d l _ hd (ha.grow hA)).mono ?_; rintro e w2 ⟨rfl, hb2⟩; rw [hok'.out]; obtain ⟨_, x0, x1⟩ := hX0.grow hb2)
      | (go_at_call 104; refine (driveOf_any d l _ hfit (ha.grow (gca hA hb2))).mono ?_; rintro e w3 ⟨p, pa, pc, rfl, hp3, hDr, hb3⟩)
      | (go_at_call 115; refine (head_any p m d.blocks pa pc d.waiting .nilFunc (d.rd m) _ hm (by have := hfit.wl; omega) rfl (DD.rd_len hfit hm) (DD.rd_byte hfit hd hm) hDr).mono ?_; rw [← hh.out]; rintro e w4 ⟨rfl, hb4⟩; have hR4 := ((hR0.grow hb2).grow hb3).grow hb4; obtain ⟨⟨_, z0, z1, z2, z3⟩, zf⟩ := id hR4))
    obtain ⟨c0, c1, c2, c3, K⟩ := ret4 hR4 (.bool h.ok) (.int .i64 h.gen) (.int .i64 h.len) (.int .i64 h.sum)
    have hB4 := gca (gca (gca hA hb2) hb3) hb4
    exact bodyPost_ret (v := h.val) (by simp [results, Try.results51, go_sem, c0, c1, c2, c3]) rfl ⟨rfl, hB4.trans (K.below (B := w.heap.size) hB4.size (fun k hk e => by omega))⟩

end Go.Proofs.Ythjddpkegooobab

/-
  LAW: FnExactHeadOf, walked. Own work.
-/
namespace Go.Proofs.Ythjddpkegooobab
open Go.RowKit

set_option maxRecDepth 100000 in
theorem eqHead_same (h : HH) (w : World) :
    Calls Try.prog 52 #[h.val, h.val] w fun e w' => e = .returned (.bool true) ∧ Below w.heap.size w w' := by
  have b0 : (h.ok != h.ok) = false := by simp
  have b1 : (h.gen != h.gen) = false := by simp
  have b2 : (h.len != h.len) = false := by simp
  have b3 : (h.sum != h.sum) = false := by simp
  go_enter Try.func52, Try.ntmps52
  go_wp2_with (go_quiet (fail))
  go_ret
  exact ⟨rfl, gal (gal (gre _) _) _⟩

set_option maxHeartbeats 1000000 in
set_option maxRecDepth 100000 in
theorem lawHeadOf (d : DD) (l : DL) (b : Int) (w : World) (hd : d.Ok) (ha : DAt w l d) (hb : I64 b) :
    Calls Try.prog 11 #[d.val l, .int .i64 b] w fun e w' => e = .returned (.bool true) ∧ Below w.heap.size w w' := by
  have hX0 := DBox.new w d l 57
  have hA0 := gal (gre w) (.cells #[.slice l.ba d.blocks.length l.bc, .slice l.wa d.waiting.length l.wc] 57)
  by_cases hs1 : d.sz ≤ 1048576
  · have hs := DD.small hs1
    have hle1 : Hid (leftBy 1048576 d.sz = 1048576 - d.sz) := leftBy_pos (by omega)
    have hd1 : ¬ (1048576 - d.sz < 0) := by omega
    obtain ⟨h, hc⟩ := hid_ex (d.headOf b)
    clear hs1
    go_enter Try.func11, Try.ntmps11
    go_upto_region 6 with (first
      | (go_at_call 35; refine (szDisk_any d l _ _ hd (by decide) (by decide) (ha.grow hA0)).mono ?_; rintro e w1 ⟨rfl, hb1⟩; rw [hle1.out]; obtain ⟨_, x0, x1⟩ := hX0.grow hb1)
      | (go_at_call 37; refine (toDisk_any d l _ hs (ha.grow (gca hA0 hb1))).mono ?_; rintro e w2 ⟨l2, bs2, xs2, rfl, hown2, hb2⟩)
      | (go_at_call 50; refine (specHeadOf_any d l2 b _ hd hown2.at_ hb).mono ?_; rw [← hc.out]; rintro e wA ⟨rfl, hb3⟩))
    have hH0 := HV.new_at wA h 74 wA.heap.size rfl
    have hA := gal (gca (gca (gca hA0 hb1) hb2) hb3) (.cells #[.bool h.ok, .int .i64 h.gen, .int .i64 h.len, .int .i64 h.sum] 74)
    have hXA := hX0.grow (gal (gca (gca hb1 hb2) hb3) (.cells #[.bool h.ok, .int .i64 h.gen, .int .i64 h.len, .int .i64 h.sum] 74))
    generalize wA.alloc (.cells #[.bool h.ok, .int .i64 h.gen, .int .i64 h.len, .int .i64 h.sum] 74) = wB at hH0 hA hXA ⊢
    generalize wA.heap.size = PW at hH0 ⊢
    obtain ⟨PA, hPA⟩ := hid_ex w.heap.size
    rw [← hPA.out] at hXA ⊢
    clear x0 x1 hb1 hb2 hb3 hown2 hX0 hA0
    obtain ⟨_, x0, x1⟩ := id hXA
    go_upto_region 7 with (go_at_call 37; refine (toDisk_any d l _ hs (ha.grow hA)).mono ?_; rintro e w4 ⟨l4, bs4, xs4, rfl, hown4, hb4⟩)
    have hxB := DBox.new w4 d l4 50
    have hbB := gal hb4 (.cells #[.slice l4.ba d.blocks.length l4.bc, .slice l4.wa d.waiting.length l4.wc] 50)
    have hmx0 := hown4.at_.grow (gal (gre w4) (.cells #[.slice l4.ba d.blocks.length l4.bc, .slice l4.wa d.waiting.length l4.wc] 50))
    generalize w4.alloc (.cells #[.slice l4.ba d.blocks.length l4.bc, .slice l4.wa d.waiting.length l4.wc] 50) = wC at hxB hbB hmx0 ⊢
    generalize w4.heap.size = PX at hxB ⊢
    have hXC := hXA.grow hbB
    have hHC := hH0.grow hbB
    have hAC := gca hA hbB
    clear x0 x1 hb4 hown4 hXA hH0 hA hbB
    obtain ⟨_, x0, x1⟩ := id hxB
    go_upto_region 8 with (go_at_call 51; refine (implHeadOf_any d l4 b _ hd hmx0 hb).mono ?_; rw [← hc.out]; rintro e w5 ⟨rfl, hb5⟩)
    have hG0 := HV.new_at w5 h 74 w5.heap.size rfl
    have hbD := gal hb5 (.cells #[.bool h.ok, .int .i64 h.gen, .int .i64 h.len, .int .i64 h.sum] 74)
    generalize w5.alloc (.cells #[.bool h.ok, .int .i64 h.gen, .int .i64 h.len, .int .i64 h.sum] 74) = wD at hG0 hbD ⊢
    generalize w5.heap.size = PG at hG0 ⊢
    have hXD := hXC.grow hbD
    have hHD := hHC.grow hbD
    have hxD := hxB.grow hbD
    have hmxD := hmx0.grow hbD
    have hAD := gca hAC hbD
    clear x0 x1 hb5 hXC hHC hxB hmx0 hAC hbD
    obtain ⟨⟨_, p0, p1, p2, p3⟩, _⟩ := id hHD
    obtain ⟨⟨_, q0, q1, q2, q3⟩, _⟩ := id hG0
    go_upto_region 10 with (go_at_call 52; refine (eqHead_same h _).mono ?_; rintro e w6 ⟨rfl, hb6⟩)
    have hx6 := hxD.grow hb6
    have hX6 := hXD.grow hb6
    have hmx6 := hmxD.grow hb6
    have hBw6 := gca hAD hb6
    clear p0 p1 p2 p3 q0 q1 q2 q3 hxD hXD hmxD hAD hHD hG0
    have hB : Below w6.heap.size w6 w6.drew := gdr (gre _)
    refine wp_regionU (fun u => DBox u PX d l4 ∧ DBox u PA d l) 99 (by kernel_rfl) ⟨hx6.grow hB, hX6.grow hB⟩ (fun _ => ?_)
    refine anyU_take (i := 0) (v := ?_) rfl (by kernel_rfl) (by kernel_rfl) (by kernel_rfl) (by kernel_rfl) (fun _ _ _ h => h) (Or.inl ⟨by rfl, ?_⟩) ⟨hx6.grow hB, hX6.grow hB⟩ ?_
    rotate_left
    · intro u hSu; obtain ⟨⟨_, s0, s1⟩, ⟨_, t0, t1⟩⟩ := hSu; go_simp <;> with_reducible rfl
    simp only [Act.put, List.getElem_toArray, List.getElem_cons_zero, List.setIfInBounds_toArray, List.set_cons_zero, List.set_cons_succ]
    refine anyU_take (i := 1) (v := ?_) rfl (by kernel_rfl) (by kernel_rfl) (by kernel_rfl) (by kernel_rfl) (fun _ _ _ h => h) (Or.inl ⟨by rfl, ?_⟩) ⟨hx6.grow hB, hX6.grow hB⟩ ?_
    rotate_left
    · intro u hSu; obtain ⟨⟨_, s0, s1⟩, ⟨_, t0, t1⟩⟩ := hSu; go_simp <;> with_reducible rfl
    simp only [Act.put, List.getElem_toArray, List.getElem_cons_zero, List.getElem_cons_succ, List.setIfInBounds_toArray, List.set_cons_zero, List.set_cons_succ]
    refine anyU_one (i := 2) (by kernel_rfl) rfl (fun K hK => ?_)
    go_simp
    refine (toDisk_any d l _ hs (ha.grow (gca hBw6 hB))).mono ?_
    rintro e w7 ⟨l7, bs7, xs7, rfl, hown7, hb7⟩
    have hB := gca hB hb7
    refine hK.out _ _ ⟨hx6.grow hB, hX6.grow hB⟩ ?_
    clear hK
    refine anyU_one (i := 3) (by kernel_rfl) rfl (fun K hK => ?_)
    go_simp
    refine (eqDisk_same d _ _ _ hd (hmx6.grow hB) hown7.at_).mono ?_
    rintro e w8 ⟨rfl, hb8⟩
    have hB := gca hB hb8
    refine hK.out _ _ ⟨hx6.grow hB, hX6.grow hB⟩ ?_
    clear hK
    refine anyU_one (i := 4) (by kernel_rfl) rfl (fun K hK => ?_)
    go_simp
    refine hK.out _ _ ⟨hx6.grow hB, hX6.grow hB⟩ ?_
    clear hK
    refine anyU_done (by kernel_rfl) ?_
    have hBw8 := gca hBw6 hB
    go_wp2
    go_ret
    exact ⟨rfl, hBw8⟩
  · have hle1 : Hid (leftBy 1048576 d.sz = -1) := leftBy_neg (by omega)
    go_enter Try.func11, Try.ntmps11
    go_wp2_with (go_at_call 35; refine (szDisk_any d l _ _ hd (by decide) (by decide) (ha.grow hA0)).mono ?_; rintro e w1 ⟨rfl, hb1⟩; rw [hle1.out])
    go_ret
    exact ⟨rfl, gca hA0 hb1⟩

end Go.Proofs.Ythjddpkegooobab

/-
  OPEND: what disks that come in read as. Own work.
-/
namespace Go.Proofs.Ythjddpkegooobab
open Go.RowKit Go.ChangeShapes Go.WideShapes Go.Deep

set_option maxRecDepth 100000 in
theorem dcellsInt : Try.prog.cellsOf 3 = 1 := by kernel_rfl
theorem dcellsU8 : Try.prog.cellsOf 5 = 1 := by kernel_rfl
theorem dcellsBytes : Try.prog.cellsOf 28 = 1 := by kernel_rfl
theorem dcellsWrite : Try.prog.cellsOf 187 = 2 := by kernel_rfl
theorem dcellsBlks : Try.prog.cellsOf 47 = 1 := by kernel_rfl
theorem dcellsWrites : Try.prog.cellsOf 55 = 1 := by kernel_rfl
theorem dcellsDisk : Try.prog.cellsOf 57 = 2 := by kernel_rfl

set_option maxRecDepth 100000 in
theorem di64_of_wf {n : Int} (h : (Lit.int .i64 n).wf = true) : I64 n := by
  have h := bounds_i64 h
  unfold I64
  omega
theorem dbyte_of_wf {x : Int} (h : (Lit.int .u8 x).wf = true) : 0 ≤ x ∧ x < 256 := by
  simp [Lit.wf, IntKind.min, IntKind.max, IntKind.signed, IntKind.bits] at h
  omega

section
variable {H : Type} {enc : TypeId × Value → H} {w : World} {base : Nat} {spare : Nat → Bool} {held : Bool}

set_option maxRecDepth 100000 in
/-- a list out of a family -/
theorem dlist_of {α : Type} [Inhabited α] {n : Nat} {p : Nat → α → Prop} (h : ∀ i, i < n → ∃ x, p i x) : ∃ l : List α, l.length = n ∧ ∀ i, i < n → p i l[i]! := by
  obtain ⟨f, hf⟩ := choose_lt h
  refine ⟨(List.range n).map f, by simp, fun i hi => ?_⟩
  have e : ((List.range n).map f)[i]! = f i := by
    rw [getElem!_pos _ i (by simpa using hi)]; simp
  rw [e]; exact hf i hi

set_option maxRecDepth 100000 in
theorem dall_of_at {α : Type} [Inhabited α] {p : α → Prop} {l : List α} (h : ∀ i, i < l.length → p l[i]!) : ∀ x, x ∈ l → p x := fun x hx => by
  obtain ⟨i, hi, e⟩ := List.getElem_of_mem hx
  have := h i hi
  rwa [getElem!_pos l i hi, e] at this

set_option maxRecDepth 100000 in
/-- an address at which elements lie is a plain one -/
theorem dplain_addr {a : Addr} {k : Nat} {cs : List Value} (hk : 0 < k) (h : w.cells? base (a.add (0 * k)) k = some cs) : a = ⟨a.block, a.off, none⟩ := by
  obtain ⟨_, hlen, hc⟩ := World.cells?_some h
  have h0 := hc 0 hk
  obtain ⟨b, off, spot⟩ := a
  match cs, hlen with
  | c :: _, _ =>
    have hspot : spot = none := by
      have h0' : w.cell? ((Addr.add ⟨b, off, spot⟩ (0 * k)).add 0) = some c := by simpa using h0
      simpa [Addr.add] using World.cell?_spot h0'
    rw [hspot]
  | [], h => simp at h; omega

set_option maxRecDepth 100000 in
theorem dcells_plain {b off n : Nat} {cs : List Value} (h : w.cells? base ⟨b, off, none⟩ n = some cs) : cs.length = n ∧ ∀ i, i < n → w.cell? ⟨b, off + i, none⟩ = cs[i]? := by
  obtain ⟨_, hlen, hc⟩ := World.cells?_some h
  exact ⟨hlen, fun i hi => by rw [← add_plain]; exact hc i hi⟩

set_option maxRecDepth 100000 in
theorem openByts {fuel : Nat} {cs : List Value} {x : DataW H × List MemPlace} (h : DataW.trod enc Try.prog w base spare held fuel 28 cs = some x) :
    ∃ (a : Option Addr) (cap : Nat) (bs : List Nat), cs = [.slice a bs.length cap] ∧ BOk bs ∧ BytesAt w a bs := by
  rcases open_slice Try.underlying28 h with ⟨rfl, _⟩ | ⟨a, len, cap, m, n, D, Pl, rfl, hb, hl, hm, hmm, _, hx⟩
  · exact ⟨none, 0, [], rfl, ⟨Nat.zero_le _, fun v hv => (by cases hv)⟩, fun i hi => absurd hi (Nat.not_lt_zero _)⟩
  · rw [dcellsU8] at hx
    have hle : len ≤ m := by rw [hmm]; split <;> omega
    obtain ⟨bs, hvl, hvs⟩ := dlist_of (α := Nat) (n := len) (p := fun i v => v < 256 ∧ w.cells? base (a.add (i * 1)) 1 = some [.int .u8 (v : Int)]) (fun i hi => by
      obtain ⟨cs', h1, h2⟩ := hx i (by omega)
      obtain ⟨z, e, _, hw⟩ := DataW.trod_int Try.underlying5 h2
      have hz := dbyte_of_wf hw
      refine ⟨z.toNat, by omega, ?_⟩
      rw [h1, e, Int.toNat_of_nonneg hz.1])
    subst hvl
    refine ⟨some a, cap, bs, rfl, ⟨by omega, dall_of_at fun i hi => (hvs i hi).1⟩, fun i hi => ?_⟩
    have hp := dplain_addr (by decide) (hvs 0 (by omega)).2
    have h1 := (hvs i hi).2
    rw [hp, add_plain] at h1
    obtain ⟨_, h2⟩ := dcells_plain h1
    have h3 := h2 0 (by decide)
    simp only [Nat.add_zero, Nat.mul_one] at h3
    exact ⟨a.block, a.off, by rw [← hp], h3⟩

set_option maxRecDepth 100000 in
theorem openBlks {fuel : Nat} {cs : List Value} {x : DataW H × List MemPlace} (h : DataW.trod enc Try.prog w base spare held fuel 47 cs = some x) :
    ∃ (a : Option Addr) (cap : Nat) (ls : List (List Nat)), cs = [.slice a ls.length cap] ∧ ls.length ≤ maxLen ∧ (∀ b, b ∈ ls → BOk b) ∧ BlksAt w a ls := by
  rcases open_slice Try.underlying47 h with ⟨rfl, _⟩ | ⟨a, len, cap, m, n, D, Pl, rfl, hb, hl, hm, hmm, _, hx⟩
  · exact ⟨none, 0, [], rfl, Nat.zero_le _, fun v hv => (by cases hv), fun i hi => absurd hi (Nat.not_lt_zero _)⟩
  · rw [dcellsBytes] at hx
    have hle : len ≤ m := by rw [hmm]; split <;> omega
    obtain ⟨ls, hvl, hvs⟩ := dlist_of (α := List Nat) (n := len) (p := fun i b => BOk b ∧ ∃ a' cap', w.cells? base (a.add (i * 1)) 1 = some [.slice a' b.length cap'] ∧ BytesAt w a' b) (fun i hi => by
      obtain ⟨cs', h1, h2⟩ := hx i (by omega)
      obtain ⟨a', cap', b, e, hok, hva⟩ := openByts h2
      exact ⟨b, hok, a', cap', by rw [h1, e], hva⟩)
    subst hvl
    refine ⟨some a, cap, ls, rfl, by omega, dall_of_at fun i hi => (hvs i hi).1, fun i hi => ?_⟩
    obtain ⟨_, _, _, hp0, _⟩ := hvs 0 (by omega)
    have hp := dplain_addr (by decide) hp0
    obtain ⟨_, a', cap', h1, hva⟩ := hvs i hi
    rw [hp, add_plain] at h1
    obtain ⟨_, h2⟩ := dcells_plain h1
    have h3 := h2 0 (by decide)
    simp only [Nat.add_zero, Nat.mul_one] at h3
    exact ⟨a.block, a.off, a', cap', by rw [← hp], h3, hva⟩

set_option maxRecDepth 100000 in
theorem openWrite {fuel : Nat} {cs : List Value} {x : DataW H × List MemPlace} (h : DataW.trod enc Try.prog w base spare held fuel 187 cs = some x) :
    ∃ (n : DW) (a : Option Addr) (cap : Nat), I64 n.block ∧ BOk n.bytes ∧ cs = [.int .i64 n.block, .slice a n.bytes.length cap] ∧ BytesAt w a n.bytes := by
  obtain ⟨xs, n, _, rfl, hl, hlen, hf⟩ := DataW.trod_struct Try.underlying187 h
  rw [dcellsWrite] at hl
  match xs, hlen, cs, hl with
  | [y0, y1], _, [c0, c1], _ =>
    have h0 := hf 0 _ rfl
    have h1 := hf 1 _ rfl
    simp [dcellsInt, dcellsBytes] at h0 h1
    obtain ⟨k, e0, rfl, w0⟩ := DataW.trod_int Try.underlying3 h0
    obtain ⟨a, cap, vs, e1, hok1, ha1⟩ := openByts h1
    simp at e0 e1
    subst e0 e1
    exact ⟨⟨k, vs⟩, a, cap, di64_of_wf w0, hok1, rfl, ha1⟩

set_option maxRecDepth 100000 in
theorem openWrites {fuel : Nat} {cs : List Value} {x : DataW H × List MemPlace} (h : DataW.trod enc Try.prog w base spare held fuel 55 cs = some x) :
    ∃ (a : Option Addr) (cap : Nat) (ls : List DW), cs = [.slice a ls.length cap] ∧ ls.length ≤ maxLen ∧ (∀ b, b ∈ ls → I64 b.block ∧ BOk b.bytes) ∧ WrsAt w a ls := by
  rcases open_slice Try.underlying55 h with ⟨rfl, _⟩ | ⟨a, len, cap, m, n, D, Pl, rfl, hb, hl, hm, hmm, _, hx⟩
  · exact ⟨none, 0, [], rfl, Nat.zero_le _, fun v hv => (by cases hv), fun i hi => absurd hi (Nat.not_lt_zero _)⟩
  · rw [dcellsWrite] at hx
    have hle : len ≤ m := by rw [hmm]; split <;> omega
    obtain ⟨ls, hvl, hvs⟩ := dlist_of (α := DW) (n := len) (p := fun i b => (I64 b.block ∧ BOk b.bytes) ∧ ∃ a' cap', w.cells? base (a.add (i * 2)) 2 = some [.int .i64 b.block, .slice a' b.bytes.length cap'] ∧ BytesAt w a' b.bytes) (fun i hi => by
      obtain ⟨cs', h1, h2⟩ := hx i (by omega)
      obtain ⟨b, a', cap', hi1, hok, e, hva⟩ := openWrite h2
      exact ⟨b, ⟨hi1, hok⟩, a', cap', by rw [h1, e], hva⟩)
    subst hvl
    refine ⟨some a, cap, ls, rfl, by omega, dall_of_at fun i hi => (hvs i hi).1, fun i hi => ?_⟩
    obtain ⟨_, _, _, hp0, _⟩ := hvs 0 (by omega)
    have hp := dplain_addr (by decide) hp0
    obtain ⟨_, a', cap', h1, hva⟩ := hvs i hi
    rw [hp, add_plain] at h1
    obtain ⟨_, h2⟩ := dcells_plain h1
    exact ⟨a.block, a.off, a', cap', by rw [← hp], h2 0 (by decide), h2 1 (by decide), hva⟩

set_option maxRecDepth 100000 in
theorem openDisk {v : Value} {d : DataW H} {ps : List MemPlace} {r : Reach} {bs : Nat} (hv : Value.okWide Try.prog w r bs 57 v) (h : DataW.Trod enc Try.prog w base spare held 57 v d ps) :
    ∃ (g : DD) (l : DL), g.Ok ∧ v = g.val l ∧ DAt w l g := by
  unfold Value.okWide at hv
  rw [Try.underlying57] at hv
  obtain ⟨cs, rfl, hsz, _⟩ := hv
  obtain ⟨fuel, h⟩ := h
  obtain ⟨xs, n, _, _, hl, hlen, hf⟩ := DataW.trod_struct Try.underlying57 h
  rw [dcellsDisk] at hsz
  obtain ⟨l⟩ := cs
  match xs, hlen, l, hsz with
  | [y0, y1], _, [c0, c1], _ =>
    have h0 := hf 0 _ rfl
    have h1 := hf 1 _ rfl
    simp [dcellsBlks, dcellsWrites, Value.cells] at h0 h1
    obtain ⟨a, cap, ls, e0, hl0, hb0, ha0⟩ := openBlks h0
    obtain ⟨a', cap', ws, e1, hl1, hw1, ha1⟩ := openWrites h1
    simp at e0 e1
    subst e0 e1
    exact ⟨⟨ls, ws⟩, ⟨a, cap, a', cap'⟩, ⟨hl0, hb0, hl1, fun x hx => (hw1 x hx).1, fun x hx => (hw1 x hx).2⟩, rfl, ha0, ha1⟩

end
end Go.Proofs.Ythjddpkegooobab
