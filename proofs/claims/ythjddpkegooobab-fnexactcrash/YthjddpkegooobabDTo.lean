/-
  DTO: the laws' copies of disks. Own work.
-/
import Derived.Test.YthjddpkegooobabBytesA
import Derived.Test.YthjddpkegooobabDPlain
import Derived.Test.YthjddpkegooobabDMarkS
import Derived.Deep.OwnRows
namespace Go.Proofs.Ythjddpkegooobab
open Go.RowKit


/-- lists of bytes in a row of their own, the bytes in rows behind it -/
def BlksIn (w : World) (N : Nat) (f : Nat → Value) (bs : Nat → Nat) (ls : List (List Nat)) (k : Nat) : Prop :=
  ∀ i, i < k → f i = .slice (some ⟨bs i, 0, none⟩) ls[i]!.length ls[i]!.length ∧ BRow w (bs i) ls[i]!.length ls[i]! ∧ N < bs i ∧ ∀ j, j < i → bs j < bs i
def OwnBlks (w : World) (N : Nat) (bs : Nat → Nat) (ls : List (List Nat)) : Prop := ∃ f, w.rowIs N 28 ls.length f ∧ BlksIn w N f bs ls ls.length

theorem OwnBlks.below {w w' : World} {N : Nat} {bs : Nat → Nat} {ls : List (List Nat)} (h : OwnBlks w N bs ls) (hb : Below w.heap.size w w') : OwnBlks w' N bs ls := by
  obtain ⟨f, hr, hn⟩ := h
  refine ⟨f, hr.of_block (hb.block _ hr.lt), fun i hi => ?_⟩
  obtain ⟨h0, h1, h2⟩ := hn i hi
  exact ⟨h0, h1.of_block (hb.block _ h1.lt), h2⟩
theorem OwnBlks.set {w : World} {N : Nat} {bs : Nat → Nat} {ls : List (List Nat)} (h : OwnBlks w N bs ls) {p : Addr} (hp : p.block < N) (u : Value) : OwnBlks (w.setCell p u) N bs ls := by
  obtain ⟨f, hr, hn⟩ := h
  refine ⟨f, hr.setOther (by omega) u, fun i hi => ?_⟩
  obtain ⟨h0, h1, h2, h3⟩ := hn i hi
  exact ⟨h0, h1.of_block (Deep.blk_setCell_other _ _ _ _ (by omega)), h2, h3⟩
theorem OwnBlks.lt {w : World} {N : Nat} {bs : Nat → Nat} {ls : List (List Nat)} (h : OwnBlks w N bs ls) : N < w.heap.size := by obtain ⟨f, hr, _⟩ := h; exact hr.lt
theorem OwnBlks.at_ {w : World} {N : Nat} {bs : Nat → Nat} {ls : List (List Nat)} (h : OwnBlks w N bs ls) : BlksAt w (some ⟨N, 0, none⟩) ls := fun i hi => by
  obtain ⟨f, hr, hn⟩ := h
  obtain ⟨h0, h1, _⟩ := hn i hi
  refine ⟨N, 0, some ⟨bs i, 0, none⟩, ls[i]!.length, rfl, ?_, brow_bytes h1⟩
  rw [← h0, Nat.zero_add]; exact hr.cell hi
theorem BlksIn.step {w w' : World} {N : Nat} {f : Nat → Value} {bs : Nat → Nat} {ls : List (List Nat)} {k b : Nat} {l : List Nat} (h : BlksIn w N f bs ls k) (hv : Hid (l = ls[k]!)) (hb : Below w.heap.size w w') (hN : N < w.heap.size)
    (hbb : w.heap.size ≤ b) (hown : BRow w' b l.length l) (u : Value) (o : Nat) :
    BlksIn (w'.setCell ⟨N, o, none⟩ u) N (fun j => if j = k then .slice (some ⟨b, 0, none⟩) l.length l.length else f j) (fun i => if i = k then b else bs i) ls (k + 1) := fun i hi => by
  have e := hv.out
  by_cases hk : i = k
  · subst hk; subst e
    refine ⟨by simp, ?_, by simp; omega, fun j hj => ?_⟩
    · simp only [if_pos]
      exact hown.of_block (Deep.blk_setCell_other _ _ _ _ (by simp; omega))
    · simp only [if_pos, if_neg (show j ≠ i by omega)]
      have := (h j hj).2.1.lt
      omega
  · obtain ⟨h0, h1, h2, h3⟩ := h i (by omega)
    refine ⟨?_, ?_, ?_, fun j hj => ?_⟩ <;> simp only [if_neg hk]
    · exact h0
    · exact (h1.of_block (hb.block _ h1.lt)).of_block (Deep.blk_setCell_other _ _ _ _ (by simp; omega))
    · exact h2
    · rw [if_neg (show j ≠ k by omega)]; exact h3 j hj

theorem toByteSS_any (a : Option Addr) (cap : Nat) (ns : List (List Nat)) (w : World) (hl : ns.length ≤ 1048576) (hv : ∀ n, n ∈ ns → n.length ≤ 1048576) (ha : BlksAt w a ns) :
    Calls Try.prog 99 #[.slice a ns.length cap] w fun e w' => ∃ b bs, e = .returned (.slice (some ⟨b, 0, none⟩) ns.length ns.length) ∧ w.heap.size ≤ b ∧ OwnBlks w' b bs ns ∧ Below w.heap.size w w' := by
  obtain ⟨i0, hi, hz0, hz1, hz2⟩ := info_parts info_bytes
  have hmk : ∀ u : World, (Instr.makeSlice 47 (.int .i64 (ns.length : Int)) (.int .i64 (ns.length : Int))).run Try.prog u =
      .ok (.slice (some ⟨u.heap.size, 0, none⟩) ns.length ns.length) (u.alloc (.cells (madeCells #[.slice none 0 0] ns.length) 28)) := fun u => by
    have h := run_make (P := Try.prog) u 47 28 i0 _ Try.underlying47 hi hz0 .i64 .i64 (ns.length : Int) (ns.length : Int) (by omega) (Int.le_refl _) (by rw [hz2]; omega) (by omega)
    simpa [hz1, Value.cells] using h
  go_enter Try.func99, Try.ntmps99
  go_wp2
  go_loopw [4] (fun i wr => ∃ (k : Nat) (f : Nat → Value) (bs : Nat → Nat), k ≤ ns.length ∧ i = .int .i64 k ∧ wr.rowIs w.heap.size 28 ns.length f ∧ BlksIn wr w.heap.size f bs ns k ∧ Below w.heap.size w wr) (fun i _ => ns.length - (intOf i).toNat)
  case atStart => exact ⟨0, _, fun _ => 0, Nat.zero_le _, rfl, rowIs_made_any _ _ _ _, fun i hi => absurd hi (Nat.not_lt_zero _), (Below.refl _ _).alloc (Nat.le_refl _) _⟩
  case round =>
    obtain ⟨k, f, bs, hk, rfl, hrow, hin, hb⟩ := hrel
    by_cases hlt : k < ns.length
    · obtain ⟨l, b, off, a', cap', hvk, hvm, rfl, c0, hva⟩ := (ha.grow hb).get hlt
      go_wp2_with (go_at_call 25; refine (toByteS_any a' l cap' _ (hv l hvm) hva).mono ?_; rintro e w' ⟨b', rfl, hbb, hown, hb'⟩; have hrow' := hrow.of_block (hb'.block _ hrow.lt); have d0 := hrow'.cell (i := k) (by omega); have f0 := hrow'.frozen)
      go_roundw
      case rel => exact ⟨k + 1, _, _, by omega, by go_num, hrow'.set _ _, hin.step hvk hb' hrow.lt hbb hown _ _, (hb.trans (hb'.mono hb.size)).setCell (Nat.le_refl _) _⟩
      case measure => simp [intOf]; omega
    · go_wp2
      go_ret
      have e : k = ns.length := by omega
      subst e
      exact ⟨_, bs, rfl, Nat.le_refl _, ⟨_, hrow, hin⟩, hb⟩

set_option maxRecDepth 100000 in
theorem toWrite_any (x : DW) (a : Option Addr) (cap : Nat) (w : World) (hl : x.bytes.length ≤ 1048576) (ha : BytesAt w a x.bytes) :
    Calls Try.prog 154 #[x.val a cap] w fun e w' => ∃ b, e = .returned (x.val (some ⟨b, 0, none⟩) x.bytes.length) ∧ w.heap.size ≤ b ∧ BRow w' b x.bytes.length x.bytes ∧ Below w.heap.size w w' := by
  go_enter Try.func154, Try.ntmps154
  go_wp2_with (go_at_call 25; refine (toByteS_any a x.bytes cap _ hl (ha.grow (gal (gal (gal (gre _) _) _) _))).mono ?_; rintro e w' ⟨b, rfl, hbb, hown, hb'⟩; obtain ⟨hc, hf⟩ := bcell hb')
  refine bodyPost_ret (v := x.val (some ⟨b, 0, none⟩) x.bytes.length) (by simp [results, Try.results154, go_sem, hc]) rfl ⟨b, rfl, ?_, ?_, ?_⟩
  · simp at hbb; omega
  · simp at hbb
    refine ((hown.of_block (Deep.blk_setCell_other _ _ _ _ (by simp; omega))).of_block (Deep.blk_setCell_other _ _ _ _ (by simp; omega))).of_block (Deep.blk_setCell_other _ _ _ _ (by simp; omega))
  · exact gse (gse (gse (gca (gal (gal (gal (gre _) _) _) _) hb') (by simp; omega) _) (by simp) _) (by simp) _

/-- writes in a row of their own, the bytes in rows behind it -/
def WrsIn (w : World) (N : Nat) (f : Nat → Value) (bs : Nat → Nat) (ns : List DW) (k : Nat) : Prop :=
  ∀ i, i < k → f (i * 2) = .int .i64 ns[i]!.block ∧ f (i * 2 + 1) = .slice (some ⟨bs i, 0, none⟩) ns[i]!.bytes.length ns[i]!.bytes.length ∧ BRow w (bs i) ns[i]!.bytes.length ns[i]!.bytes ∧ N < bs i ∧ ∀ j, j < i → bs j < bs i
def OwnWrs (w : World) (N : Nat) (bs : Nat → Nat) (ns : List DW) : Prop := ∃ f, w.rowIs N 133 (ns.length * 2) f ∧ WrsIn w N f bs ns ns.length

theorem OwnWrs.at_ {w : World} {N : Nat} {bs : Nat → Nat} {ns : List DW} (h : OwnWrs w N bs ns) : WrsAt w (some ⟨N, 0, none⟩) ns := fun i hi => by
  obtain ⟨f, hr, hn⟩ := h
  obtain ⟨h0, h1, h2, _⟩ := hn i hi
  refine ⟨N, 0, some ⟨bs i, 0, none⟩, ns[i]!.bytes.length, rfl, ?_, ?_, brow_bytes h2⟩
  · rw [← h0, Nat.zero_add]; exact hr.cell (by omega)
  · rw [← h1, Nat.zero_add]; exact hr.cell (by omega)
theorem OwnWrs.below {w w' : World} {N : Nat} {bs : Nat → Nat} {ns : List DW} (h : OwnWrs w N bs ns) (hb : Below w.heap.size w w') : OwnWrs w' N bs ns := by
  obtain ⟨f, hr, hn⟩ := h
  refine ⟨f, hr.of_block (hb.block _ hr.lt), fun i hi => ?_⟩
  obtain ⟨h0, h1, h2, h3⟩ := hn i hi
  exact ⟨h0, h1, h2.of_block (hb.block _ h2.lt), h3⟩
theorem OwnWrs.set {w : World} {N : Nat} {bs : Nat → Nat} {ns : List DW} (h : OwnWrs w N bs ns) {p : Addr} (hp : p.block < N) (u : Value) : OwnWrs (w.setCell p u) N bs ns := by
  obtain ⟨f, hr, hn⟩ := h
  refine ⟨f, hr.setOther (by omega) u, fun i hi => ?_⟩
  obtain ⟨h0, h1, h2, h3, h4⟩ := hn i hi
  exact ⟨h0, h1, h2.of_block (Deep.blk_setCell_other _ _ _ _ (by omega)), h3, h4⟩
theorem OwnWrs.lt {w : World} {N : Nat} {bs : Nat → Nat} {ls : List DW} (h : OwnWrs w N bs ls) : N < w.heap.size := by obtain ⟨f, hr, _⟩ := h; exact hr.lt
theorem WrsIn.step {w w' : World} {N : Nat} {f : Nat → Value} {bs : Nat → Nat} {ns : List DW} {k b : Nat} {n : DW} (h : WrsIn w N f bs ns k) (hv : Hid (n = ns[k]!)) (hb : Below w.heap.size w w') (hN : N < w.heap.size)
    (hbb : w.heap.size ≤ b) (hown : BRow w' b n.bytes.length n.bytes) (u u' : Value) (o o' : Nat) :
    WrsIn ((w'.setCell ⟨N, o, none⟩ u).setCell ⟨N, o', none⟩ u') N
      (fun j => if j = k * 2 + 1 then .slice (some ⟨b, 0, none⟩) n.bytes.length n.bytes.length else if j = k * 2 then .int .i64 n.block else f j) (fun i => if i = k then b else bs i) ns (k + 1) := fun i hi => by
  have e := hv.out
  by_cases hk : i = k
  · subst hk; subst e
    refine ⟨by simp, by simp, ?_, by simp; omega, fun j hj => ?_⟩
    · simp only [if_pos]
      exact (hown.of_block (Deep.blk_setCell_other _ _ _ _ (by simp; omega))).of_block (Deep.blk_setCell_other _ _ _ _ (by simp; omega))
    · simp only [if_pos, if_neg (show j ≠ i by omega)]
      have := (h j hj).2.2.1.lt
      omega
  · obtain ⟨h0, h1, h2, h3, h4⟩ := h i (by omega)
    refine ⟨?_, ?_, ?_, ?_, fun j hj => ?_⟩ <;> simp only [if_neg hk]
    · rw [if_neg (by omega), if_neg (by omega)]; exact h0
    · rw [if_neg (by omega), if_neg (by omega)]; exact h1
    · exact ((h2.of_block (hb.block _ h2.lt)).of_block (Deep.blk_setCell_other _ _ _ _ (by simp; omega))).of_block (Deep.blk_setCell_other _ _ _ _ (by simp; omega))
    · exact h3
    · rw [if_neg (show j ≠ k by omega)]; exact h4 j hj

set_option maxRecDepth 100000 in
theorem toWriteS_any (a : Option Addr) (cap : Nat) (ns : List DW) (w : World) (hl : ns.length ≤ 1048576) (hv : ∀ n, n ∈ ns → n.bytes.length ≤ 1048576) (ha : WrsAt w a ns) :
    Calls Try.prog 100 #[.slice a ns.length cap] w fun e w' => ∃ b bs, e = .returned (.slice (some ⟨b, 0, none⟩) ns.length ns.length) ∧ w.heap.size ≤ b ∧ OwnWrs w' b bs ns ∧ Below w.heap.size w w' := by
  obtain ⟨i0, hi, hz0, hz1, hz2⟩ := info_parts info_implWrite
  have hmk : ∀ u : World, (Instr.makeSlice 48 (.int .i64 (ns.length : Int)) (.int .i64 (ns.length : Int))).run Try.prog u =
      .ok (.slice (some ⟨u.heap.size, 0, none⟩) ns.length ns.length) (u.alloc (.cells (madeCells #[.int .i64 0, .slice none 0 0] (ns.length * 2)) 133)) := fun u => by
    have h := run_make (P := Try.prog) u 48 133 i0 _ Try.underlying48 hi hz0 .i64 .i64 (ns.length : Int) (ns.length : Int) (by omega) (Int.le_refl _) (by rw [hz2]; omega) (by omega)
    simpa [hz1, Value.cells] using h
  go_enter Try.func100, Try.ntmps100
  go_wp2
  go_loopw [4] (fun i wr => ∃ (k : Nat) (f : Nat → Value) (bs : Nat → Nat), k ≤ ns.length ∧ i = .int .i64 k ∧ wr.rowIs w.heap.size 133 (ns.length * 2) f ∧ WrsIn wr w.heap.size f bs ns k ∧ Below w.heap.size w wr) (fun i _ => ns.length - (intOf i).toNat)
  case atStart => exact ⟨0, _, fun _ => 0, Nat.zero_le _, rfl, rowIs_made_any _ _ _ _, fun i hi => absurd hi (Nat.not_lt_zero _), (Below.refl _ _).alloc (Nat.le_refl _) _⟩
  case round =>
    obtain ⟨k, f, bs, hk, rfl, hrow, hin, hb⟩ := hrel
    by_cases hlt : k < ns.length
    · obtain ⟨n, b, off, a', cap', hvk, hvm, rfl, c0, c1, hva⟩ := (ha.grow hb).get hlt
      go_wp2_with (go_at_call 154; refine (toWrite_any n a' cap' _ (hv n hvm) hva).mono ?_; rintro e w' ⟨b', rfl, hbb, hown, hb'⟩; have hrow' := hrow.of_block (hb'.block _ hrow.lt); have d0 := hrow'.cell (i := k * 2) (by omega); have d1 := hrow'.cell (i := k * 2 + 1) (by omega); have f0 := hrow'.frozen)
      go_roundw
      case rel => exact ⟨k + 1, _, _, by omega, by go_num, (hrow'.set _ _).set _ _, hin.step hvk hb' hrow.lt hbb hown _ _ _ _, ((hb.trans (hb'.mono hb.size)).setCell (Nat.le_refl _) _).setCell (Nat.le_refl _) _⟩
      case measure => simp [intOf]; omega
    · go_wp2
      go_ret
      have e : k = ns.length := by omega
      subst e
      exact ⟨_, bs, rfl, Nat.le_refl _, ⟨_, hrow, hin⟩, hb⟩

/-- a copy in memory of its own -/
structure OwnD (w : World) (l : DL) (lo : Nat) (bs xs : Nat → Nat) (d : DD) : Prop where
  blk : ∃ N, l.ba = some ⟨N, 0, none⟩ ∧ lo ≤ N ∧ OwnBlks w N bs d.blocks
  wrt : ∃ M, l.wa = some ⟨M, 0, none⟩ ∧ lo ≤ M ∧ OwnWrs w M xs d.waiting ∧ ∀ i, i < d.blocks.length → bs i < M
theorem OwnD.below {w w' : World} {l : DL} {lo : Nat} {bs xs : Nat → Nat} {d : DD} (h : OwnD w l lo bs xs d) (hb : Below w.heap.size w w') : OwnD w' l lo bs xs d := by
  obtain ⟨⟨N, h1, h2, h3⟩, M, h4, h5, h6, h7⟩ := h
  exact ⟨⟨N, h1, h2, h3.below hb⟩, M, h4, h5, h6.below hb, h7⟩
theorem OwnD.at_ {w : World} {l : DL} {lo : Nat} {bs xs : Nat → Nat} {d : DD} (h : OwnD w l lo bs xs d) : DAt w l d := by
  obtain ⟨⟨N, h1, h2, h3⟩, M, h4, h5, h6, h7⟩ := h
  exact ⟨by rw [h1]; exact h3.at_, by rw [h4]; exact h6.at_⟩

set_option maxRecDepth 100000 in
theorem toDisk_any (d : DD) (l : DL) (w : World) (hs : d.Small) (ha : DAt w l d) :
    Calls Try.prog 37 #[d.val l] w fun e w' => ∃ l' bs xs, e = .returned (d.val l') ∧ OwnD w' l' w.heap.size bs xs d ∧ Below w.heap.size w w' := by
  go_enter Try.func37, Try.ntmps37
  go_wp2_with (go_at_call 99; refine (toByteSS_any l.ba l.bc d.blocks _ hs.bl hs.bb (ha.b.grow (gal (gal (gal (gre _) _) _) _))).mono ?_; rintro e w' ⟨b1, bs1, rfl, hbb1, hown1, hb'⟩; obtain ⟨hc, hf⟩ := bcell hb')
  have hz : w.heap.size + 1 + 1 < w'.heap.size := by have := hb'.size; simp at this; omega
  have hz1 : w.heap.size + 1 < w'.heap.size := by omega
  have hz0 : w.heap.size < w'.heap.size := by omega
  have hB : Below w.heap.size w w' := gca (gal (gal (gal (gre _) _) _) _) hb'
  have hbb' : w.heap.size + 3 ≤ b1 := by simpa using hbb1
  clear hbb1
  refine (toWriteS_any l.wa l.wc d.waiting _ hs.wl hs.wb (ha.w.grow (gse hB (by simp; omega) _))).mono ?_
  rintro e w'' ⟨b2, bs2, rfl, hbb2, hown2, hb''⟩
  obtain ⟨hc2, hf2⟩ := bcell hb''
  have hB2 : Below w.heap.size w w'' := gca (gse hB (by simp; omega) _) hb''
  have hbb3 : w'.heap.size ≤ b2 := by simpa [World.setCell] using hbb2
  clear hbb2
  have hown1' := (hown1.set (p := ⟨w.heap.size + 1 + 1, 0, none⟩) (by simp; omega) (.slice (some ⟨b1, 0, none⟩) d.blocks.length d.blocks.length)).below hb''
  go_wp2
  refine bodyPost_ret (v := d.val ⟨some ⟨b1, 0, none⟩, d.blocks.length, some ⟨b2, 0, none⟩, d.waiting.length⟩) (by simp [results, Try.results37, go_sem, hc, hc2, hz1]) rfl ⟨⟨some ⟨b1, 0, none⟩, d.blocks.length, some ⟨b2, 0, none⟩, d.waiting.length⟩, bs1, bs2, rfl, ⟨⟨b1, rfl, by omega, ?_⟩, b2, rfl, by omega, ?_, fun i hi => ?_⟩, ?_⟩
  · exact ((hown1'.set (by simp; omega) _).set (by simp; omega) _).set (by simp; omega) _
  · exact ((hown2.set (by simp; omega) _).set (by simp; omega) _).set (by simp; omega) _
  · obtain ⟨f, _, hn⟩ := hown1
    have := (hn i hi).2.1.lt
    omega
  · exact gse (gse (gse hB2 (by simp; omega) _) (by simp) _) (by simp) _

end Go.Proofs.Ythjddpkegooobab
