import Derived.Deep.OwnRows
import Derived.Deep.RegionHeld3
import Derived.Deep.QuietTactic
import Derived.BigQuiet
import Derived.Test.YthjddpkegooobabPartNwJ

/-
  DTO: the laws' copies of disks. Own work.
-/
namespace Go.Proofs.Ythjddpkegooobab
open Go.RowKit


/-- lists of bytes in a row of their own, the bytes in rows behind it -/
def BlksIn (w : World) (N : Nat) (f : Nat → Value) (bs : Nat → Nat) (ls : List (List Nat)) (k : Nat) : Prop :=
  ∀ i, i < k → f i = .slice (some ⟨bs i, 0, none⟩) ls[i]!.length ls[i]!.length ∧ BRow w (bs i) ls[i]!.length ls[i]! ∧ N < bs i ∧ ∀ j, j < i → bs j < bs i
def OwnBlks (w : World) (N : Nat) (bs : Nat → Nat) (ls : List (List Nat)) : Prop := ∃ f, w.rowIs N 28 ls.length f ∧ BlksIn w N f bs ls ls.length

theorem OwnBlks.below {w w' : World} {N : Nat} {bs : Nat → Nat} {ls : List (List Nat)} (h : OwnBlks w N bs ls) (hb : Below w.heap.size w w') : OwnBlks w' N bs ls := by
  obtain ⟨f, hr, hn⟩ := h
  refine ⟨f, hr.of_block (hb.block _ hr.lt), fun i hi => ?_⟩
  obtain ⟨h0, h1, h2⟩ := hn i hi
  exact ⟨h0, h1.of_block (hb.block _ h1.lt), h2⟩
theorem OwnBlks.set {w : World} {N : Nat} {bs : Nat → Nat} {ls : List (List Nat)} (h : OwnBlks w N bs ls) {p : Addr} (hp : p.block < N) (u : Value) : OwnBlks (w.setCell p u) N bs ls := by
  obtain ⟨f, hr, hn⟩ := h
  refine ⟨f, hr.setOther (by omega) u, fun i hi => ?_⟩
  obtain ⟨h0, h1, h2, h3⟩ := hn i hi
  exact ⟨h0, h1.of_block (Deep.blk_setCell_other _ _ _ _ (by omega)), h2, h3⟩
theorem OwnBlks.lt {w : World} {N : Nat} {bs : Nat → Nat} {ls : List (List Nat)} (h : OwnBlks w N bs ls) : N < w.heap.size := by obtain ⟨f, hr, _⟩ := h; exact hr.lt
theorem OwnBlks.at_ {w : World} {N : Nat} {bs : Nat → Nat} {ls : List (List Nat)} (h : OwnBlks w N bs ls) : BlksAt w (some ⟨N, 0, none⟩) ls := fun i hi => by
  obtain ⟨f, hr, hn⟩ := h
  obtain ⟨h0, h1, _⟩ := hn i hi
  refine ⟨N, 0, some ⟨bs i, 0, none⟩, ls[i]!.length, rfl, ?_, brow_bytes h1⟩
  rw [← h0, Nat.zero_add]; exact hr.cell hi
theorem BlksIn.step {w w' : World} {N : Nat} {f : Nat → Value} {bs : Nat → Nat} {ls : List (List Nat)} {k b : Nat} {l : List Nat} (h : BlksIn w N f bs ls k) (hv : Hid (l = ls[k]!)) (hb : Below w.heap.size w w') (hN : N < w.heap.size)
    (hbb : w.heap.size ≤ b) (hown : BRow w' b l.length l) (u : Value) (o : Nat) :
    BlksIn (w'.setCell ⟨N, o, none⟩ u) N (fun j => if j = k then .slice (some ⟨b, 0, none⟩) l.length l.length else f j) (fun i => if i = k then b else bs i) ls (k + 1) := fun i hi => by
  have e := hv.out
  by_cases hk : i = k
  · subst hk; subst e
    refine ⟨by simp, ?_, by simp; omega, fun j hj => ?_⟩
    · simp only [if_pos]
      exact hown.of_block (Deep.blk_setCell_other _ _ _ _ (by simp; omega))
    · simp only [if_pos, if_neg (show j ≠ i by omega)]
      have := (h j hj).2.1.lt
      omega
  · obtain ⟨h0, h1, h2, h3⟩ := h i (by omega)
    refine ⟨?_, ?_, ?_, fun j hj => ?_⟩ <;> simp only [if_neg hk]
    · exact h0
    · exact (h1.of_block (hb.block _ h1.lt)).of_block (Deep.blk_setCell_other _ _ _ _ (by simp; omega))
    · exact h2
    · rw [if_neg (show j ≠ k by omega)]; exact h3 j hj

theorem toByteSS_any (a : Option Addr) (cap : Nat) (ns : List (List Nat)) (w : World) (hl : ns.length ≤ 1048576) (hv : ∀ n, n ∈ ns → n.length ≤ 1048576) (ha : BlksAt w a ns) :
    Calls Try.prog 99 #[.slice a ns.length cap] w fun e w' => ∃ b bs, e = .returned (.slice (some ⟨b, 0, none⟩) ns.length ns.length) ∧ w.heap.size ≤ b ∧ OwnBlks w' b bs ns ∧ Below w.heap.size w w' := by
  obtain ⟨i0, hi, hz0, hz1, hz2⟩ := info_parts info_bytes
  have hmk : ∀ u : World, (Instr.makeSlice 47 (.int .i64 (ns.length : Int)) (.int .i64 (ns.length : Int))).run Try.prog u =
      .ok (.slice (some ⟨u.heap.size, 0, none⟩) ns.length ns.length) (u.alloc (.cells (madeCells #[.slice none 0 0] ns.length) 28)) := fun u => by
    have h := run_make (P := Try.prog) u 47 28 i0 _ Try.underlying47 hi hz0 .i64 .i64 (ns.length : Int) (ns.length : Int) (by omega) (Int.le_refl _) (by rw [hz2]; omega) (by omega)
    simpa [hz1, Value.cells] using h
  go_enter Try.func99, Try.ntmps99
  go_wp2
  go_loopw [4] (fun i wr => ∃ (k : Nat) (f : Nat → Value) (bs : Nat → Nat), k ≤ ns.length ∧ i = .int .i64 k ∧ wr.rowIs w.heap.size 28 ns.length f ∧ BlksIn wr w.heap.size f bs ns k ∧ Below w.heap.size w wr) (fun i _ => ns.length - (intOf i).toNat)
  case atStart => exact ⟨0, _, fun _ => 0, Nat.zero_le _, rfl, rowIs_made_any _ _ _ _, fun i hi => absurd hi (Nat.not_lt_zero _), (Below.refl _ _).alloc (Nat.le_refl _) _⟩
  case round =>
    obtain ⟨k, f, bs, hk, rfl, hrow, hin, hb⟩ := hrel
    by_cases hlt : k < ns.length
    · obtain ⟨l, b, off, a', cap', hvk, hvm, rfl, c0, hva⟩ := (ha.grow hb).get hlt
      go_wp2_with (go_at_call 25; refine (toByteS_any a' l cap' _ (hv l hvm) hva).mono ?_; rintro e w' ⟨b', rfl, hbb, hown, hb'⟩; have hrow' := hrow.of_block (hb'.block _ hrow.lt); have d0 := hrow'.cell (i := k) (by omega); have f0 := hrow'.frozen)
      go_roundw
      case rel => exact ⟨k + 1, _, _, by omega, by go_num, hrow'.set _ _, hin.step hvk hb' hrow.lt hbb hown _ _, (hb.trans (hb'.mono hb.size)).setCell (Nat.le_refl _) _⟩
      case measure => simp [intOf]; omega
    · go_wp2
      go_ret
      have e : k = ns.length := by omega
      subst e
      exact ⟨_, bs, rfl, Nat.le_refl _, ⟨_, hrow, hin⟩, hb⟩

set_option maxRecDepth 100000 in
theorem toWrite_any (x : DW) (a : Option Addr) (cap : Nat) (w : World) (hl : x.bytes.length ≤ 1048576) (ha : BytesAt w a x.bytes) :
    Calls Try.prog 154 #[x.val a cap] w fun e w' => ∃ b, e = .returned (x.val (some ⟨b, 0, none⟩) x.bytes.length) ∧ w.heap.size ≤ b ∧ BRow w' b x.bytes.length x.bytes ∧ Below w.heap.size w w' := by
  go_enter Try.func154, Try.ntmps154
  go_wp2_with (go_at_call 25; refine (toByteS_any a x.bytes cap _ hl (ha.grow (gal (gal (gal (gre _) _) _) _))).mono ?_; rintro e w' ⟨b, rfl, hbb, hown, hb'⟩; obtain ⟨hc, hf⟩ := bcell hb')
  refine bodyPost_ret (v := x.val (some ⟨b, 0, none⟩) x.bytes.length) (by simp [results, Try.results154, go_sem, hc]) rfl ⟨b, rfl, ?_, ?_, ?_⟩
  · simp at hbb; omega
  · simp at hbb
    refine ((hown.of_block (Deep.blk_setCell_other _ _ _ _ (by simp; omega))).of_block (Deep.blk_setCell_other _ _ _ _ (by simp; omega))).of_block (Deep.blk_setCell_other _ _ _ _ (by simp; omega))
  · exact gse (gse (gse (gca (gal (gal (gal (gre _) _) _) _) hb') (by simp; omega) _) (by simp) _) (by simp) _

/-- writes in a row of their own, the bytes in rows behind it -/
def WrsIn (w : World) (N : Nat) (f : Nat → Value) (bs : Nat → Nat) (ns : List DW) (k : Nat) : Prop :=
  ∀ i, i < k → f (i * 2) = .int .i64 ns[i]!.block ∧ f (i * 2 + 1) = .slice (some ⟨bs i, 0, none⟩) ns[i]!.bytes.length ns[i]!.bytes.length ∧ BRow w (bs i) ns[i]!.bytes.length ns[i]!.bytes ∧ N < bs i ∧ ∀ j, j < i → bs j < bs i
def OwnWrs (w : World) (N : Nat) (bs : Nat → Nat) (ns : List DW) : Prop := ∃ f, w.rowIs N 133 (ns.length * 2) f ∧ WrsIn w N f bs ns ns.length

theorem OwnWrs.at_ {w : World} {N : Nat} {bs : Nat → Nat} {ns : List DW} (h : OwnWrs w N bs ns) : WrsAt w (some ⟨N, 0, none⟩) ns := fun i hi => by
  obtain ⟨f, hr, hn⟩ := h
  obtain ⟨h0, h1, h2, _⟩ := hn i hi
  refine ⟨N, 0, some ⟨bs i, 0, none⟩, ns[i]!.bytes.length, rfl, ?_, ?_, brow_bytes h2⟩
  · rw [← h0, Nat.zero_add]; exact hr.cell (by omega)
  · rw [← h1, Nat.zero_add]; exact hr.cell (by omega)
theorem OwnWrs.below {w w' : World} {N : Nat} {bs : Nat → Nat} {ns : List DW} (h : OwnWrs w N bs ns) (hb : Below w.heap.size w w') : OwnWrs w' N bs ns := by
  obtain ⟨f, hr, hn⟩ := h
  refine ⟨f, hr.of_block (hb.block _ hr.lt), fun i hi => ?_⟩
  obtain ⟨h0, h1, h2, h3⟩ := hn i hi
  exact ⟨h0, h1, h2.of_block (hb.block _ h2.lt), h3⟩
theorem OwnWrs.set {w : World} {N : Nat} {bs : Nat → Nat} {ns : List DW} (h : OwnWrs w N bs ns) {p : Addr} (hp : p.block < N) (u : Value) : OwnWrs (w.setCell p u) N bs ns := by
  obtain ⟨f, hr, hn⟩ := h
  refine ⟨f, hr.setOther (by omega) u, fun i hi => ?_⟩
  obtain ⟨h0, h1, h2, h3, h4⟩ := hn i hi
  exact ⟨h0, h1, h2.of_block (Deep.blk_setCell_other _ _ _ _ (by omega)), h3, h4⟩
theorem OwnWrs.lt {w : World} {N : Nat} {bs : Nat → Nat} {ls : List DW} (h : OwnWrs w N bs ls) : N < w.heap.size := by obtain ⟨f, hr, _⟩ := h; exact hr.lt
theorem WrsIn.step {w w' : World} {N : Nat} {f : Nat → Value} {bs : Nat → Nat} {ns : List DW} {k b : Nat} {n : DW} (h : WrsIn w N f bs ns k) (hv : Hid (n = ns[k]!)) (hb : Below w.heap.size w w') (hN : N < w.heap.size)
    (hbb : w.heap.size ≤ b) (hown : BRow w' b n.bytes.length n.bytes) (u u' : Value) (o o' : Nat) :
    WrsIn ((w'.setCell ⟨N, o, none⟩ u).setCell ⟨N, o', none⟩ u') N
      (fun j => if j = k * 2 + 1 then .slice (some ⟨b, 0, none⟩) n.bytes.length n.bytes.length else if j = k * 2 then .int .i64 n.block else f j) (fun i => if i = k then b else bs i) ns (k + 1) := fun i hi => by
  have e := hv.out
  by_cases hk : i = k
  · subst hk; subst e
    refine ⟨by simp, by simp, ?_, by simp; omega, fun j hj => ?_⟩
    · simp only [if_pos]
      exact (hown.of_block (Deep.blk_setCell_other _ _ _ _ (by simp; omega))).of_block (Deep.blk_setCell_other _ _ _ _ (by simp; omega))
    · simp only [if_pos, if_neg (show j ≠ i by omega)]
      have := (h j hj).2.2.1.lt
      omega
  · obtain ⟨h0, h1, h2, h3, h4⟩ := h i (by omega)
    refine ⟨?_, ?_, ?_, ?_, fun j hj => ?_⟩ <;> simp only [if_neg hk]
    · rw [if_neg (by omega), if_neg (by omega)]; exact h0
    · rw [if_neg (by omega), if_neg (by omega)]; exact h1
    · exact ((h2.of_block (hb.block _ h2.lt)).of_block (Deep.blk_setCell_other _ _ _ _ (by simp; omega))).of_block (Deep.blk_setCell_other _ _ _ _ (by simp; omega))
    · exact h3
    · rw [if_neg (show j ≠ k by omega)]; exact h4 j hj

set_option maxRecDepth 100000 in
theorem toWriteS_any (a : Option Addr) (cap : Nat) (ns : List DW) (w : World) (hl : ns.length ≤ 1048576) (hv : ∀ n, n ∈ ns → n.bytes.length ≤ 1048576) (ha : WrsAt w a ns) :
    Calls Try.prog 100 #[.slice a ns.length cap] w fun e w' => ∃ b bs, e = .returned (.slice (some ⟨b, 0, none⟩) ns.length ns.length) ∧ w.heap.size ≤ b ∧ OwnWrs w' b bs ns ∧ Below w.heap.size w w' := by
  obtain ⟨i0, hi, hz0, hz1, hz2⟩ := info_parts info_implWrite
  have hmk : ∀ u : World, (Instr.makeSlice 48 (.int .i64 (ns.length : Int)) (.int .i64 (ns.length : Int))).run Try.prog u =
      .ok (.slice (some ⟨u.heap.size, 0, none⟩) ns.length ns.length) (u.alloc (.cells (madeCells #[.int .i64 0, .slice none 0 0] (ns.length * 2)) 133)) := fun u => by
    have h := run_make (P := Try.prog) u 48 133 i0 _ Try.underlying48 hi hz0 .i64 .i64 (ns.length : Int) (ns.length : Int) (by omega) (Int.le_refl _) (by rw [hz2]; omega) (by omega)
    simpa [hz1, Value.cells] using h
  go_enter Try.func100, Try.ntmps100
  go_wp2
  go_loopw [4] (fun i wr => ∃ (k : Nat) (f : Nat → Value) (bs : Nat → Nat), k ≤ ns.length ∧ i = .int .i64 k ∧ wr.rowIs w.heap.size 133 (ns.length * 2) f ∧ WrsIn wr w.heap.size f bs ns k ∧ Below w.heap.size w wr) (fun i _ => ns.length - (intOf i).toNat)
  case atStart => exact ⟨0, _, fun _ => 0, Nat.zero_le _, rfl, rowIs_made_any _ _ _ _, fun i hi => absurd hi (Nat.not_lt_zero _), (Below.refl _ _).alloc (Nat.le_refl _) _⟩
  case round =>
    obtain ⟨k, f, bs, hk, rfl, hrow, hin, hb⟩ := hrel
    by_cases hlt : k < ns.length
    · obtain ⟨n, b, off, a', cap', hvk, hvm, rfl, c0, c1, hva⟩ := (ha.grow hb).get hlt
      go_wp2_with (go_at_call 154; refine (toWrite_any n a' cap' _ (hv n hvm) hva).mono ?_; rintro e w' ⟨b', rfl, hbb, hown, hb'⟩; have hrow' := hrow.of_block (hb'.block _ hrow.lt); have d0 := hrow'.cell (i := k * 2) (by omega); have d1 := hrow'.cell (i := k * 2 + 1) (by omega); have f0 := hrow'.frozen)
      go_roundw
      case rel => exact ⟨k + 1, _, _, by omega, by go_num, (hrow'.set _ _).set _ _, hin.step hvk hb' hrow.lt hbb hown _ _ _ _, ((hb.trans (hb'.mono hb.size)).setCell (Nat.le_refl _) _).setCell (Nat.le_refl _) _⟩
      case measure => simp [intOf]; omega
    · go_wp2
      go_ret
      have e : k = ns.length := by omega
      subst e
      exact ⟨_, bs, rfl, Nat.le_refl _, ⟨_, hrow, hin⟩, hb⟩

/-- a copy in memory of its own -/
structure OwnD (w : World) (l : DL) (lo : Nat) (bs xs : Nat → Nat) (d : DD) : Prop where
  blk : ∃ N, l.ba = some ⟨N, 0, none⟩ ∧ lo ≤ N ∧ OwnBlks w N bs d.blocks
  wrt : ∃ M, l.wa = some ⟨M, 0, none⟩ ∧ lo ≤ M ∧ OwnWrs w M xs d.waiting ∧ ∀ i, i < d.blocks.length → bs i < M
theorem OwnD.below {w w' : World} {l : DL} {lo : Nat} {bs xs : Nat → Nat} {d : DD} (h : OwnD w l lo bs xs d) (hb : Below w.heap.size w w') : OwnD w' l lo bs xs d := by
  obtain ⟨⟨N, h1, h2, h3⟩, M, h4, h5, h6, h7⟩ := h
  exact ⟨⟨N, h1, h2, h3.below hb⟩, M, h4, h5, h6.below hb, h7⟩
theorem OwnD.at_ {w : World} {l : DL} {lo : Nat} {bs xs : Nat → Nat} {d : DD} (h : OwnD w l lo bs xs d) : DAt w l d := by
  obtain ⟨⟨N, h1, h2, h3⟩, M, h4, h5, h6, h7⟩ := h
  exact ⟨by rw [h1]; exact h3.at_, by rw [h4]; exact h6.at_⟩

set_option maxRecDepth 100000 in
theorem toDisk_any (d : DD) (l : DL) (w : World) (hs : d.Small) (ha : DAt w l d) :
    Calls Try.prog 37 #[d.val l] w fun e w' => ∃ l' bs xs, e = .returned (d.val l') ∧ OwnD w' l' w.heap.size bs xs d ∧ Below w.heap.size w w' := by
  go_enter Try.func37, Try.ntmps37
  go_wp2_with (go_at_call 99; refine (toByteSS_any l.ba l.bc d.blocks _ hs.bl hs.bb (ha.b.grow (gal (gal (gal (gre _) _) _) _))).mono ?_; rintro e w' ⟨b1, bs1, rfl, hbb1, hown1, hb'⟩; obtain ⟨hc, hf⟩ := bcell hb')
  have hz : w.heap.size + 1 + 1 < w'.heap.size := by have := hb'.size; simp at this; omega
  have hz1 : w.heap.size + 1 < w'.heap.size := by omega
  have hz0 : w.heap.size < w'.heap.size := by omega
  have hB : Below w.heap.size w w' := gca (gal (gal (gal (gre _) _) _) _) hb'
  have hbb' : w.heap.size + 3 ≤ b1 := by simpa using hbb1
  clear hbb1
  refine (toWriteS_any l.wa l.wc d.waiting _ hs.wl hs.wb (ha.w.grow (gse hB (by simp; omega) _))).mono ?_
  rintro e w'' ⟨b2, bs2, rfl, hbb2, hown2, hb''⟩
  obtain ⟨hc2, hf2⟩ := bcell hb''
  have hB2 : Below w.heap.size w w'' := gca (gse hB (by simp; omega) _) hb''
  have hbb3 : w'.heap.size ≤ b2 := by simpa [World.setCell] using hbb2
  clear hbb2
  have hown1' := (hown1.set (p := ⟨w.heap.size + 1 + 1, 0, none⟩) (by simp; omega) (.slice (some ⟨b1, 0, none⟩) d.blocks.length d.blocks.length)).below hb''
  go_wp2
  refine bodyPost_ret (v := d.val ⟨some ⟨b1, 0, none⟩, d.blocks.length, some ⟨b2, 0, none⟩, d.waiting.length⟩) (by simp [results, Try.results37, go_sem, hc, hc2, hz1]) rfl ⟨⟨some ⟨b1, 0, none⟩, d.blocks.length, some ⟨b2, 0, none⟩, d.waiting.length⟩, bs1, bs2, rfl, ⟨⟨b1, rfl, by omega, ?_⟩, b2, rfl, by omega, ?_, fun i hi => ?_⟩, ?_⟩
  · exact ((hown1'.set (by simp; omega) _).set (by simp; omega) _).set (by simp; omega) _
  · exact ((hown2.set (by simp; omega) _).set (by simp; omega) _).set (by simp; omega) _
  · obtain ⟨f, _, hn⟩ := hown1
    have := (hn i hi).2.1.lt
    omega
  · exact gse (gse (gse hB2 (by simp; omega) _) (by simp) _) (by simp) _

end Go.Proofs.Ythjddpkegooobab

/-
  DEQ: the laws' comparisons of disks, where both are the same. Own work.
-/
namespace Go.Proofs.Ythjddpkegooobab
open Go.RowKit

set_option maxRecDepth 100000 in
theorem eqByteSS_same (a a' : Option Addr) (cap cap' : Nat) (ns : List (List Nat)) (w : World) (hl : ns.length ≤ maxLen) (hv : ∀ n, n ∈ ns → n.length ≤ maxLen) (ha : BlksAt w a ns) (ha' : BlksAt w a' ns) :
    Calls Try.prog 91 #[.slice a ns.length cap, .slice a' ns.length cap'] w fun e w' => e = .returned (.bool true) ∧ Below w.heap.size w w' := by
  unfold maxLen at hl
  have hne : ((ns.length : Int) != (ns.length : Int)) = false := by simp
  go_enter Try.func91, Try.ntmps91
  go_wp2
  go_loopw [5] (fun i wr => ∃ k : Nat, k ≤ ns.length ∧ i = .int .i64 k ∧ Below w.heap.size w wr) (fun i _ => ns.length - (intOf i).toNat)
  case atStart => exact ⟨0, Nat.zero_le _, rfl, Below.refl _ _⟩
  case round =>
    obtain ⟨k, hk, rfl, hb⟩ := hrel
    by_cases hlt : k < ns.length
    · obtain ⟨n, b, off, av, cv, hvk, hvm, rfl, c0, hva⟩ := (ha.grow hb).get hlt
      obtain ⟨n', b', off', av', cv', hvk', hvm', rfl, d0, hva'⟩ := (ha'.grow hb).get hlt
      have e : n' = n := by rw [hvk.out, hvk'.out]
      subst e
      have i0 : (0 : Int) ≤ (k : Int) := by omega
      have i1 : (k : Int) < (ns.length : Int) := by omega
      have hvl := hv n' hvm
      have hv1 : BytesAt wr.drew av n' := hva.grow (gdr (gre _))
      have hv2 : BytesAt wr.drew av' n' := hva'.grow (gdr (gre _))
      clear ha ha' hvk hvk' hva hva'
      go_wp2
      go_region_held3 (fun w' => w'.cell? ⟨b, off + k, none⟩ = some (.slice av n'.length cv) ∧ w'.cell? ⟨b', off' + k, none⟩ = some (.slice av' n'.length cv')) (first | go_keep | (go_split_ands; refine ⟨?_, ?_⟩ <;> exact cell_later hb' (by assumption))) ((go_at_call 19; refine (eqByteS_same av av' n' cv cv' _ hvl hv1 hv2).mono ?_; rintro e w' ⟨rfl, hb'⟩))
      go_wp2
      go_roundw
      case rel => exact ⟨k + 1, by omega, by go_num, gca (gdr hb) hb'⟩
      case measure => simp [intOf]; omega
    · go_wp2
      go_ret
      exact ⟨rfl, hb⟩

set_option maxRecDepth 100000 in
theorem eqWrite_same (x : DW) (a a' : Option Addr) (cap cap' : Nat) (w : World) (hl : x.bytes.length ≤ maxLen) (ha : BytesAt w a x.bytes) (ha' : BytesAt w a' x.bytes) :
    Calls Try.prog 151 #[x.val a cap, x.val a' cap'] w fun e w' => e = .returned (.bool true) ∧ Below w.heap.size w w' := by
  have hne : ((x.block : Int) != (x.block : Int)) = false := by simp
  go_enter Try.func151, Try.ntmps151
  go_wp2_with (go_at_call 19; refine (eqByteS_same a a' x.bytes cap cap' _ hl (ha.grow (gal (gal (gre _) _) _)) (ha'.grow (gal (gal (gre _) _) _))).mono ?_; rintro e w' ⟨rfl, hb'⟩)
  go_ret
  exact ⟨rfl, gca (gal (gal (gre _) _) _) hb'⟩

set_option maxRecDepth 100000 in
theorem eqWriteS_same (a a' : Option Addr) (cap cap' : Nat) (ns : List DW) (w : World) (hl : ns.length ≤ maxLen) (hv : ∀ n, n ∈ ns → n.bytes.length ≤ maxLen) (ha : WrsAt w a ns) (ha' : WrsAt w a' ns) :
    Calls Try.prog 92 #[.slice a ns.length cap, .slice a' ns.length cap'] w fun e w' => e = .returned (.bool true) ∧ Below w.heap.size w w' := by
  unfold maxLen at hl
  have hne : ((ns.length : Int) != (ns.length : Int)) = false := by simp
  go_enter Try.func92, Try.ntmps92
  go_wp2
  go_loopw [5] (fun i wr => ∃ k : Nat, k ≤ ns.length ∧ i = .int .i64 k ∧ Below w.heap.size w wr) (fun i _ => ns.length - (intOf i).toNat)
  case atStart => exact ⟨0, Nat.zero_le _, rfl, Below.refl _ _⟩
  case round =>
    obtain ⟨k, hk, rfl, hb⟩ := hrel
    by_cases hlt : k < ns.length
    · obtain ⟨n, b, off, av, cv, hvk, hvm, rfl, c0, c1, hva⟩ := (ha.grow hb).get hlt
      obtain ⟨n', b', off', av', cv', hvk', hvm', rfl, d0, d1, hva'⟩ := (ha'.grow hb).get hlt
      have e : n' = n := by rw [hvk.out, hvk'.out]
      subst e
      have i0 : (0 : Int) ≤ (k : Int) := by omega
      have i1 : (k : Int) < (ns.length : Int) := by omega
      have hvl := hv n' hvm
      have hv1 : BytesAt wr.drew av n'.bytes := hva.grow (gdr (gre _))
      have hv2 : BytesAt wr.drew av' n'.bytes := hva'.grow (gdr (gre _))
      clear ha ha' hvk hvk' hva hva'
      go_wp2
      go_region_held3 (fun w' => w'.cell? ⟨b, off + k * 2, none⟩ = some (.int .i64 n'.block) ∧ w'.cell? ⟨b, off + k * 2 + 1, none⟩ = some (.slice av n'.bytes.length cv) ∧ w'.cell? ⟨b', off' + k * 2, none⟩ = some (.int .i64 n'.block) ∧ w'.cell? ⟨b', off' + k * 2 + 1, none⟩ = some (.slice av' n'.bytes.length cv')) (first | go_keep | (go_split_ands; refine ⟨?_, ?_, ?_, ?_⟩ <;> exact cell_later hb' (by assumption))) ((go_at_call 151; refine (eqWrite_same n' av av' cv cv' _ hvl hv1 hv2).mono ?_; rintro e w' ⟨rfl, hb'⟩))
      go_wp2
      go_roundw
      case rel => exact ⟨k + 1, by omega, by go_num, gca (gdr hb) hb'⟩
      case measure => simp [intOf]; omega
    · go_wp2
      go_ret
      exact ⟨rfl, hb⟩

set_option maxRecDepth 100000 in
theorem eqDisk_same (d : DD) (l l' : DL) (w : World) (hd : d.Ok) (ha : DAt w l d) (ha' : DAt w l' d) :
    Calls Try.prog 32 #[d.val l, d.val l'] w fun e w' => e = .returned (.bool true) ∧ Below w.heap.size w w' := by
  have hA := gal (gal (gre w) (.cells #[.slice l.ba d.blocks.length l.bc, .slice l.wa d.waiting.length l.wc] 50)) (.cells #[.slice l'.ba d.blocks.length l'.bc, .slice l'.wa d.waiting.length l'.wc] 50)
  go_enter Try.func32, Try.ntmps32
  go_wp2_with (first
    | (go_at_call 91; refine (eqByteSS_same l.ba l'.ba l.bc l'.bc d.blocks _ hd.bl (fun n hn => (hd.bb n hn).len) (ha.b.grow hA) (ha'.b.grow hA)).mono ?_; rintro e w' ⟨rfl, hb'⟩; obtain ⟨hc, hf⟩ := bcell hb')
    | (go_at_call 92; refine (eqWriteS_same l.wa l'.wa l.wc l'.wc d.waiting _ hd.wl (fun n hn => (hd.wb n hn).len) (ha.w.grow (gca hA hb')) (ha'.w.grow (gca hA hb'))).mono ?_; rintro e w'' ⟨rfl, hb''⟩))
  go_ret
  exact ⟨rfl, gca (gca hA hb') hb''⟩

end Go.Proofs.Ythjddpkegooobab

/-
  BYTES: the laws' bytes, marked. Own work.
-/
namespace Go.Proofs.Ythjddpkegooobab
open Go.RowKit

def marksB (k n : Nat) : List Nat := (List.range n).map fun j => (k + j) % 256
set_option maxRecDepth 100000 in
theorem marksB_length (k n : Nat) : (marksB k n).length = n := by simp [marksB]
theorem marksB_get {k n i : Nat} (h : i < n) : (marksB k n)[i]! = (k + i) % 256 := by
  rw [getElem!_pos _ i (by rw [marksB_length]; exact h)]
  simp [marksB]

set_option maxRecDepth 100000 in
theorem markByteS_any (oa : Option Addr) (bs : List Nat) (cap k lo : Nat) (w : World) (hl : bs.length ≤ 1048576) (hk : k ≤ 1099511627776) (hM : MB w lo oa bs) :
    Calls Try.prog 22 #[.slice oa bs.length cap, .int .i64 k] w fun e w' => e = .returned (.int .i64 ((k + bs.length : Nat) : Int)) ∧ MB w' lo oa (marksB k bs.length) ∧ Kept (fun b => lo ≤ b ∧ oa = some ⟨b, 0, none⟩) w w' := by
  rcases hM with rfl | ⟨G, n, rfl, hG, hB⟩
  · go_enter Try.func22, Try.ntmps22
    go_wp2
    go_loopw [1, 5] (fun c i wr => c = .int .i64 k ∧ i = .int .i64 0 ∧ wr = w) (fun _ _ _ => 0)
    case atStart => exact ⟨rfl, rfl, rfl⟩
    case round =>
      obtain ⟨rfl, rfl, rfl⟩ := hrel
      go_wp2
      go_ret
      exact ⟨rfl, Or.inl rfl, Kept.refl _ _⟩
  · obtain ⟨f0, hr0, _⟩ := hB.row
    have hln : bs.length ≤ n := by obtain ⟨c, _, _, hl, _⟩ := hB; exact hl
    go_enter Try.func22, Try.ntmps22
    go_wp2
    go_loopw [1, 5] (fun c i wr => ∃ (m : Nat) (f : Nat → Value), m ≤ bs.length ∧ c = .int .i64 ((k + m : Nat) : Int) ∧ i = .int .i64 m ∧ wr.rowIs G 5 n f ∧ (∀ j, j < m → f j = .int .u8 (((k + j) % 256 : Nat) : Int)) ∧ Kept (fun b => b = G) w wr) (fun _ i _ => bs.length - (intOf i).toNat)
    case atStart => exact ⟨0, f0, Nat.zero_le _, rfl, rfl, hr0, fun j hj => absurd hj (Nat.not_lt_zero _), Kept.refl _ _⟩
    case round =>
      obtain ⟨m, f, hm, rfl, rfl, hrow, hin, hK⟩ := hrel
      obtain ⟨q, hq⟩ := hid_ex (k + m)
      rw [← hq.out]
      have hq1 : q ≤ 2199023255552 := by rw [hq.out]; omega
      by_cases hlt : m < bs.length
      · have d0 := hrow.cell (i := m) (by omega)
        have fz := hrow.frozen
        obtain ⟨x, hx⟩ := hid_ex (q % 256)
        have e2 : IntKind.u8.wrap (q : Int) = (x : Int) := by rw [hx.out, IntKind.wrap_u8']; omega
        go_wp2
        go_roundw
        case rel =>
          refine ⟨m + 1, _, by omega, ?_, by go_num, hrow.set _ _, fun j hj => ?_, hK.set (fun _ => rfl) _⟩
          · have : q + 1 = k + (m + 1) := by rw [hq.out]; omega
            rw [← this]; go_num
          · show (if j = m then _ else _) = _
            split
            · rename_i e; rw [e, hx.out, hq.out]
            · exact hin j (by omega)
        case measure => simp [intOf]; omega
      · obtain rfl : m = bs.length := by omega
        go_wp2
        go_ret
        refine ⟨by rw [← hq.out]; rfl, Or.inr ⟨G, n, rfl, hG, BRow.of_row hrow (by rw [marksB_length]; exact hln) (fun i hi => ?_)⟩, hK.mono (fun b _ e => by subst e; exact ⟨hG, rfl⟩)⟩
        rw [marksB_length] at hi
        rw [marksB_get hi]; exact hin i hi

set_option maxRecDepth 100000 in
theorem heldByteS_any (oa : Option Addr) (n cap k : Nat) (w : World) (hl : n ≤ 1048576) (hk : k ≤ 1099511627776) (hM : BytesAt w oa (marksB k n)) :
    Calls Try.prog 23 #[.slice oa n cap, .int .i64 k] w fun e w' => e = .returned (.int .i64 ((k + n : Nat) : Int)) ∧ Below w.heap.size w w' := by
  go_enter Try.func23, Try.ntmps23
  go_wp2
  go_loopw [1, 5] (fun c i wr => ∃ (m : Nat), m ≤ n ∧ c = .int .i64 ((k + m : Nat) : Int) ∧ i = .int .i64 m ∧ Below w.heap.size w wr) (fun _ i _ => n - (intOf i).toNat)
  case atStart => exact ⟨0, Nat.zero_le _, rfl, rfl, gre _⟩
  case round =>
    obtain ⟨m, hm, rfl, rfl, hb⟩ := hrel
    obtain ⟨q, hq⟩ := hid_ex (k + m)
    rw [← hq.out]
    have hq1 : q ≤ 2199023255552 := by rw [hq.out]; omega
    by_cases hlt : m < n
    · obtain ⟨x, b, off, hxk, hxm, rfl, hc⟩ := (hM.grow hb).get (k := m) (by rw [marksB_length]; exact hlt)
      have hx2 : Hid (x = q % 256) := by show _ = _; rw [hxk.out, marksB_get hlt, hq.out]
      have e2 : IntKind.u8.wrap (q : Int) = (x : Int) := by rw [hx2.out, IntKind.wrap_u8']; omega
      have hn2 : ((x : Int) != (x : Int)) = false := by simp
      go_wp2
      go_roundw
      case rel =>
        refine ⟨m + 1, by omega, ?_, by go_num, hb⟩
        have : q + 1 = k + (m + 1) := by rw [hq.out]; omega
        rw [← this]; go_num
      case measure => simp [intOf]; omega
    · obtain rfl : m = n := by omega
      go_wp2
      go_ret
      exact ⟨by rw [← hq.out]; rfl, hb⟩

end Go.Proofs.Ythjddpkegooobab

/-
  DMARKT: one list of bytes, changed. Own work.
-/
namespace Go.Proofs.Ythjddpkegooobab
open Go.RowKit

/-- one list of bytes, marked -/
theorem MBs.step {w w' : World} {lo hi : Nat} {a : Option Addr} {n : Nat} {F : Nat → List Nat} {fa : Nat → Option Addr} {fc : Nat → Nat} (h : MBs w lo hi a n F fa fc) {j : Nat} (hj : j < n) {ys : List Nat} (hy : ys.length = (F j).length) (hB : BB w' lo hi (fa j) ys) (hK : Kept (fun b => F j ≠ [] ∧ fa j = some ⟨b, 0, none⟩) w w') :
    MBs w' lo hi a n (fun i => if i = j then ys else F i) fa fc := by
  have hp : ∀ b, F j ≠ [] ∧ fa j = some ⟨b, 0, none⟩ → IsB w b := fun b hb => (h.tb ⟨j, hj, hb.1, hb.2⟩).2.2
  refine ⟨fun h0 => ?_, fun i hi => ?_, h.far⟩
  · obtain ⟨g, m, f, h1, h2, h3, h4, h5, h6⟩ := h.row h0
    refine ⟨g, m, f, h1, h2, h3, hK.rowIs h4 (fun hb => not_B_of_bs h4 (hp g hb)), h5, fun i hi => ?_⟩
    show f i = .slice (fa i) (if i = j then ys else F i).length (fc i)
    split
    · rename_i e; subst e; rw [hy]; exact h6 i hi
    · exact h6 i hi
  · show BB w' lo _ (fa i) (if i = j then ys else F i)
    split
    · rename_i e; subst e; exact hB
    · rename_i e
      exact (h.byt i hi).kept hK (fun b hb _ hq => h.ne hi hj e b hb hq.2)

end Go.Proofs.Ythjddpkegooobab

/-
  DMARK: disks that may be marked, and their marks. Own work.
-/
namespace Go.Proofs.Ythjddpkegooobab
open Go.RowKit

/-- where the marks end -/
def bE (F : Nat → List Nat) (k : Nat) : Nat → Nat
  | 0 => k
  | j + 1 => bE F k j + (F j).length
def wE (F : Nat → List Nat) (k : Nat) : Nat → Nat
  | 0 => k
  | j + 1 => wE F k j + 1 + (F j).length
def bM (F : Nat → List Nat) (k i : Nat) : List Nat := marksB (bE F k i) (F i).length
def wM (F : Nat → List Nat) (k i : Nat) : List Nat := marksB (wE F k i + 1) (F i).length
theorem bE_le (F : Nat → List Nat) (k : Nat) : ∀ {i j : Nat}, i ≤ j → bE F k i ≤ bE F k j
  | i, 0, h => by obtain rfl : i = 0 := by omega
                  exact Nat.le_refl _
  | i, j + 1, h => by
    by_cases e : i = j + 1
    · subst e; exact Nat.le_refl _
    · have := bE_le F k (show i ≤ j by omega)
      simp only [bE]; omega
theorem wE_le (F : Nat → List Nat) (k : Nat) : ∀ {i j : Nat}, i ≤ j → wE F k i ≤ wE F k j
  | i, 0, h => by obtain rfl : i = 0 := by omega
                  exact Nat.le_refl _
  | i, j + 1, h => by
    by_cases e : i = j + 1
    · subst e; exact Nat.le_refl _
    · have := wE_le F k (show i ≤ j by omega)
      simp only [wE]; omega
theorem bE_sz (ls : List (List Nat)) (k : Nat) : ∀ j, j ≤ ls.length → (bE (fun i => ls[i]!) k j : Int) = k + szBs (ls.take j)
  | 0, _ => by simp [bE, szBs]
  | j + 1, h => by
    have ih := bE_sz ls k j (by omega)
    rw [szBs_take_succ ls j (by omega)]
    simp only [bE]
    omega
theorem wE_sz (ls : List DW) (k : Nat) : ∀ j, j ≤ ls.length → (wE (fun i => ls[i]!.bytes) k j : Int) = k + j + szWs (ls.take j)
  | 0, _ => by simp [wE, szWs]
  | j + 1, h => by
    have ih := wE_sz ls k j (by omega)
    rw [szWs_take_succ ls j (by omega)]
    simp only [wE]
    omega

set_option maxRecDepth 100000 in
theorem markByteS_none (oa : Option Addr) (cap k : Nat) (w : World) :
    Calls Try.prog 22 #[.slice oa 0 cap, .int .i64 k] w fun e w' => e = .returned (.int .i64 k) ∧ w' = w := by
  go_enter Try.func22, Try.ntmps22
  go_wp2
  go_loopw [1, 5] (fun c i wr => c = .int .i64 k ∧ i = .int .i64 0 ∧ wr = w) (fun _ _ _ => 0)
  case atStart => exact ⟨rfl, rfl, rfl⟩
  case round =>
    obtain ⟨rfl, rfl, rfl⟩ := hrel
    go_wp2
    go_ret
    exact ⟨rfl, rfl⟩

set_option maxRecDepth 100000 in
theorem markBytes_any (oa : Option Addr) (bs : List Nat) (cap k lo hi : Nat) (w : World) (hl : bs.length ≤ 1048576) (hk : k ≤ 1099511627776) (hM : BB w lo hi oa bs) :
    Calls Try.prog 22 #[.slice oa bs.length cap, .int .i64 k] w fun e w' => e = .returned (.int .i64 ((k + bs.length : Nat) : Int)) ∧ BB w' lo hi oa (marksB k bs.length) ∧ Kept (fun b => bs ≠ [] ∧ oa = some ⟨b, 0, none⟩) w w' := by
  by_cases e0 : bs = []
  · subst e0
    refine (markByteS_none oa cap k w).mono ?_
    rintro e w' ⟨rfl, h2⟩
    exact ⟨rfl, Or.inl (by simp [marksB]), by rw [h2]; exact Kept.refl _ _⟩
  · rcases hM with h | ⟨G, n, rfl, hG, hGh, hB⟩
    · exact absurd h e0
    · refine (markByteS_any _ bs cap k lo w hl hk (Or.inr ⟨G, n, rfl, hG, hB⟩)).mono ?_
      rintro e w' ⟨rfl, h1, h2⟩
      refine ⟨rfl, ?_, h2.mono (fun b _ h => ⟨e0, h.2⟩)⟩
      rcases h1 with h1 | ⟨G', n', h3, h4, h5⟩
      · exact Or.inl h1
      · have := some_addr h3
        subst this
        exact Or.inr ⟨G, n', rfl, hG, hGh, h5⟩


set_option maxRecDepth 100000 in
theorem markByteSS_any (a : Option Addr) (n cap k lo hi : Nat) (F : Nat → List Nat) (fa : Nat → Option Addr) (fc : Nat → Nat) (w : World) (hn : n ≤ 1048576) (hl : ∀ i, i < n → (F i).length ≤ 1048576) (hk : bE F k n ≤ 1099511627776) (h : MBs w lo hi a n F fa fc) :
    Calls Try.prog 93 #[.slice a n cap, .int .i64 k] w fun e w' => e = .returned (.int .i64 (bE F k n : Nat)) ∧ MBs w' lo hi a n (bM F k) fa fc ∧ Kept (TB n F fa) w w' := by
  go_enter Try.func93, Try.ntmps93
  go_wp2
  go_loopw [1, 5] (fun c i wr => ∃ (j q : Nat) (G : Nat → List Nat), j ≤ n ∧ Hid (q = bE F k j) ∧ c = .int .i64 (q : Int) ∧ i = .int .i64 (j : Int) ∧ MBs wr lo hi a n G fa fc ∧ (∀ i, i < j → G i = bM F k i) ∧ (∀ i, j ≤ i → G i = F i) ∧ Kept (TB n F fa) w wr) (fun _ i _ => n - (intOf i).toNat)
  case atStart => exact ⟨0, k, F, Nat.zero_le _, rfl, rfl, rfl, h, fun i hi => absurd hi (Nat.not_lt_zero _), fun _ _ => rfl, Kept.refl _ _⟩
  case round =>
    obtain ⟨j, q, G, hj, hq, rfl, rfl, hM, hG1, hG2, hK⟩ := hrel
    have hqle : q ≤ 1099511627776 := by have := bE_le F k hj; have := hq.out; omega
    by_cases hlt : j < n
    · obtain ⟨g, m, f, rfl, h2, h3, h4, h5, h6⟩ := hM.row (by omega)
      have c0 := h4.cell (i := j) (by omega)
      rw [h6 j hlt, hG2 j (Nat.le_refl _)] at c0
      have i0 : (0 : Int) ≤ (j : Int) := by omega
      have i1 : (j : Int) < (n : Int) := by omega
      have hBj := hM.byt j hlt
      rw [hG2 j (Nat.le_refl _)] at hBj
      have hlj := hl j hlt
      obtain ⟨ys, hys⟩ := hid_ex (F j)
      rw [← hys.out] at c0 hBj hlj
      go_wp2_with (go_at_call 22; refine (markBytes_any (fa j) ys (fc j) q lo hi _ hlj hqle hBj).mono ?_; rintro e w2 ⟨rfl, hB2, hK2⟩)
      go_roundw
      case rel =>
        have e1 : G j = F j := hG2 j (Nat.le_refl _)
        have hb1 : marksB q ys.length = bM F k j := by rw [hys.out, hq.out]; rfl
        refine ⟨j + 1, q + ys.length, _, by omega, by show _ = _; rw [hq.out, hys.out]; rfl, by go_num, by go_num, hM.step hlt (ys := marksB q ys.length) (by rw [marksB_length, e1, hys.out]) hB2 (hK2.mono (fun b _ hb => by rw [e1, ← hys.out]; exact hb)), fun i hi => ?_, fun i hi => ?_, hK.trans hK2 (fun b _ hb => ⟨j, hlt, by rw [← hys.out]; exact hb.1, hb.2⟩)⟩
        · show (if i = j then _ else _) = _
          split
          · rename_i e; rw [e]; exact hb1
          · exact hG1 i (by omega)
        · show (if i = j then _ else _) = _
          rw [if_neg (by omega)]; exact hG2 i (by omega)
      case measure => simp [intOf]; omega
    · obtain rfl : j = n := by omega
      go_wp2
      go_ret
      exact ⟨by rw [hq.out]; rfl, hM.congr (fun i hi => (hG1 i hi).symm), hK⟩

set_option maxRecDepth 100000 in
theorem heldByteSS_any (a : Option Addr) (n cap k lo hi : Nat) (F : Nat → List Nat) (fa : Nat → Option Addr) (fc : Nat → Nat) (w : World) (hn : n ≤ 1048576) (hl : ∀ i, i < n → (F i).length ≤ 1048576) (hk : bE F k n ≤ 1099511627776) (h : MBs w lo hi a n (bM F k) fa fc) :
    Calls Try.prog 95 #[.slice a n cap, .int .i64 k] w fun e w' => e = .returned (.int .i64 (bE F k n : Nat)) ∧ Below w.heap.size w w' := by
  go_enter Try.func95, Try.ntmps95
  go_wp2
  go_loopw [1, 5] (fun c i wr => ∃ (j q : Nat), j ≤ n ∧ Hid (q = bE F k j) ∧ c = .int .i64 (q : Int) ∧ i = .int .i64 (j : Int) ∧ Below w.heap.size w wr) (fun _ i _ => n - (intOf i).toNat)
  case atStart => exact ⟨0, k, Nat.zero_le _, rfl, rfl, rfl, gre _⟩
  case round =>
    obtain ⟨j, q, hj, hq, rfl, rfl, hb⟩ := hrel
    have hqle : q ≤ 1099511627776 := by have := bE_le F k hj; have := hq.out; omega
    have hM := h.out (Kept.of_below hb (fun _ => False)) (fun _ _ _ e => e)
    by_cases hlt : j < n
    · obtain ⟨g, m, f, rfl, h2, h3, h4, h5, h6⟩ := hM.row (by omega)
      have c0 := h4.cell (i := j) (by omega)
      rw [h6 j hlt] at c0
      have i0 : (0 : Int) ≤ (j : Int) := by omega
      have i1 : (j : Int) < (n : Int) := by omega
      have hBj := (hM.byt j hlt).bytes
      have hlj := hl j hlt
      unfold bM at c0 hBj
      rw [marksB_length] at c0
      rw [← hq.out] at hBj
      obtain ⟨x, hx⟩ := hid_ex (F j).length
      rw [← hx.out] at c0 hBj hlj
      have hd : ¬ ((q : Int) + (x : Int) < 0) := by omega
      go_wp2_with (go_at_call 23; refine (heldByteS_any (fa j) x (fc j) q _ hlj hqle hBj).mono ?_; rintro e w2 ⟨rfl, hb2⟩)
      go_roundw
      case rel => exact ⟨j + 1, q + x, by omega, by show _ = _; rw [hq.out, hx.out]; rfl, by go_num, by go_num, gca hb hb2⟩
      case measure => simp [intOf]; omega
    · obtain rfl : j = n := by omega
      go_wp2
      go_ret
      exact ⟨by rw [hq.out]; rfl, hb⟩

end Go.Proofs.Ythjddpkegooobab

/-
  DMARK2: marks in writes and disks. Own work.
-/
namespace Go.Proofs.Ythjddpkegooobab
open Go.RowKit

/-- one write, marked -/
theorem MWs.step {w w' : World} {lo hi : Nat} {a : Option Addr} {n : Nat} {B : Nat → Int} {F : Nat → List Nat} {fa : Nat → Option Addr} {fc : Nat → Nat} (h : MWs w lo hi a n B F fa fc) {j : Nat} (hj : j < n) {g : Nat} (hg : a = some ⟨g, 0, none⟩) (k : Int) {ys : List Nat} (hy : ys.length = (F j).length) (hB : BB w' lo hi (fa j) ys) (hK : Kept (fun b => F j ≠ [] ∧ fa j = some ⟨b, 0, none⟩) (w.setCell ⟨g, j * 2, none⟩ (.int .i64 k)) w') :
    MWs w' lo hi a n (fun i => if i = j then k else B i) (fun i => if i = j then ys else F i) fa fc := by
  obtain ⟨g', m, f, h1, h2, h3, h4, h5, h6⟩ := h.row (by omega)
  rw [hg] at h1
  obtain rfl := some_addr h1
  have hp : ∀ b, F j ≠ [] ∧ fa j = some ⟨b, 0, none⟩ → IsB w b := fun b hb => (h.tb ⟨j, hj, hb.1, hb.2⟩).2.2
  have hS := (Kept.refl (fun b => b = g) w).set (a := ⟨g, j * 2, none⟩) (fun _ => rfl) (.int .i64 k)
  refine ⟨fun _ => ?_, fun i hi => ?_, h.far⟩
  · refine ⟨g, m, _, hg, h2, h3, hK.rowIs (h4.set (j * 2) (.int .i64 k)) (fun hb => not_B_of_W (rowIs_isW h4) (hp g hb)), h5, fun i hi => ⟨?_, ?_⟩⟩
    · show (if i * 2 = j * 2 then _ else _) = _
      by_cases e : i = j
      · subst e; simp
      · rw [if_neg (by omega), if_neg e]; exact (h6 i hi).1
    · show (if i * 2 + 1 = j * 2 then _ else _) = Value.slice (fa i) (if i = j then ys else F i).length (fc i)
      rw [if_neg (by omega)]
      split
      · rename_i e; subst e; rw [hy]; exact (h6 i hi).2
      · exact (h6 i hi).2
  · show BB w' lo _ (fa i) (if i = j then ys else F i)
    split
    · rename_i e; subst e; exact hB
    · rename_i e
      refine ((h.byt i hi).kept hS (fun b hb hne hq => ?_)).kept hK (fun b hb _ hq => h.ne hi hj e b hb hq.2)
      subst hq
      exact not_B_of_W (rowIs_isW h4) (h.tb ⟨i, hi, hne, hb⟩).2.2

/-- what marking writes touches -/
def TW (a : Option Addr) (n : Nat) (F : Nat → List Nat) (fa : Nat → Option Addr) (b : Nat) : Prop := a = some ⟨b, 0, none⟩ ∨ TB n F fa b

set_option maxRecDepth 100000 in
theorem markWriteS_any (a : Option Addr) (n cap k lo hi : Nat) (B : Nat → Int) (F : Nat → List Nat) (fa : Nat → Option Addr) (fc : Nat → Nat) (w : World) (hn : n ≤ 1048576) (hl : ∀ i, i < n → (F i).length ≤ 1048576) (hk : wE F k n ≤ 1099511627776) (h : MWs w lo hi a n B F fa fc) :
    Calls Try.prog 94 #[.slice a n cap, .int .i64 k] w fun e w' => e = .returned (.int .i64 (wE F k n : Nat)) ∧ MWs w' lo hi a n (fun i => (wE F k i : Nat)) (wM F k) fa fc ∧ Kept (fun b => 0 < n ∧ TW a n F fa b) w w' := by
  go_enter Try.func94, Try.ntmps94
  go_wp2
  go_loopw [1, 5] (fun c i wr => ∃ (j q : Nat) (C : Nat → Int) (G : Nat → List Nat), j ≤ n ∧ Hid (q = wE F k j) ∧ c = .int .i64 (q : Int) ∧ i = .int .i64 (j : Int) ∧ MWs wr lo hi a n C G fa fc ∧ (∀ i, i < j → C i = (wE F k i : Nat) ∧ G i = wM F k i) ∧ (∀ i, j ≤ i → G i = F i) ∧ Kept (fun b => 0 < n ∧ TW a n F fa b) w wr) (fun _ i _ => n - (intOf i).toNat)
  case atStart => exact ⟨0, k, B, F, Nat.zero_le _, rfl, rfl, rfl, h, fun i hi => absurd hi (Nat.not_lt_zero _), fun _ _ => rfl, Kept.refl _ _⟩
  case round =>
    obtain ⟨j, q, C, G, hj, hq, rfl, rfl, hM, hG1, hG2, hK⟩ := hrel
    have hqle : q ≤ 1099511627776 := by have := wE_le F k hj; have := hq.out; omega
    by_cases hlt : j < n
    · obtain ⟨g, m, f, rfl, h2, h3, h4, h5, h6⟩ := hM.row (by omega)
      have hq2 : q + 1 ≤ 1099511627776 := by have h8 := wE_le F k (show j + 1 ≤ n by omega); have h9 := hq.out; simp only [wE] at h8; omega
      have c0 := h4.cell (i := j * 2) (by omega)
      have c1 := h4.cell (i := j * 2 + 1) (by omega)
      have fz := h4.frozen
      rw [(h6 j hlt).1] at c0
      rw [(h6 j hlt).2, hG2 j (Nat.le_refl _)] at c1
      have c1' := (World.cell?_setCell_other wr ⟨g, j * 2, none⟩ ⟨g, j * 2 + 1, none⟩ (.int .i64 (q : Int)) (by simp)).trans c1
      have i0 : (0 : Int) ≤ (j : Int) := by omega
      have i1 : (j : Int) < (n : Int) := by omega
      have hBj := hM.byt j hlt
      have hBj := hBj.kept ((Kept.refl (fun b => b = g) wr).set (a := ⟨g, j * 2, none⟩) (fun _ => rfl) (.int .i64 (q : Int))) (fun b hb hne hq => by subst hq; exact not_B_of_W (rowIs_isW h4) (hM.tb ⟨j, hlt, hne, hb⟩).2.2)
      rw [hG2 j (Nat.le_refl _)] at hBj
      have hlj := hl j hlt
      obtain ⟨ys, hys⟩ := hid_ex (F j)
      rw [← hys.out] at c1 c1' hBj hlj
      go_wp2_with (go_at_call 22; rw [show ((q : Int) + 1) = ((q + 1 : Nat) : Int) by omega]; refine (markBytes_any (fa j) ys (fc j) (q + 1) lo hi _ hlj hq2 hBj).mono ?_; rintro e w2 ⟨rfl, hB2, hK2⟩)
      go_roundw
      case rel =>
        have e1 : G j = F j := hG2 j (Nat.le_refl _)
        have hb1 : marksB (q + 1) ys.length = wM F k j := by rw [hys.out, hq.out]; rfl
        refine ⟨j + 1, q + 1 + ys.length, _, _, by omega, by show _ = _; rw [hq.out, hys.out]; rfl, by go_num, by go_num, hM.step hlt rfl (q : Int) (ys := marksB (q + 1) ys.length) (by rw [marksB_length, e1, hys.out]) hB2 (hK2.mono (fun b _ hb => by rw [e1, ← hys.out]; exact hb)), fun i hi => ⟨?_, ?_⟩, fun i hi => ?_, (hK.set (fun _ => ⟨by omega, Or.inl rfl⟩) _).trans hK2 (fun b _ hb => ⟨by omega, Or.inr ⟨j, hlt, by rw [← hys.out]; exact hb.1, hb.2⟩⟩)⟩
        · show (if i = j then _ else _) = _
          split
          · rename_i e; rw [e, hq.out]
          · exact (hG1 i (by omega)).1
        · show (if i = j then _ else _) = _
          split
          · rename_i e; rw [e]; exact hb1
          · exact (hG1 i (by omega)).2
        · show (if i = j then _ else _) = _
          rw [if_neg (by omega)]; exact hG2 i (by omega)
      case measure => simp [intOf]; omega
    · obtain rfl : j = n := by omega
      go_wp2
      go_ret
      exact ⟨by rw [hq.out]; rfl, hM.congr (fun i hi => (hG1 i hi).1.symm) (fun i hi => (hG1 i hi).2.symm), hK⟩

set_option maxRecDepth 100000 in
theorem heldWriteS_any (a : Option Addr) (n cap k lo hi : Nat) (F : Nat → List Nat) (fa : Nat → Option Addr) (fc : Nat → Nat) (w : World) (hn : n ≤ 1048576) (hl : ∀ i, i < n → (F i).length ≤ 1048576) (hk : wE F k n ≤ 1099511627776) (h : MWs w lo hi a n (fun i => (wE F k i : Nat)) (wM F k) fa fc) :
    Calls Try.prog 96 #[.slice a n cap, .int .i64 k] w fun e w' => e = .returned (.int .i64 (wE F k n : Nat)) ∧ Below w.heap.size w w' := by
  go_enter Try.func96, Try.ntmps96
  go_wp2
  go_loopw [1, 5] (fun c i wr => ∃ (j q : Nat), j ≤ n ∧ Hid (q = wE F k j) ∧ c = .int .i64 (q : Int) ∧ i = .int .i64 (j : Int) ∧ Below w.heap.size w wr) (fun _ i _ => n - (intOf i).toNat)
  case atStart => exact ⟨0, k, Nat.zero_le _, rfl, rfl, rfl, gre _⟩
  case round =>
    obtain ⟨j, q, hj, hq, rfl, rfl, hb⟩ := hrel
    have hqle : q ≤ 1099511627776 := by have := wE_le F k hj; have := hq.out; omega
    have hM := h.out (Kept.of_below hb (fun _ => False)) (fun _ _ _ e => e)
    by_cases hlt : j < n
    · obtain ⟨g, m, f, rfl, h2, h3, h4, h5, h6⟩ := hM.row (by omega)
      have hq2 : q + 1 ≤ 1099511627776 := by have h8 := wE_le F k (show j + 1 ≤ n by omega); have h9 := hq.out; simp only [wE] at h8; omega
      have c0 := h4.cell (i := j * 2) (by omega)
      have c1 := h4.cell (i := j * 2 + 1) (by omega)
      rw [(h6 j hlt).1, ← hq.out] at c0
      rw [(h6 j hlt).2] at c1
      have i0 : (0 : Int) ≤ (j : Int) := by omega
      have i1 : (j : Int) < (n : Int) := by omega
      have hBj := (hM.byt j hlt).bytes
      have hlj := hl j hlt
      unfold wM at c1 hBj
      rw [marksB_length] at c1
      rw [← hq.out] at hBj
      obtain ⟨x, hx⟩ := hid_ex (F j).length
      rw [← hx.out] at c1 hBj hlj
      have hd : ¬ ((q : Int) + 1 + (x : Int) < 0) := by omega
      have hn2 : ((q : Int) != (q : Int)) = false := by simp
      go_wp2_with (go_at_call 23; rw [show ((q : Int) + 1) = ((q + 1 : Nat) : Int) by omega]; refine (heldByteS_any (fa j) x (fc j) (q + 1) _ hlj hq2 hBj).mono ?_; rintro e w2 ⟨rfl, hb2⟩)
      go_roundw
      case rel => exact ⟨j + 1, q + 1 + x, by omega, by show _ = _; rw [hq.out, hx.out]; rfl, by go_num, by go_num, gca hb hb2⟩
      case measure => simp [intOf]; omega
    · obtain rfl : j = n := by omega
      go_wp2
      go_ret
      exact ⟨by rw [hq.out]; rfl, hb⟩

/-- the same, marked from k on -/
structure MDM (w : World) (lo hi : Nat) (l : DL) (d : DD) (k : Nat) (fa ga : Nat → Option Addr) (fc gc : Nat → Nat) : Prop where
  b : MBs w lo hi l.ba d.blocks.length (bM (fun i => d.blocks[i]!) k) fa fc
  w : MWs w lo hi l.wa d.waiting.length (fun i => (wE (fun i => d.waiting[i]!.bytes) (bE (fun i => d.blocks[i]!) k d.blocks.length) i : Nat)) (wM (fun i => d.waiting[i]!.bytes) (bE (fun i => d.blocks[i]!) k d.blocks.length)) ga gc
def DD.mend (d : DD) (k : Nat) : Nat := wE (fun i => d.waiting[i]!.bytes) (bE (fun i => d.blocks[i]!) k d.blocks.length) d.waiting.length
theorem DD.mend_sz (d : DD) (k : Nat) : (d.mend k : Int) ≤ k + d.sz := by
  unfold DD.mend DD.sz
  rw [wE_sz _ _ _ (Nat.le_refl _), List.take_length, bE_sz _ _ _ (Nat.le_refl _), List.take_length]
  omega
theorem DD.mend_le (d : DD) (k : Nat) : bE (fun i => d.blocks[i]!) k d.blocks.length ≤ d.mend k := wE_le _ _ (Nat.zero_le _)

theorem MDM.out {p : Nat → Prop} {w w' : World} {lo hi : Nat} {l : DL} {d : DD} {k : Nat} {fa ga : Nat → Option Addr} {fc gc : Nat → Nat} (h : MDM w lo hi l d k fa ga fc gc) (K : Kept p w w') (hp : ∀ b, lo ≤ b → b < hi → ¬ p b) : MDM w' lo hi l d k fa ga fc gc := ⟨h.b.out K hp, h.w.out K hp⟩
theorem MDM.grow {w w' : World} {lo hi : Nat} {l : DL} {d : DD} {k : Nat} {fa ga : Nat → Option Addr} {fc gc : Nat → Nat} (h : MDM w lo hi l d k fa ga fc gc) (hb : Below w.heap.size w w') : MDM w' lo hi l d k fa ga fc gc := h.out (Kept.of_below hb (fun _ => False)) (fun _ _ _ e => e)

theorem OwnD.md {w : World} {l : DL} {lo : Nat} {bs xs : Nat → Nat} {d : DD} (h : OwnD w l lo bs xs d) : MD w lo w.heap.size l d (fun i => some ⟨bs i, 0, none⟩) (fun i => some ⟨xs i, 0, none⟩) (fun i => d.blocks[i]!.length) (fun i => d.waiting[i]!.bytes.length) := by
  obtain ⟨⟨N, h1, h2, f, h3, h4⟩, M, h5, h6, ⟨f', h7, h8⟩, h9⟩ := h
  refine ⟨⟨fun _ => ⟨N, _, f, h1, h2, h3.lt, h3, Nat.le_refl _, fun i hi => (h4 i hi).1⟩, fun i hi => ?_, fun i j hij hj => ?_⟩, ⟨fun _ => ⟨M, _, f', h5, h6, h7.lt, h7, Nat.le_refl _, fun i hi => ⟨(h8 i hi).1, (h8 i hi).2.1⟩⟩, fun i hi => ?_, fun i j hij hj => ?_⟩, fun i j hi hj => ?_⟩
  · have h0 := h4 i hi
    exact Or.inr ⟨bs i, _, rfl, by omega, h0.2.1.lt, h0.2.1⟩
  · intro b e1 e2
    have := (h4 j hj).2.2.2 i hij
    have := some_addr e1
    have := some_addr e2
    omega
  · have h0 := h8 i hi
    exact Or.inr ⟨xs i, _, rfl, by omega, h0.2.2.1.lt, h0.2.2.1⟩
  · intro b e1 e2
    have := (h8 j hj).2.2.2.2 i hij
    have := some_addr e1
    have := some_addr e2
    omega
  · intro b e1 e2
    have := h9 i hi
    have := (h8 j hj).2.2.2.1
    have := some_addr e1
    have := some_addr e2
    omega

set_option maxRecDepth 100000 in
theorem markDisk_any (d : DD) (l : DL) (k lo hi : Nat) (fa ga : Nat → Option Addr) (fc gc : Nat → Nat) (w : World) (hs : d.Small) (hk : d.mend k ≤ 1099511627776) (hhi : hi ≤ w.heap.size) (h : MD w lo hi l d fa ga fc gc) :
    Calls Try.prog 33 #[d.val l, .int .i64 k] w fun e w' => e = .returned (.int .i64 (d.mend k : Nat)) ∧ MDM w' lo hi l d k fa ga fc gc ∧ Kept (fun b => lo ≤ b ∧ b < hi) w w' := by
  have hA := gal (gre w) (.cells #[.slice l.ba d.blocks.length l.bc, .slice l.wa d.waiting.length l.wc] 50)
  have hbx := DBox.new w d l 50
  have hM0 := h.grow hA
  obtain ⟨q, hq⟩ := hid_ex (bE (fun i => d.blocks[i]!) k d.blocks.length)
  have hmd : Hid (d.mend k = wE (fun i => d.waiting[i]!.bytes) q d.waiting.length) := by show _ = _; rw [hq.out]; rfl
  have hqk : q ≤ 1099511627776 := by rw [hq.out]; exact Nat.le_trans (d.mend_le k) hk
  go_enter Try.func33, Try.ntmps33
  go_wp2_with (go_at_call 93; refine (markByteSS_any l.ba d.blocks.length l.bc k lo hi (fun i => d.blocks[i]!) fa fc _ hs.bl (fun i hi => hs.bb _ (mem_at hi)) (by rw [← hq.out]; exact hqk) hM0.b).mono ?_; rintro e w1 ⟨rfl, hM1, hK1⟩; rw [← hq.out]; obtain ⟨_, x0, x1⟩ := hbx.kept hK1 (fun hp => by have := hM0.b.tb hp; omega))
  have hW1 := hM0.w.kept hK1 (fun b m f _ hr hp => not_B_of_W (rowIs_isW hr) (hM0.b.tb hp).2.2) (fun b hb hp => by
    obtain ⟨i, hi, _, e1⟩ := hp
    obtain ⟨j, hj, _, e2⟩ := hb
    exact h.far i j hi hj b e1 e2)
  refine (markWriteS_any l.wa d.waiting.length l.wc q lo hi _ (fun i => d.waiting[i]!.bytes) ga gc _ hs.wl (fun i hi => hs.wb _ (mem_at hi)) (by rw [← hmd.out]; exact hk) hW1).mono ?_
  rintro e w2 ⟨rfl, hM2, hK2⟩
  rw [← hmd.out]
  go_wp2
  go_ret
  refine ⟨rfl, ⟨?_, by rw [← hq.out]; exact hM2⟩, ?_⟩
  · refine hM1.kept hK2 (fun b m f hb hr hp => ?_) (fun b hb hp => ?_)
    · rcases hp.2 with e | e
      · obtain ⟨g, m', f', h1, _, _, h4, _⟩ := hW1.row hp.1
        rw [e] at h1
        obtain rfl := some_addr h1
        exact not_W_of_bs hr (rowIs_isW h4)
      · exact not_B_of_bs hr (hW1.tb e).2.2
    · obtain ⟨i, hi, hne, e1⟩ := hb
      rcases hp.2 with e | e
      · obtain ⟨g, m', f', h1, _, _, h4, _⟩ := hW1.row hp.1
        rw [e] at h1
        obtain rfl := some_addr h1
        exact not_B_of_W (rowIs_isW h4) (hM1.tb ⟨i, hi, hne, e1⟩).2.2
      · obtain ⟨j, hj, _, e2⟩ := e
        exact h.far i j hi hj b e1 e2
  · have hk0 : Kept (fun b => lo ≤ b ∧ b < hi) w _ := Kept.of_below hA _
    refine (hk0.trans hK1 (fun b _ hp => ?_)).trans hK2 (fun b _ hp => ?_)
    · have := hM0.b.tb hp
      exact ⟨this.1, this.2.1⟩
    · rcases hp.2 with e | e
      · obtain ⟨g, m', f', h1, h2, h3, _⟩ := hW1.row hp.1
        rw [e] at h1
        obtain rfl := some_addr h1
        exact ⟨h2, h3⟩
      · have := hW1.tb e
        exact ⟨this.1, this.2.1⟩

set_option maxRecDepth 100000 in
theorem heldDisk_any (d : DD) (l : DL) (k lo hi : Nat) (fa ga : Nat → Option Addr) (fc gc : Nat → Nat) (w : World) (hs : d.Small) (hk : d.mend k ≤ 1099511627776) (h : MDM w lo hi l d k fa ga fc gc) :
    Calls Try.prog 34 #[d.val l, .int .i64 k] w fun e w' => e = .returned (.int .i64 (d.mend k : Nat)) ∧ Below w.heap.size w w' := by
  have hA := gal (gre w) (.cells #[.slice l.ba d.blocks.length l.bc, .slice l.wa d.waiting.length l.wc] 50)
  have hbx := DBox.new w d l 50
  have hM0 := h.grow hA
  obtain ⟨q, hq⟩ := hid_ex (bE (fun i => d.blocks[i]!) k d.blocks.length)
  have hmd : Hid (d.mend k = wE (fun i => d.waiting[i]!.bytes) q d.waiting.length) := by show _ = _; rw [hq.out]; rfl
  have hqk : q ≤ 1099511627776 := by rw [hq.out]; exact Nat.le_trans (d.mend_le k) hk
  have hd : ¬ ((q : Int) < 0) := by omega
  have hd2 : ¬ ((d.mend k : Int) < 0) := by omega
  go_enter Try.func34, Try.ntmps34
  go_wp2_with (first
    | (go_at_call 95; refine (heldByteSS_any l.ba d.blocks.length l.bc k lo hi (fun i => d.blocks[i]!) fa fc _ hs.bl (fun i hi => hs.bb _ (mem_at hi)) (by rw [← hq.out]; exact hqk) hM0.b).mono ?_; rintro e w1 ⟨rfl, hb1⟩; rw [← hq.out]; obtain ⟨_, x0, x1⟩ := hbx.grow hb1)
    | (go_at_call 96; refine (heldWriteS_any l.wa d.waiting.length l.wc q lo hi (fun i => d.waiting[i]!.bytes) ga gc _ hs.wl (fun i hi => hs.wb _ (mem_at hi)) (by rw [← hmd.out]; exact hk) (by rw [hq.out]; exact (hM0.grow hb1).w)).mono ?_; rintro e w2 ⟨rfl, hb2⟩; rw [← hmd.out]))
  go_ret
  exact ⟨rfl, gca (gca hA hb1) hb2⟩

end Go.Proofs.Ythjddpkegooobab

/-
  SHEAD2: the specification's HeadOf. Own work.
-/
namespace Go.Proofs.Ythjddpkegooobab
open Go.RowKit

def DD.headOf (d : DD) (b : Int) : HH := if d.ok = true ∧ 0 ≤ b ∧ b < 2 then Go.Proofs.Ythjddpkegooobab.headOf (d.rd b.toNat) else noH

end Go.Proofs.Ythjddpkegooobab
