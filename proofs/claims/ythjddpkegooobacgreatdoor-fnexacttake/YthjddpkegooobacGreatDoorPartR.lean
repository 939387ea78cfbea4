import Derived.Deep.OwnRows
import Derived.Deep.RegionHeld3
import Derived.Deep.QuietTactic
import Derived.BigQuiet
import Derived.ProofKit
import Derived.OpenShut
import Derived.Deep.Slices
import Derived.Test.YthjddpkegooobacGreatDoorPartQ

/-
  DTO: the laws' copies of disks. Own work.
-/
namespace Go.Proofs.YthjddpkegooobacGreatDoor
open Go.RowKit


/-- lists of bytes in a row of their own, the bytes in rows behind it -/
def BlksIn (w : World) (N : Nat) (f : Nat → Value) (bs : Nat → Nat) (ls : List (List Nat)) (k : Nat) : Prop :=
  ∀ i, i < k → f i = .slice (some ⟨bs i, 0, none⟩) ls[i]!.length ls[i]!.length ∧ BRow w (bs i) ls[i]!.length ls[i]! ∧ N < bs i ∧ ∀ j, j < i → bs j < bs i
def OwnBlks (w : World) (N : Nat) (bs : Nat → Nat) (ls : List (List Nat)) : Prop := ∃ f, w.rowIs N 58 ls.length f ∧ BlksIn w N f bs ls ls.length

theorem OwnBlks.below {w w' : World} {N : Nat} {bs : Nat → Nat} {ls : List (List Nat)} (h : OwnBlks w N bs ls) (hb : Below w.heap.size w w') : OwnBlks w' N bs ls := by
  obtain ⟨f, hr, hn⟩ := h
  refine ⟨f, hr.of_block (hb.block _ hr.lt), fun i hi => ?_⟩
  obtain ⟨h0, h1, h2⟩ := hn i hi
  exact ⟨h0, h1.of_block (hb.block _ h1.lt), h2⟩
theorem OwnBlks.set {w : World} {N : Nat} {bs : Nat → Nat} {ls : List (List Nat)} (h : OwnBlks w N bs ls) {p : Addr} (hp : p.block < N) (u : Value) : OwnBlks (w.setCell p u) N bs ls := by
  obtain ⟨f, hr, hn⟩ := h
  refine ⟨f, hr.setOther (by omega) u, fun i hi => ?_⟩
  obtain ⟨h0, h1, h2, h3⟩ := hn i hi
  exact ⟨h0, h1.of_block (Deep.blk_setCell_other _ _ _ _ (by omega)), h2, h3⟩
theorem OwnBlks.lt {w : World} {N : Nat} {bs : Nat → Nat} {ls : List (List Nat)} (h : OwnBlks w N bs ls) : N < w.heap.size := by obtain ⟨f, hr, _⟩ := h; exact hr.lt
theorem OwnBlks.at_ {w : World} {N : Nat} {bs : Nat → Nat} {ls : List (List Nat)} (h : OwnBlks w N bs ls) : BlksAt w (some ⟨N, 0, none⟩) ls := fun i hi => by
  obtain ⟨f, hr, hn⟩ := h
  obtain ⟨h0, h1, _⟩ := hn i hi
  refine ⟨N, 0, some ⟨bs i, 0, none⟩, ls[i]!.length, rfl, ?_, brow_bytes h1⟩
  rw [← h0, Nat.zero_add]; exact hr.cell hi
theorem BlksIn.step {w w' : World} {N : Nat} {f : Nat → Value} {bs : Nat → Nat} {ls : List (List Nat)} {k b : Nat} {l : List Nat} (h : BlksIn w N f bs ls k) (hv : Hid (l = ls[k]!)) (hb : Below w.heap.size w w') (hN : N < w.heap.size)
    (hbb : w.heap.size ≤ b) (hown : BRow w' b l.length l) (u : Value) (o : Nat) :
    BlksIn (w'.setCell ⟨N, o, none⟩ u) N (fun j => if j = k then .slice (some ⟨b, 0, none⟩) l.length l.length else f j) (fun i => if i = k then b else bs i) ls (k + 1) := fun i hi => by
  have e := hv.out
  by_cases hk : i = k
  · subst hk; subst e
    refine ⟨by simp, ?_, by simp; omega, fun j hj => ?_⟩
    · simp only [if_pos]
      exact hown.of_block (Deep.blk_setCell_other _ _ _ _ (by simp; omega))
    · simp only [if_pos, if_neg (show j ≠ i by omega)]
      have := (h j hj).2.1.lt
      omega
  · obtain ⟨h0, h1, h2, h3⟩ := h i (by omega)
    refine ⟨?_, ?_, ?_, fun j hj => ?_⟩ <;> simp only [if_neg hk]
    · exact h0
    · exact (h1.of_block (hb.block _ h1.lt)).of_block (Deep.blk_setCell_other _ _ _ _ (by simp; omega))
    · exact h2
    · rw [if_neg (show j ≠ k by omega)]; exact h3 j hj

theorem toByteSS_any (a : Option Addr) (cap : Nat) (ns : List (List Nat)) (w : World) (hl : ns.length ≤ 1048576) (hv : ∀ n, n ∈ ns → n.length ≤ 1048576) (ha : BlksAt w a ns) :
    Calls Tryz.prog 28 #[.slice a ns.length cap] w fun e w' => ∃ b bs, e = .returned (.slice (some ⟨b, 0, none⟩) ns.length ns.length) ∧ w.heap.size ≤ b ∧ OwnBlks w' b bs ns ∧ Below w.heap.size w w' := by
  obtain ⟨i0, hi, hz0, hz1, hz2⟩ := info_parts info_bytes
  have hmk : ∀ u : World, (Instr.makeSlice 22 (.int .i64 (ns.length : Int)) (.int .i64 (ns.length : Int))).run Tryz.prog u =
      .ok (.slice (some ⟨u.heap.size, 0, none⟩) ns.length ns.length) (u.alloc (.cells (madeCells #[.slice none 0 0] ns.length) 58)) := fun u => by
    have h := run_make (P := Tryz.prog) u 22 58 i0 _ Tryz.underlying22 hi hz0 .i64 .i64 (ns.length : Int) (ns.length : Int) (by omega) (Int.le_refl _) (by rw [hz2]; omega) (by omega)
    simpa [hz1, Value.cells] using h
  go_enter Tryz.func28, Tryz.ntmps28
  go_wp2
  go_loopw [4] (fun i wr => ∃ (k : Nat) (f : Nat → Value) (bs : Nat → Nat), k ≤ ns.length ∧ i = .int .i64 k ∧ wr.rowIs w.heap.size 58 ns.length f ∧ BlksIn wr w.heap.size f bs ns k ∧ Below w.heap.size w wr) (fun i _ => ns.length - (intOf i).toNat)
  case atStart => exact ⟨0, _, fun _ => 0, Nat.zero_le _, rfl, rowIs_made_any _ _ _ _, fun i hi => absurd hi (Nat.not_lt_zero _), (Below.refl _ _).alloc (Nat.le_refl _) _⟩
  case round =>
    obtain ⟨k, f, bs, hk, rfl, hrow, hin, hb⟩ := hrel
    by_cases hlt : k < ns.length
    · obtain ⟨l, b, off, a', cap', hvk, hvm, rfl, c0, hva⟩ := (ha.grow hb).get hlt
      go_wp2_with (go_at_call 58; refine (toByteS_any a' l cap' _ (hv l hvm) hva).mono ?_; rintro e w' ⟨b', rfl, hbb, hown, hb'⟩; have hrow' := hrow.of_block (hb'.block _ hrow.lt); have d0 := hrow'.cell (i := k) (by omega); have f0 := hrow'.frozen)
      go_roundw
      case rel => exact ⟨k + 1, _, _, by omega, by go_num, hrow'.set _ _, hin.step hvk hb' hrow.lt hbb hown _ _, (hb.trans (hb'.mono hb.size)).setCell (Nat.le_refl _) _⟩
      case measure => simp [intOf]; omega
    · go_wp2
      go_ret
      have e : k = ns.length := by omega
      subst e
      exact ⟨_, bs, rfl, Nat.le_refl _, ⟨_, hrow, hin⟩, hb⟩

set_option maxRecDepth 100000 in
theorem toWrite_any (x : DW) (a : Option Addr) (cap : Nat) (w : World) (hl : x.bytes.length ≤ 1048576) (ha : BytesAt w a x.bytes) :
    Calls Tryz.prog 59 #[x.val a cap] w fun e w' => ∃ b, e = .returned (x.val (some ⟨b, 0, none⟩) x.bytes.length) ∧ w.heap.size ≤ b ∧ BRow w' b x.bytes.length x.bytes ∧ Below w.heap.size w w' := by
  go_enter Tryz.func59, Tryz.ntmps59
  go_wp2_with (go_at_call 58; refine (toByteS_any a x.bytes cap _ hl (ha.grow (gal (gal (gal (gre _) _) _) _))).mono ?_; rintro e w' ⟨b, rfl, hbb, hown, hb'⟩; obtain ⟨hc, hf⟩ := bcell hb')
  refine bodyPost_ret (v := x.val (some ⟨b, 0, none⟩) x.bytes.length) (by simp [results, Tryz.results59, go_sem, hc]) rfl ⟨b, rfl, ?_, ?_, ?_⟩
  · simp at hbb; omega
  · simp at hbb
    refine ((hown.of_block (Deep.blk_setCell_other _ _ _ _ (by simp; omega))).of_block (Deep.blk_setCell_other _ _ _ _ (by simp; omega))).of_block (Deep.blk_setCell_other _ _ _ _ (by simp; omega))
  · exact gse (gse (gse (gca (gal (gal (gal (gre _) _) _) _) hb') (by simp; omega) _) (by simp) _) (by simp) _

/-- writes in a row of their own, the bytes in rows behind it -/
def WrsIn (w : World) (N : Nat) (f : Nat → Value) (bs : Nat → Nat) (ns : List DW) (k : Nat) : Prop :=
  ∀ i, i < k → f (i * 2) = .int .i64 ns[i]!.block ∧ f (i * 2 + 1) = .slice (some ⟨bs i, 0, none⟩) ns[i]!.bytes.length ns[i]!.bytes.length ∧ BRow w (bs i) ns[i]!.bytes.length ns[i]!.bytes ∧ N < bs i ∧ ∀ j, j < i → bs j < bs i
def OwnWrs (w : World) (N : Nat) (bs : Nat → Nat) (ns : List DW) : Prop := ∃ f, w.rowIs N 102 (ns.length * 2) f ∧ WrsIn w N f bs ns ns.length

theorem OwnWrs.at_ {w : World} {N : Nat} {bs : Nat → Nat} {ns : List DW} (h : OwnWrs w N bs ns) : WrsAt w (some ⟨N, 0, none⟩) ns := fun i hi => by
  obtain ⟨f, hr, hn⟩ := h
  obtain ⟨h0, h1, h2, _⟩ := hn i hi
  refine ⟨N, 0, some ⟨bs i, 0, none⟩, ns[i]!.bytes.length, rfl, ?_, ?_, brow_bytes h2⟩
  · rw [← h0, Nat.zero_add]; exact hr.cell (by omega)
  · rw [← h1, Nat.zero_add]; exact hr.cell (by omega)
theorem OwnWrs.below {w w' : World} {N : Nat} {bs : Nat → Nat} {ns : List DW} (h : OwnWrs w N bs ns) (hb : Below w.heap.size w w') : OwnWrs w' N bs ns := by
  obtain ⟨f, hr, hn⟩ := h
  refine ⟨f, hr.of_block (hb.block _ hr.lt), fun i hi => ?_⟩
  obtain ⟨h0, h1, h2, h3⟩ := hn i hi
  exact ⟨h0, h1, h2.of_block (hb.block _ h2.lt), h3⟩
theorem OwnWrs.set {w : World} {N : Nat} {bs : Nat → Nat} {ns : List DW} (h : OwnWrs w N bs ns) {p : Addr} (hp : p.block < N) (u : Value) : OwnWrs (w.setCell p u) N bs ns := by
  obtain ⟨f, hr, hn⟩ := h
  refine ⟨f, hr.setOther (by omega) u, fun i hi => ?_⟩
  obtain ⟨h0, h1, h2, h3, h4⟩ := hn i hi
  exact ⟨h0, h1, h2.of_block (Deep.blk_setCell_other _ _ _ _ (by omega)), h3, h4⟩
theorem OwnWrs.lt {w : World} {N : Nat} {bs : Nat → Nat} {ls : List DW} (h : OwnWrs w N bs ls) : N < w.heap.size := by obtain ⟨f, hr, _⟩ := h; exact hr.lt
theorem WrsIn.step {w w' : World} {N : Nat} {f : Nat → Value} {bs : Nat → Nat} {ns : List DW} {k b : Nat} {n : DW} (h : WrsIn w N f bs ns k) (hv : Hid (n = ns[k]!)) (hb : Below w.heap.size w w') (hN : N < w.heap.size)
    (hbb : w.heap.size ≤ b) (hown : BRow w' b n.bytes.length n.bytes) (u u' : Value) (o o' : Nat) :
    WrsIn ((w'.setCell ⟨N, o, none⟩ u).setCell ⟨N, o', none⟩ u') N
      (fun j => if j = k * 2 + 1 then .slice (some ⟨b, 0, none⟩) n.bytes.length n.bytes.length else if j = k * 2 then .int .i64 n.block else f j) (fun i => if i = k then b else bs i) ns (k + 1) := fun i hi => by
  have e := hv.out
  by_cases hk : i = k
  · subst hk; subst e
    refine ⟨by simp, by simp, ?_, by simp; omega, fun j hj => ?_⟩
    · simp only [if_pos]
      exact (hown.of_block (Deep.blk_setCell_other _ _ _ _ (by simp; omega))).of_block (Deep.blk_setCell_other _ _ _ _ (by simp; omega))
    · simp only [if_pos, if_neg (show j ≠ i by omega)]
      have := (h j hj).2.2.1.lt
      omega
  · obtain ⟨h0, h1, h2, h3, h4⟩ := h i (by omega)
    refine ⟨?_, ?_, ?_, ?_, fun j hj => ?_⟩ <;> simp only [if_neg hk]
    · rw [if_neg (by omega), if_neg (by omega)]; exact h0
    · rw [if_neg (by omega), if_neg (by omega)]; exact h1
    · exact ((h2.of_block (hb.block _ h2.lt)).of_block (Deep.blk_setCell_other _ _ _ _ (by simp; omega))).of_block (Deep.blk_setCell_other _ _ _ _ (by simp; omega))
    · exact h3
    · rw [if_neg (show j ≠ k by omega)]; exact h4 j hj

set_option maxRecDepth 100000 in
theorem toWriteS_any (a : Option Addr) (cap : Nat) (ns : List DW) (w : World) (hl : ns.length ≤ 1048576) (hv : ∀ n, n ∈ ns → n.bytes.length ≤ 1048576) (ha : WrsAt w a ns) :
    Calls Tryz.prog 29 #[.slice a ns.length cap] w fun e w' => ∃ b bs, e = .returned (.slice (some ⟨b, 0, none⟩) ns.length ns.length) ∧ w.heap.size ≤ b ∧ OwnWrs w' b bs ns ∧ Below w.heap.size w w' := by
  obtain ⟨i0, hi, hz0, hz1, hz2⟩ := info_parts info_implWrite
  have hmk : ∀ u : World, (Instr.makeSlice 35 (.int .i64 (ns.length : Int)) (.int .i64 (ns.length : Int))).run Tryz.prog u =
      .ok (.slice (some ⟨u.heap.size, 0, none⟩) ns.length ns.length) (u.alloc (.cells (madeCells #[.int .i64 0, .slice none 0 0] (ns.length * 2)) 102)) := fun u => by
    have h := run_make (P := Tryz.prog) u 35 102 i0 _ Tryz.underlying35 hi hz0 .i64 .i64 (ns.length : Int) (ns.length : Int) (by omega) (Int.le_refl _) (by rw [hz2]; omega) (by omega)
    simpa [hz1, Value.cells] using h
  go_enter Tryz.func29, Tryz.ntmps29
  go_wp2
  go_loopw [4] (fun i wr => ∃ (k : Nat) (f : Nat → Value) (bs : Nat → Nat), k ≤ ns.length ∧ i = .int .i64 k ∧ wr.rowIs w.heap.size 102 (ns.length * 2) f ∧ WrsIn wr w.heap.size f bs ns k ∧ Below w.heap.size w wr) (fun i _ => ns.length - (intOf i).toNat)
  case atStart => exact ⟨0, _, fun _ => 0, Nat.zero_le _, rfl, rowIs_made_any _ _ _ _, fun i hi => absurd hi (Nat.not_lt_zero _), (Below.refl _ _).alloc (Nat.le_refl _) _⟩
  case round =>
    obtain ⟨k, f, bs, hk, rfl, hrow, hin, hb⟩ := hrel
    by_cases hlt : k < ns.length
    · obtain ⟨n, b, off, a', cap', hvk, hvm, rfl, c0, c1, hva⟩ := (ha.grow hb).get hlt
      go_wp2_with (go_at_call 59; refine (toWrite_any n a' cap' _ (hv n hvm) hva).mono ?_; rintro e w' ⟨b', rfl, hbb, hown, hb'⟩; have hrow' := hrow.of_block (hb'.block _ hrow.lt); have d0 := hrow'.cell (i := k * 2) (by omega); have d1 := hrow'.cell (i := k * 2 + 1) (by omega); have f0 := hrow'.frozen)
      go_roundw
      case rel => exact ⟨k + 1, _, _, by omega, by go_num, (hrow'.set _ _).set _ _, hin.step hvk hb' hrow.lt hbb hown _ _ _ _, ((hb.trans (hb'.mono hb.size)).setCell (Nat.le_refl _) _).setCell (Nat.le_refl _) _⟩
      case measure => simp [intOf]; omega
    · go_wp2
      go_ret
      have e : k = ns.length := by omega
      subst e
      exact ⟨_, bs, rfl, Nat.le_refl _, ⟨_, hrow, hin⟩, hb⟩

/-- a copy in memory of its own -/
structure OwnD (w : World) (l : DL) (lo : Nat) (bs xs : Nat → Nat) (d : DD) : Prop where
  blk : ∃ N, l.ba = some ⟨N, 0, none⟩ ∧ lo ≤ N ∧ OwnBlks w N bs d.blocks
  wrt : ∃ M, l.wa = some ⟨M, 0, none⟩ ∧ lo ≤ M ∧ OwnWrs w M xs d.waiting ∧ ∀ i, i < d.blocks.length → bs i < M
theorem OwnD.below {w w' : World} {l : DL} {lo : Nat} {bs xs : Nat → Nat} {d : DD} (h : OwnD w l lo bs xs d) (hb : Below w.heap.size w w') : OwnD w' l lo bs xs d := by
  obtain ⟨⟨N, h1, h2, h3⟩, M, h4, h5, h6, h7⟩ := h
  exact ⟨⟨N, h1, h2, h3.below hb⟩, M, h4, h5, h6.below hb, h7⟩
theorem OwnD.at_ {w : World} {l : DL} {lo : Nat} {bs xs : Nat → Nat} {d : DD} (h : OwnD w l lo bs xs d) : DAt w l d := by
  obtain ⟨⟨N, h1, h2, h3⟩, M, h4, h5, h6, h7⟩ := h
  exact ⟨by rw [h1]; exact h3.at_, by rw [h4]; exact h6.at_⟩

set_option maxRecDepth 100000 in
theorem toDisk_any (d : DD) (l : DL) (w : World) (hs : d.Small) (ha : DAt w l d) :
    Calls Tryz.prog 7 #[d.val l] w fun e w' => ∃ l' bs xs, e = .returned (d.val l') ∧ OwnD w' l' w.heap.size bs xs d ∧ Below w.heap.size w w' := by
  go_enter Tryz.func7, Tryz.ntmps7
  go_wp2_with (go_at_call 28; refine (toByteSS_any l.ba l.bc d.blocks _ hs.bl hs.bb (ha.b.grow (gal (gal (gal (gre _) _) _) _))).mono ?_; rintro e w' ⟨b1, bs1, rfl, hbb1, hown1, hb'⟩; obtain ⟨hc, hf⟩ := bcell hb')
  have hz : w.heap.size + 1 + 1 < w'.heap.size := by have := hb'.size; simp at this; omega
  have hz1 : w.heap.size + 1 < w'.heap.size := by omega
  have hz0 : w.heap.size < w'.heap.size := by omega
  have hB : Below w.heap.size w w' := gca (gal (gal (gal (gre _) _) _) _) hb'
  have hbb' : w.heap.size + 3 ≤ b1 := by simpa using hbb1
  clear hbb1
  refine (toWriteS_any l.wa l.wc d.waiting _ hs.wl hs.wb (ha.w.grow (gse hB (by simp; omega) _))).mono ?_
  rintro e w'' ⟨b2, bs2, rfl, hbb2, hown2, hb''⟩
  obtain ⟨hc2, hf2⟩ := bcell hb''
  have hB2 : Below w.heap.size w w'' := gca (gse hB (by simp; omega) _) hb''
  have hbb3 : w'.heap.size ≤ b2 := by simpa [World.setCell] using hbb2
  clear hbb2
  have hown1' := (hown1.set (p := ⟨w.heap.size + 1 + 1, 0, none⟩) (by simp; omega) (.slice (some ⟨b1, 0, none⟩) d.blocks.length d.blocks.length)).below hb''
  go_wp2
  refine bodyPost_ret (v := d.val ⟨some ⟨b1, 0, none⟩, d.blocks.length, some ⟨b2, 0, none⟩, d.waiting.length⟩) (by simp [results, Tryz.results7, go_sem, hc, hc2, hz1]) rfl ⟨⟨some ⟨b1, 0, none⟩, d.blocks.length, some ⟨b2, 0, none⟩, d.waiting.length⟩, bs1, bs2, rfl, ⟨⟨b1, rfl, by omega, ?_⟩, b2, rfl, by omega, ?_, fun i hi => ?_⟩, ?_⟩
  · exact ((hown1'.set (by simp; omega) _).set (by simp; omega) _).set (by simp; omega) _
  · exact ((hown2.set (by simp; omega) _).set (by simp; omega) _).set (by simp; omega) _
  · obtain ⟨f, _, hn⟩ := hown1
    have := (hn i hi).2.1.lt
    omega
  · exact gse (gse (gse hB2 (by simp; omega) _) (by simp) _) (by simp) _

end Go.Proofs.YthjddpkegooobacGreatDoor

/-
  DEQ: the laws' comparisons of disks, where both are the same. Own work.
-/
namespace Go.Proofs.YthjddpkegooobacGreatDoor
open Go.RowKit

set_option maxRecDepth 100000 in
theorem eqByteSS_same (a a' : Option Addr) (cap cap' : Nat) (ns : List (List Nat)) (w : World) (hl : ns.length ≤ maxLen) (hv : ∀ n, n ∈ ns → n.length ≤ maxLen) (ha : BlksAt w a ns) (ha' : BlksAt w a' ns) :
    Calls Tryz.prog 33 #[.slice a ns.length cap, .slice a' ns.length cap'] w fun e w' => e = .returned (.bool true) ∧ Below w.heap.size w w' := by
  unfold maxLen at hl
  have hne : ((ns.length : Int) != (ns.length : Int)) = false := by simp
  go_enter Tryz.func33, Tryz.ntmps33
  go_wp2
  go_loopw [5] (fun i wr => ∃ k : Nat, k ≤ ns.length ∧ i = .int .i64 k ∧ Below w.heap.size w wr) (fun i _ => ns.length - (intOf i).toNat)
  case atStart => exact ⟨0, Nat.zero_le _, rfl, Below.refl _ _⟩
  case round =>
    obtain ⟨k, hk, rfl, hb⟩ := hrel
    by_cases hlt : k < ns.length
    · obtain ⟨n, b, off, av, cv, hvk, hvm, rfl, c0, hva⟩ := (ha.grow hb).get hlt
      obtain ⟨n', b', off', av', cv', hvk', hvm', rfl, d0, hva'⟩ := (ha'.grow hb).get hlt
      have e : n' = n := by rw [hvk.out, hvk'.out]
      subst e
      have i0 : (0 : Int) ≤ (k : Int) := by omega
      have i1 : (k : Int) < (ns.length : Int) := by omega
      have hvl := hv n' hvm
      have hv1 : BytesAt wr.drew av n' := hva.grow (gdr (gre _))
      have hv2 : BytesAt wr.drew av' n' := hva'.grow (gdr (gre _))
      clear ha ha' hvk hvk' hva hva'
      go_wp2
      go_region_held3 (fun w' => w'.cell? ⟨b, off + k, none⟩ = some (.slice av n'.length cv) ∧ w'.cell? ⟨b', off' + k, none⟩ = some (.slice av' n'.length cv')) (first | go_keep | (go_split_ands; refine ⟨?_, ?_⟩ <;> exact cell_later hb' (by assumption))) ((go_at_call 66; refine (eqByteS_same av av' n' cv cv' _ hvl hv1 hv2).mono ?_; rintro e w' ⟨rfl, hb'⟩))
      go_wp2
      go_roundw
      case rel => exact ⟨k + 1, by omega, by go_num, gca (gdr hb) hb'⟩
      case measure => simp [intOf]; omega
    · go_wp2
      go_ret
      exact ⟨rfl, hb⟩

set_option maxRecDepth 100000 in
theorem eqWrite_same (x : DW) (a a' : Option Addr) (cap cap' : Nat) (w : World) (hl : x.bytes.length ≤ maxLen) (ha : BytesAt w a x.bytes) (ha' : BytesAt w a' x.bytes) :
    Calls Tryz.prog 67 #[x.val a cap, x.val a' cap'] w fun e w' => e = .returned (.bool true) ∧ Below w.heap.size w w' := by
  have hne : ((x.block : Int) != (x.block : Int)) = false := by simp
  go_enter Tryz.func67, Tryz.ntmps67
  go_wp2_with (go_at_call 66; refine (eqByteS_same a a' x.bytes cap cap' _ hl (ha.grow (gal (gal (gre _) _) _)) (ha'.grow (gal (gal (gre _) _) _))).mono ?_; rintro e w' ⟨rfl, hb'⟩)
  go_ret
  exact ⟨rfl, gca (gal (gal (gre _) _) _) hb'⟩

set_option maxRecDepth 100000 in
theorem eqWriteS_same (a a' : Option Addr) (cap cap' : Nat) (ns : List DW) (w : World) (hl : ns.length ≤ maxLen) (hv : ∀ n, n ∈ ns → n.bytes.length ≤ maxLen) (ha : WrsAt w a ns) (ha' : WrsAt w a' ns) :
    Calls Tryz.prog 34 #[.slice a ns.length cap, .slice a' ns.length cap'] w fun e w' => e = .returned (.bool true) ∧ Below w.heap.size w w' := by
  unfold maxLen at hl
  have hne : ((ns.length : Int) != (ns.length : Int)) = false := by simp
  go_enter Tryz.func34, Tryz.ntmps34
  go_wp2
  go_loopw [5] (fun i wr => ∃ k : Nat, k ≤ ns.length ∧ i = .int .i64 k ∧ Below w.heap.size w wr) (fun i _ => ns.length - (intOf i).toNat)
  case atStart => exact ⟨0, Nat.zero_le _, rfl, Below.refl _ _⟩
  case round =>
    obtain ⟨k, hk, rfl, hb⟩ := hrel
    by_cases hlt : k < ns.length
    · obtain ⟨n, b, off, av, cv, hvk, hvm, rfl, c0, c1, hva⟩ := (ha.grow hb).get hlt
      obtain ⟨n', b', off', av', cv', hvk', hvm', rfl, d0, d1, hva'⟩ := (ha'.grow hb).get hlt
      have e : n' = n := by rw [hvk.out, hvk'.out]
      subst e
      have i0 : (0 : Int) ≤ (k : Int) := by omega
      have i1 : (k : Int) < (ns.length : Int) := by omega
      have hvl := hv n' hvm
      have hv1 : BytesAt wr.drew av n'.bytes := hva.grow (gdr (gre _))
      have hv2 : BytesAt wr.drew av' n'.bytes := hva'.grow (gdr (gre _))
      clear ha ha' hvk hvk' hva hva'
      go_wp2
      go_region_held3 (fun w' => w'.cell? ⟨b, off + k * 2, none⟩ = some (.int .i64 n'.block) ∧ w'.cell? ⟨b, off + k * 2 + 1, none⟩ = some (.slice av n'.bytes.length cv) ∧ w'.cell? ⟨b', off' + k * 2, none⟩ = some (.int .i64 n'.block) ∧ w'.cell? ⟨b', off' + k * 2 + 1, none⟩ = some (.slice av' n'.bytes.length cv')) (first | go_keep | (go_split_ands; refine ⟨?_, ?_, ?_, ?_⟩ <;> exact cell_later hb' (by assumption))) ((go_at_call 67; refine (eqWrite_same n' av av' cv cv' _ hvl hv1 hv2).mono ?_; rintro e w' ⟨rfl, hb'⟩))
      go_wp2
      go_roundw
      case rel => exact ⟨k + 1, by omega, by go_num, gca (gdr hb) hb'⟩
      case measure => simp [intOf]; omega
    · go_wp2
      go_ret
      exact ⟨rfl, hb⟩

set_option maxRecDepth 100000 in
theorem eqDisk_same (d : DD) (l l' : DL) (w : World) (hd : d.Ok) (ha : DAt w l d) (ha' : DAt w l' d) :
    Calls Tryz.prog 10 #[d.val l, d.val l'] w fun e w' => e = .returned (.bool true) ∧ Below w.heap.size w w' := by
  have hA := gal (gal (gre w) (.cells #[.slice l.ba d.blocks.length l.bc, .slice l.wa d.waiting.length l.wc] 37)) (.cells #[.slice l'.ba d.blocks.length l'.bc, .slice l'.wa d.waiting.length l'.wc] 37)
  go_enter Tryz.func10, Tryz.ntmps10
  go_wp2_with (first
    | (go_at_call 33; refine (eqByteSS_same l.ba l'.ba l.bc l'.bc d.blocks _ hd.bl (fun n hn => (hd.bb n hn).len) (ha.b.grow hA) (ha'.b.grow hA)).mono ?_; rintro e w' ⟨rfl, hb'⟩; obtain ⟨hc, hf⟩ := bcell hb')
    | (go_at_call 34; refine (eqWriteS_same l.wa l'.wa l.wc l'.wc d.waiting _ hd.wl (fun n hn => (hd.wb n hn).len) (ha.w.grow (gca hA hb')) (ha'.w.grow (gca hA hb'))).mono ?_; rintro e w'' ⟨rfl, hb''⟩))
  go_ret
  exact ⟨rfl, gca (gca hA hb') hb''⟩

end Go.Proofs.YthjddpkegooobacGreatDoor

/-
  BYTES: the laws' bytes, marked. Own work.
-/
namespace Go.Proofs.YthjddpkegooobacGreatDoor
open Go.RowKit

def marksB (k n : Nat) : List Nat := (List.range n).map fun j => (k + j) % 256
set_option maxRecDepth 100000 in
theorem marksB_length (k n : Nat) : (marksB k n).length = n := by simp [marksB]
theorem marksB_get {k n i : Nat} (h : i < n) : (marksB k n)[i]! = (k + i) % 256 := by
  rw [getElem!_pos _ i (by rw [marksB_length]; exact h)]
  simp [marksB]

set_option maxRecDepth 100000 in
theorem markByteS_any (oa : Option Addr) (bs : List Nat) (cap k lo : Nat) (w : World) (hl : bs.length ≤ 1048576) (hk : k ≤ 1099511627776) (hM : MB w lo oa bs) :
    Calls Tryz.prog 68 #[.slice oa bs.length cap, .int .i64 k] w fun e w' => e = .returned (.int .i64 ((k + bs.length : Nat) : Int)) ∧ MB w' lo oa (marksB k bs.length) ∧ Kept (fun b => lo ≤ b ∧ oa = some ⟨b, 0, none⟩) w w' := by
  rcases hM with rfl | ⟨G, n, rfl, hG, hB⟩
  · go_enter Tryz.func68, Tryz.ntmps68
    go_wp2
    go_loopw [1, 5] (fun c i wr => c = .int .i64 k ∧ i = .int .i64 0 ∧ wr = w) (fun _ _ _ => 0)
    case atStart => exact ⟨rfl, rfl, rfl⟩
    case round =>
      obtain ⟨rfl, rfl, rfl⟩ := hrel
      go_wp2
      go_ret
      exact ⟨rfl, Or.inl rfl, Kept.refl _ _⟩
  · obtain ⟨f0, hr0, _⟩ := hB.row
    have hln : bs.length ≤ n := by obtain ⟨c, _, _, hl, _⟩ := hB; exact hl
    go_enter Tryz.func68, Tryz.ntmps68
    go_wp2
    go_loopw [1, 5] (fun c i wr => ∃ (m : Nat) (f : Nat → Value), m ≤ bs.length ∧ c = .int .i64 ((k + m : Nat) : Int) ∧ i = .int .i64 m ∧ wr.rowIs G 5 n f ∧ (∀ j, j < m → f j = .int .u8 (((k + j) % 256 : Nat) : Int)) ∧ Kept (fun b => b = G) w wr) (fun _ i _ => bs.length - (intOf i).toNat)
    case atStart => exact ⟨0, f0, Nat.zero_le _, rfl, rfl, hr0, fun j hj => absurd hj (Nat.not_lt_zero _), Kept.refl _ _⟩
    case round =>
      obtain ⟨m, f, hm, rfl, rfl, hrow, hin, hK⟩ := hrel
      obtain ⟨q, hq⟩ := hid_ex (k + m)
      rw [← hq.out]
      have hq1 : q ≤ 2199023255552 := by rw [hq.out]; omega
      by_cases hlt : m < bs.length
      · have d0 := hrow.cell (i := m) (by omega)
        have fz := hrow.frozen
        obtain ⟨x, hx⟩ := hid_ex (q % 256)
        have e2 : IntKind.u8.wrap (q : Int) = (x : Int) := by rw [hx.out, IntKind.wrap_u8']; omega
        go_wp2
        go_roundw
        case rel =>
          refine ⟨m + 1, _, by omega, ?_, by go_num, hrow.set _ _, fun j hj => ?_, hK.set (fun _ => rfl) _⟩
          · have : q + 1 = k + (m + 1) := by rw [hq.out]; omega
            rw [← this]; go_num
          · show (if j = m then _ else _) = _
            split
            · rename_i e; rw [e, hx.out, hq.out]
            · exact hin j (by omega)
        case measure => simp [intOf]; omega
      · obtain rfl : m = bs.length := by omega
        go_wp2
        go_ret
        refine ⟨by rw [← hq.out]; rfl, Or.inr ⟨G, n, rfl, hG, BRow.of_row hrow (by rw [marksB_length]; exact hln) (fun i hi => ?_)⟩, hK.mono (fun b _ e => by subst e; exact ⟨hG, rfl⟩)⟩
        rw [marksB_length] at hi
        rw [marksB_get hi]; exact hin i hi

end Go.Proofs.YthjddpkegooobacGreatDoor

/-
  DMARK: disks that may be marked, and their marks. Own work.
-/
namespace Go.Proofs.YthjddpkegooobacGreatDoor
open Go.RowKit

/-- where the marks end -/
def bE (F : Nat → List Nat) (k : Nat) : Nat → Nat
  | 0 => k
  | j + 1 => bE F k j + (F j).length
def wE (F : Nat → List Nat) (k : Nat) : Nat → Nat
  | 0 => k
  | j + 1 => wE F k j + 1 + (F j).length
def bM (F : Nat → List Nat) (k i : Nat) : List Nat := marksB (bE F k i) (F i).length
def wM (F : Nat → List Nat) (k i : Nat) : List Nat := marksB (wE F k i + 1) (F i).length
theorem bE_le (F : Nat → List Nat) (k : Nat) : ∀ {i j : Nat}, i ≤ j → bE F k i ≤ bE F k j
  | i, 0, h => by obtain rfl : i = 0 := by omega
                  exact Nat.le_refl _
  | i, j + 1, h => by
    by_cases e : i = j + 1
    · subst e; exact Nat.le_refl _
    · have := bE_le F k (show i ≤ j by omega)
      simp only [bE]; omega
theorem wE_le (F : Nat → List Nat) (k : Nat) : ∀ {i j : Nat}, i ≤ j → wE F k i ≤ wE F k j
  | i, 0, h => by obtain rfl : i = 0 := by omega
                  exact Nat.le_refl _
  | i, j + 1, h => by
    by_cases e : i = j + 1
    · subst e; exact Nat.le_refl _
    · have := wE_le F k (show i ≤ j by omega)
      simp only [wE]; omega
theorem bE_sz (ls : List (List Nat)) (k : Nat) : ∀ j, j ≤ ls.length → (bE (fun i => ls[i]!) k j : Int) = k + szBs (ls.take j)
  | 0, _ => by simp [bE, szBs]
  | j + 1, h => by
    have ih := bE_sz ls k j (by omega)
    rw [szBs_take_succ ls j (by omega)]
    simp only [bE]
    omega
theorem wE_sz (ls : List DW) (k : Nat) : ∀ j, j ≤ ls.length → (wE (fun i => ls[i]!.bytes) k j : Int) = k + j + szWs (ls.take j)
  | 0, _ => by simp [wE, szWs]
  | j + 1, h => by
    have ih := wE_sz ls k j (by omega)
    rw [szWs_take_succ ls j (by omega)]
    simp only [wE]
    omega

set_option maxRecDepth 100000 in
theorem markByteS_none (oa : Option Addr) (cap k : Nat) (w : World) :
    Calls Tryz.prog 68 #[.slice oa 0 cap, .int .i64 k] w fun e w' => e = .returned (.int .i64 k) ∧ w' = w := by
  go_enter Tryz.func68, Tryz.ntmps68
  go_wp2
  go_loopw [1, 5] (fun c i wr => c = .int .i64 k ∧ i = .int .i64 0 ∧ wr = w) (fun _ _ _ => 0)
  case atStart => exact ⟨rfl, rfl, rfl⟩
  case round =>
    obtain ⟨rfl, rfl, rfl⟩ := hrel
    go_wp2
    go_ret
    exact ⟨rfl, rfl⟩

set_option maxRecDepth 100000 in
theorem markBytes_any (oa : Option Addr) (bs : List Nat) (cap k lo hi : Nat) (w : World) (hl : bs.length ≤ 1048576) (hk : k ≤ 1099511627776) (hM : BB w lo hi oa bs) :
    Calls Tryz.prog 68 #[.slice oa bs.length cap, .int .i64 k] w fun e w' => e = .returned (.int .i64 ((k + bs.length : Nat) : Int)) ∧ BB w' lo hi oa (marksB k bs.length) ∧ Kept (fun b => bs ≠ [] ∧ oa = some ⟨b, 0, none⟩) w w' := by
  by_cases e0 : bs = []
  · subst e0
    refine (markByteS_none oa cap k w).mono ?_
    rintro e w' ⟨rfl, h2⟩
    exact ⟨rfl, Or.inl (by simp [marksB]), by rw [h2]; exact Kept.refl _ _⟩
  · rcases hM with h | ⟨G, n, rfl, hG, hGh, hB⟩
    · exact absurd h e0
    · refine (markByteS_any _ bs cap k lo w hl hk (Or.inr ⟨G, n, rfl, hG, hB⟩)).mono ?_
      rintro e w' ⟨rfl, h1, h2⟩
      refine ⟨rfl, ?_, h2.mono (fun b _ h => ⟨e0, h.2⟩)⟩
      rcases h1 with h1 | ⟨G', n', h3, h4, h5⟩
      · exact Or.inl h1
      · have := some_addr h3
        subst this
        exact Or.inr ⟨G, n', rfl, hG, hGh, h5⟩

/-- one list of bytes, marked -/
theorem MBs.step {w w' : World} {lo hi : Nat} {a : Option Addr} {n : Nat} {F : Nat → List Nat} {fa : Nat → Option Addr} {fc : Nat → Nat} (h : MBs w lo hi a n F fa fc) {j : Nat} (hj : j < n) {ys : List Nat} (hy : ys.length = (F j).length) (hB : BB w' lo hi (fa j) ys) (hK : Kept (fun b => F j ≠ [] ∧ fa j = some ⟨b, 0, none⟩) w w') :
    MBs w' lo hi a n (fun i => if i = j then ys else F i) fa fc := by
  have hp : ∀ b, F j ≠ [] ∧ fa j = some ⟨b, 0, none⟩ → IsB w b := fun b hb => (h.tb ⟨j, hj, hb.1, hb.2⟩).2.2
  refine ⟨fun h0 => ?_, fun i hi => ?_, h.far⟩
  · obtain ⟨g, m, f, h1, h2, h3, h4, h5, h6⟩ := h.row h0
    refine ⟨g, m, f, h1, h2, h3, hK.rowIs h4 (fun hb => not_B_of_bs h4 (hp g hb)), h5, fun i hi => ?_⟩
    show f i = .slice (fa i) (if i = j then ys else F i).length (fc i)
    split
    · rename_i e; subst e; rw [hy]; exact h6 i hi
    · exact h6 i hi
  · show BB w' lo _ (fa i) (if i = j then ys else F i)
    split
    · rename_i e; subst e; exact hB
    · rename_i e
      exact (h.byt i hi).kept hK (fun b hb _ hq => h.ne hi hj e b hb hq.2)

set_option maxRecDepth 100000 in
theorem markByteSS_any (a : Option Addr) (n cap k lo hi : Nat) (F : Nat → List Nat) (fa : Nat → Option Addr) (fc : Nat → Nat) (w : World) (hn : n ≤ 1048576) (hl : ∀ i, i < n → (F i).length ≤ 1048576) (hk : bE F k n ≤ 1099511627776) (h : MBs w lo hi a n F fa fc) :
    Calls Tryz.prog 35 #[.slice a n cap, .int .i64 k] w fun e w' => e = .returned (.int .i64 (bE F k n : Nat)) ∧ MBs w' lo hi a n (bM F k) fa fc ∧ Kept (TB n F fa) w w' := by
  go_enter Tryz.func35, Tryz.ntmps35
  go_wp2
  go_loopw [1, 5] (fun c i wr => ∃ (j q : Nat) (G : Nat → List Nat), j ≤ n ∧ Hid (q = bE F k j) ∧ c = .int .i64 (q : Int) ∧ i = .int .i64 (j : Int) ∧ MBs wr lo hi a n G fa fc ∧ (∀ i, i < j → G i = bM F k i) ∧ (∀ i, j ≤ i → G i = F i) ∧ Kept (TB n F fa) w wr) (fun _ i _ => n - (intOf i).toNat)
  case atStart => exact ⟨0, k, F, Nat.zero_le _, rfl, rfl, rfl, h, fun i hi => absurd hi (Nat.not_lt_zero _), fun _ _ => rfl, Kept.refl _ _⟩
  case round =>
    obtain ⟨j, q, G, hj, hq, rfl, rfl, hM, hG1, hG2, hK⟩ := hrel
    have hqle : q ≤ 1099511627776 := by have := bE_le F k hj; have := hq.out; omega
    by_cases hlt : j < n
    · obtain ⟨g, m, f, rfl, h2, h3, h4, h5, h6⟩ := hM.row (by omega)
      have c0 := h4.cell (i := j) (by omega)
      rw [h6 j hlt, hG2 j (Nat.le_refl _)] at c0
      have i0 : (0 : Int) ≤ (j : Int) := by omega
      have i1 : (j : Int) < (n : Int) := by omega
      have hBj := hM.byt j hlt
      rw [hG2 j (Nat.le_refl _)] at hBj
      have hlj := hl j hlt
      obtain ⟨ys, hys⟩ := hid_ex (F j)
      rw [← hys.out] at c0 hBj hlj
      go_wp2_with (go_at_call 68; refine (markBytes_any (fa j) ys (fc j) q lo hi _ hlj hqle hBj).mono ?_; rintro e w2 ⟨rfl, hB2, hK2⟩)
      go_roundw
      case rel =>
        have e1 : G j = F j := hG2 j (Nat.le_refl _)
        have hb1 : marksB q ys.length = bM F k j := by rw [hys.out, hq.out]; rfl
        refine ⟨j + 1, q + ys.length, _, by omega, by show _ = _; rw [hq.out, hys.out]; rfl, by go_num, by go_num, hM.step hlt (ys := marksB q ys.length) (by rw [marksB_length, e1, hys.out]) hB2 (hK2.mono (fun b _ hb => by rw [e1, ← hys.out]; exact hb)), fun i hi => ?_, fun i hi => ?_, hK.trans hK2 (fun b _ hb => ⟨j, hlt, by rw [← hys.out]; exact hb.1, hb.2⟩)⟩
        · show (if i = j then _ else _) = _
          split
          · rename_i e; rw [e]; exact hb1
          · exact hG1 i (by omega)
        · show (if i = j then _ else _) = _
          rw [if_neg (by omega)]; exact hG2 i (by omega)
      case measure => simp [intOf]; omega
    · obtain rfl : j = n := by omega
      go_wp2
      go_ret
      exact ⟨by rw [hq.out]; rfl, hM.congr (fun i hi => (hG1 i hi).symm), hK⟩

end Go.Proofs.YthjddpkegooobacGreatDoor

/-
  DMARK2: marks in writes and disks. Own work.
-/
namespace Go.Proofs.YthjddpkegooobacGreatDoor
open Go.RowKit

/-- one write, marked -/
theorem MWs.step {w w' : World} {lo hi : Nat} {a : Option Addr} {n : Nat} {B : Nat → Int} {F : Nat → List Nat} {fa : Nat → Option Addr} {fc : Nat → Nat} (h : MWs w lo hi a n B F fa fc) {j : Nat} (hj : j < n) {g : Nat} (hg : a = some ⟨g, 0, none⟩) (k : Int) {ys : List Nat} (hy : ys.length = (F j).length) (hB : BB w' lo hi (fa j) ys) (hK : Kept (fun b => F j ≠ [] ∧ fa j = some ⟨b, 0, none⟩) (w.setCell ⟨g, j * 2, none⟩ (.int .i64 k)) w') :
    MWs w' lo hi a n (fun i => if i = j then k else B i) (fun i => if i = j then ys else F i) fa fc := by
  obtain ⟨g', m, f, h1, h2, h3, h4, h5, h6⟩ := h.row (by omega)
  rw [hg] at h1
  obtain rfl := some_addr h1
  have hp : ∀ b, F j ≠ [] ∧ fa j = some ⟨b, 0, none⟩ → IsB w b := fun b hb => (h.tb ⟨j, hj, hb.1, hb.2⟩).2.2
  have hS := (Kept.refl (fun b => b = g) w).set (a := ⟨g, j * 2, none⟩) (fun _ => rfl) (.int .i64 k)
  refine ⟨fun _ => ?_, fun i hi => ?_, h.far⟩
  · refine ⟨g, m, _, hg, h2, h3, hK.rowIs (h4.set (j * 2) (.int .i64 k)) (fun hb => not_B_of_W (rowIs_isW h4) (hp g hb)), h5, fun i hi => ⟨?_, ?_⟩⟩
    · show (if i * 2 = j * 2 then _ else _) = _
      by_cases e : i = j
      · subst e; simp
      · rw [if_neg (by omega), if_neg e]; exact (h6 i hi).1
    · show (if i * 2 + 1 = j * 2 then _ else _) = Value.slice (fa i) (if i = j then ys else F i).length (fc i)
      rw [if_neg (by omega)]
      split
      · rename_i e; subst e; rw [hy]; exact (h6 i hi).2
      · exact (h6 i hi).2
  · show BB w' lo _ (fa i) (if i = j then ys else F i)
    split
    · rename_i e; subst e; exact hB
    · rename_i e
      refine ((h.byt i hi).kept hS (fun b hb hne hq => ?_)).kept hK (fun b hb _ hq => h.ne hi hj e b hb hq.2)
      subst hq
      exact not_B_of_W (rowIs_isW h4) (h.tb ⟨i, hi, hne, hb⟩).2.2

/-- what marking writes touches -/
def TW (a : Option Addr) (n : Nat) (F : Nat → List Nat) (fa : Nat → Option Addr) (b : Nat) : Prop := a = some ⟨b, 0, none⟩ ∨ TB n F fa b

set_option maxRecDepth 100000 in
theorem markWriteS_any (a : Option Addr) (n cap k lo hi : Nat) (B : Nat → Int) (F : Nat → List Nat) (fa : Nat → Option Addr) (fc : Nat → Nat) (w : World) (hn : n ≤ 1048576) (hl : ∀ i, i < n → (F i).length ≤ 1048576) (hk : wE F k n ≤ 1099511627776) (h : MWs w lo hi a n B F fa fc) :
    Calls Tryz.prog 36 #[.slice a n cap, .int .i64 k] w fun e w' => e = .returned (.int .i64 (wE F k n : Nat)) ∧ MWs w' lo hi a n (fun i => (wE F k i : Nat)) (wM F k) fa fc ∧ Kept (fun b => 0 < n ∧ TW a n F fa b) w w' := by
  go_enter Tryz.func36, Tryz.ntmps36
  go_wp2
  go_loopw [1, 5] (fun c i wr => ∃ (j q : Nat) (C : Nat → Int) (G : Nat → List Nat), j ≤ n ∧ Hid (q = wE F k j) ∧ c = .int .i64 (q : Int) ∧ i = .int .i64 (j : Int) ∧ MWs wr lo hi a n C G fa fc ∧ (∀ i, i < j → C i = (wE F k i : Nat) ∧ G i = wM F k i) ∧ (∀ i, j ≤ i → G i = F i) ∧ Kept (fun b => 0 < n ∧ TW a n F fa b) w wr) (fun _ i _ => n - (intOf i).toNat)
  case atStart => exact ⟨0, k, B, F, Nat.zero_le _, rfl, rfl, rfl, h, fun i hi => absurd hi (Nat.not_lt_zero _), fun _ _ => rfl, Kept.refl _ _⟩
  case round =>
    obtain ⟨j, q, C, G, hj, hq, rfl, rfl, hM, hG1, hG2, hK⟩ := hrel
    have hqle : q ≤ 1099511627776 := by have := wE_le F k hj; have := hq.out; omega
    by_cases hlt : j < n
    · obtain ⟨g, m, f, rfl, h2, h3, h4, h5, h6⟩ := hM.row (by omega)
      have hq2 : q + 1 ≤ 1099511627776 := by have h8 := wE_le F k (show j + 1 ≤ n by omega); have h9 := hq.out; simp only [wE] at h8; omega
      have c0 := h4.cell (i := j * 2) (by omega)
      have c1 := h4.cell (i := j * 2 + 1) (by omega)
      have fz := h4.frozen
      rw [(h6 j hlt).1] at c0
      rw [(h6 j hlt).2, hG2 j (Nat.le_refl _)] at c1
      have c1' := (World.cell?_setCell_other wr ⟨g, j * 2, none⟩ ⟨g, j * 2 + 1, none⟩ (.int .i64 (q : Int)) (by simp)).trans c1
      have i0 : (0 : Int) ≤ (j : Int) := by omega
      have i1 : (j : Int) < (n : Int) := by omega
      have hBj := hM.byt j hlt
      have hBj := hBj.kept ((Kept.refl (fun b => b = g) wr).set (a := ⟨g, j * 2, none⟩) (fun _ => rfl) (.int .i64 (q : Int))) (fun b hb hne hq => by subst hq; exact not_B_of_W (rowIs_isW h4) (hM.tb ⟨j, hlt, hne, hb⟩).2.2)
      rw [hG2 j (Nat.le_refl _)] at hBj
      have hlj := hl j hlt
      obtain ⟨ys, hys⟩ := hid_ex (F j)
      rw [← hys.out] at c1 c1' hBj hlj
      go_wp2_with (go_at_call 68; rw [show ((q : Int) + 1) = ((q + 1 : Nat) : Int) by omega]; refine (markBytes_any (fa j) ys (fc j) (q + 1) lo hi _ hlj hq2 hBj).mono ?_; rintro e w2 ⟨rfl, hB2, hK2⟩)
      go_roundw
      case rel =>
        have e1 : G j = F j := hG2 j (Nat.le_refl _)
        have hb1 : marksB (q + 1) ys.length = wM F k j := by rw [hys.out, hq.out]; rfl
        refine ⟨j + 1, q + 1 + ys.length, _, _, by omega, by show _ = _; rw [hq.out, hys.out]; rfl, by go_num, by go_num, hM.step hlt rfl (q : Int) (ys := marksB (q + 1) ys.length) (by rw [marksB_length, e1, hys.out]) hB2 (hK2.mono (fun b _ hb => by rw [e1, ← hys.out]; exact hb)), fun i hi => ⟨?_, ?_⟩, fun i hi => ?_, (hK.set (fun _ => ⟨by omega, Or.inl rfl⟩) _).trans hK2 (fun b _ hb => ⟨by omega, Or.inr ⟨j, hlt, by rw [← hys.out]; exact hb.1, hb.2⟩⟩)⟩
        · show (if i = j then _ else _) = _
          split
          · rename_i e; rw [e, hq.out]
          · exact (hG1 i (by omega)).1
        · show (if i = j then _ else _) = _
          split
          · rename_i e; rw [e]; exact hb1
          · exact (hG1 i (by omega)).2
        · show (if i = j then _ else _) = _
          rw [if_neg (by omega)]; exact hG2 i (by omega)
      case measure => simp [intOf]; omega
    · obtain rfl : j = n := by omega
      go_wp2
      go_ret
      exact ⟨by rw [hq.out]; rfl, hM.congr (fun i hi => (hG1 i hi).1.symm) (fun i hi => (hG1 i hi).2.symm), hK⟩

/-- the same, marked from k on -/
structure MDM (w : World) (lo hi : Nat) (l : DL) (d : DD) (k : Nat) (fa ga : Nat → Option Addr) (fc gc : Nat → Nat) : Prop where
  b : MBs w lo hi l.ba d.blocks.length (bM (fun i => d.blocks[i]!) k) fa fc
  w : MWs w lo hi l.wa d.waiting.length (fun i => (wE (fun i => d.waiting[i]!.bytes) (bE (fun i => d.blocks[i]!) k d.blocks.length) i : Nat)) (wM (fun i => d.waiting[i]!.bytes) (bE (fun i => d.blocks[i]!) k d.blocks.length)) ga gc
def DD.mend (d : DD) (k : Nat) : Nat := wE (fun i => d.waiting[i]!.bytes) (bE (fun i => d.blocks[i]!) k d.blocks.length) d.waiting.length
theorem DD.mend_sz (d : DD) (k : Nat) : (d.mend k : Int) ≤ k + d.sz := by
  unfold DD.mend DD.sz
  rw [wE_sz _ _ _ (Nat.le_refl _), List.take_length, bE_sz _ _ _ (Nat.le_refl _), List.take_length]
  omega
theorem DD.mend_le (d : DD) (k : Nat) : bE (fun i => d.blocks[i]!) k d.blocks.length ≤ d.mend k := wE_le _ _ (Nat.zero_le _)

theorem MDM.out {p : Nat → Prop} {w w' : World} {lo hi : Nat} {l : DL} {d : DD} {k : Nat} {fa ga : Nat → Option Addr} {fc gc : Nat → Nat} (h : MDM w lo hi l d k fa ga fc gc) (K : Kept p w w') (hp : ∀ b, lo ≤ b → b < hi → ¬ p b) : MDM w' lo hi l d k fa ga fc gc := ⟨h.b.out K hp, h.w.out K hp⟩
theorem MDM.grow {w w' : World} {lo hi : Nat} {l : DL} {d : DD} {k : Nat} {fa ga : Nat → Option Addr} {fc gc : Nat → Nat} (h : MDM w lo hi l d k fa ga fc gc) (hb : Below w.heap.size w w') : MDM w' lo hi l d k fa ga fc gc := h.out (Kept.of_below hb (fun _ => False)) (fun _ _ _ e => e)

theorem OwnD.md {w : World} {l : DL} {lo : Nat} {bs xs : Nat → Nat} {d : DD} (h : OwnD w l lo bs xs d) : MD w lo w.heap.size l d (fun i => some ⟨bs i, 0, none⟩) (fun i => some ⟨xs i, 0, none⟩) (fun i => d.blocks[i]!.length) (fun i => d.waiting[i]!.bytes.length) := by
  obtain ⟨⟨N, h1, h2, f, h3, h4⟩, M, h5, h6, ⟨f', h7, h8⟩, h9⟩ := h
  refine ⟨⟨fun _ => ⟨N, _, f, h1, h2, h3.lt, h3, Nat.le_refl _, fun i hi => (h4 i hi).1⟩, fun i hi => ?_, fun i j hij hj => ?_⟩, ⟨fun _ => ⟨M, _, f', h5, h6, h7.lt, h7, Nat.le_refl _, fun i hi => ⟨(h8 i hi).1, (h8 i hi).2.1⟩⟩, fun i hi => ?_, fun i j hij hj => ?_⟩, fun i j hi hj => ?_⟩
  · have h0 := h4 i hi
    exact Or.inr ⟨bs i, _, rfl, by omega, h0.2.1.lt, h0.2.1⟩
  · intro b e1 e2
    have := (h4 j hj).2.2.2 i hij
    have := some_addr e1
    have := some_addr e2
    omega
  · have h0 := h8 i hi
    exact Or.inr ⟨xs i, _, rfl, by omega, h0.2.2.1.lt, h0.2.2.1⟩
  · intro b e1 e2
    have := (h8 j hj).2.2.2.2 i hij
    have := some_addr e1
    have := some_addr e2
    omega
  · intro b e1 e2
    have := h9 i hi
    have := (h8 j hj).2.2.2.1
    have := some_addr e1
    have := some_addr e2
    omega

set_option maxRecDepth 100000 in
theorem markDisk_any (d : DD) (l : DL) (k lo hi : Nat) (fa ga : Nat → Option Addr) (fc gc : Nat → Nat) (w : World) (hs : d.Small) (hk : d.mend k ≤ 1099511627776) (hhi : hi ≤ w.heap.size) (h : MD w lo hi l d fa ga fc gc) :
    Calls Tryz.prog 11 #[d.val l, .int .i64 k] w fun e w' => e = .returned (.int .i64 (d.mend k : Nat)) ∧ MDM w' lo hi l d k fa ga fc gc ∧ Kept (fun b => lo ≤ b ∧ b < hi) w w' := by
  have hA := gal (gre w) (.cells #[.slice l.ba d.blocks.length l.bc, .slice l.wa d.waiting.length l.wc] 37)
  have hbx := DBox.new w d l 37
  have hM0 := h.grow hA
  obtain ⟨q, hq⟩ := hid_ex (bE (fun i => d.blocks[i]!) k d.blocks.length)
  have hmd : Hid (d.mend k = wE (fun i => d.waiting[i]!.bytes) q d.waiting.length) := by show _ = _; rw [hq.out]; rfl
  have hqk : q ≤ 1099511627776 := by rw [hq.out]; exact Nat.le_trans (d.mend_le k) hk
  go_enter Tryz.func11, Tryz.ntmps11
  go_wp2_with (go_at_call 35; refine (markByteSS_any l.ba d.blocks.length l.bc k lo hi (fun i => d.blocks[i]!) fa fc _ hs.bl (fun i hi => hs.bb _ (mem_at hi)) (by rw [← hq.out]; exact hqk) hM0.b).mono ?_; rintro e w1 ⟨rfl, hM1, hK1⟩; rw [← hq.out]; obtain ⟨_, x0, x1⟩ := hbx.kept hK1 (fun hp => by have := hM0.b.tb hp; omega))
  have hW1 := hM0.w.kept hK1 (fun b m f _ hr hp => not_B_of_W (rowIs_isW hr) (hM0.b.tb hp).2.2) (fun b hb hp => by
    obtain ⟨i, hi, _, e1⟩ := hp
    obtain ⟨j, hj, _, e2⟩ := hb
    exact h.far i j hi hj b e1 e2)
  refine (markWriteS_any l.wa d.waiting.length l.wc q lo hi _ (fun i => d.waiting[i]!.bytes) ga gc _ hs.wl (fun i hi => hs.wb _ (mem_at hi)) (by rw [← hmd.out]; exact hk) hW1).mono ?_
  rintro e w2 ⟨rfl, hM2, hK2⟩
  rw [← hmd.out]
  go_wp2
  go_ret
  refine ⟨rfl, ⟨?_, by rw [← hq.out]; exact hM2⟩, ?_⟩
  · refine hM1.kept hK2 (fun b m f hb hr hp => ?_) (fun b hb hp => ?_)
    · rcases hp.2 with e | e
      · obtain ⟨g, m', f', h1, _, _, h4, _⟩ := hW1.row hp.1
        rw [e] at h1
        obtain rfl := some_addr h1
        exact not_W_of_bs hr (rowIs_isW h4)
      · exact not_B_of_bs hr (hW1.tb e).2.2
    · obtain ⟨i, hi, hne, e1⟩ := hb
      rcases hp.2 with e | e
      · obtain ⟨g, m', f', h1, _, _, h4, _⟩ := hW1.row hp.1
        rw [e] at h1
        obtain rfl := some_addr h1
        exact not_B_of_W (rowIs_isW h4) (hM1.tb ⟨i, hi, hne, e1⟩).2.2
      · obtain ⟨j, hj, _, e2⟩ := e
        exact h.far i j hi hj b e1 e2
  · have hk0 : Kept (fun b => lo ≤ b ∧ b < hi) w _ := Kept.of_below hA _
    refine (hk0.trans hK1 (fun b _ hp => ?_)).trans hK2 (fun b _ hp => ?_)
    · have := hM0.b.tb hp
      exact ⟨this.1, this.2.1⟩
    · rcases hp.2 with e | e
      · obtain ⟨g, m', f', h1, h2, h3, _⟩ := hW1.row hp.1
        rw [e] at h1
        obtain rfl := some_addr h1
        exact ⟨h2, h3⟩
      · have := hW1.tb e
        exact ⟨this.1, this.2.1⟩

end Go.Proofs.YthjddpkegooobacGreatDoor

/-
  LATER: small facts for laws on graphs. Own work.
-/
namespace Go.Proofs.YthjddpkegooobacGreatDoor
open Go.RowKit

theorem OwnG.later {w w' : World} {base : Nat} {na : Option Addr} {nc : Nat} {nl : List NL} (h : OwnG w base na nc nl) (hb : Below w.heap.size w w') : OwnG w' base na nc nl := h.kept (Kept.of_below hb (fun _ => False)) (fun _ _ e => e) (fun _ _ _ _ e => e)
theorem canonZ_ok {g : GG} (hg : g.Ok) : (canonZ g).Ok := by
  unfold canonZ
  split
  · exact canon_ok hg (by assumption)
  · exact ⟨⟨by unfold I64; simp, by unfold I64; simp, by show 0 ≤ maxLen; exact Nat.zero_le _, by unfold I64; simp⟩, by show 0 ≤ maxLen; exact Nat.zero_le _, fun n hn => by cases hn⟩
theorem OwnG.touch {w : World} {base : Nat} {na : Option Addr} {nc : Nat} {nl : List NL} (h : OwnG w base na nc nl) {b : Nat} (hb : Touch na nl.length (fun i => nl[i]!.a) b) : base ≤ b ∧ b < w.heap.size := by
  rcases hb with e | ⟨i, hi, e⟩
  · exact h.nodes.lt b (by rw [e]; rfl)
  · exact (h.vals _ (mem_at hi)).lt b (by simp only at e; rw [e]; rfl)
theorem OwnNodes.touch {w : World} {N : Nat} {bs : Nat → Nat} {ns : List GN} (h : OwnNodes w N bs ns) {b : Nat} (hb : Touch (some ⟨N, 0, none⟩) ns.length (fun i => some ⟨bs i, 0, none⟩) b) : N ≤ b ∧ b < w.heap.size := by
  obtain ⟨f, hr, hn⟩ := h
  rcases hb with e | ⟨i, hi, e⟩
  · have e2 := some_addr e
    subst e2
    exact ⟨Nat.le_refl _, hr.lt⟩
  · have e2 := some_addr e
    obtain ⟨_, _, h2, h3, _⟩ := hn i hi
    have := h2.lt
    subst e2
    exact ⟨by omega, this⟩

theorem mEnd_small (l : List GN) (h : ∀ n, n ∈ l → n.vals.length ≤ 100) : ∀ k, mEnd k l ≤ k + 401 * l.length := by
  induction l with
  | nil => intro k; simp [mEnd]
  | cons x r ih =>
    intro k
    have h1 := ih (fun n hn => h n (List.mem_cons_of_mem _ hn)) (k + 1 + 4 * x.vals.length)
    have h2 := h x (List.mem_cons_self ..)
    simp only [mEnd, List.length_cons]
    omega
theorem canonZ_small (g : GG) : (canonZ g).nodes.length ≤ 300 ∧ mEnd 1 (canonZ g).nodes ≤ 1099511627776 := by
  unfold canonZ
  split
  · rename_i hok
    have h := canon_small hok
    have h2 := mEnd_small (canon g).nodes h.2 1
    exact ⟨h.1, by omega⟩
  · exact ⟨Nat.zero_le _, by simp [mEnd]⟩

end Go.Proofs.YthjddpkegooobacGreatDoor

/-
  OPEND: what disks that come in read as. Own work.
-/
namespace Go.Proofs.YthjddpkegooobacGreatDoor
open Go.RowKit Go.ChangeShapes Go.WideShapes Go.Deep

set_option maxRecDepth 100000 in
theorem dcellsInt : Tryz.prog.cellsOf 3 = 1 := by kernel_rfl
theorem dcellsU8 : Tryz.prog.cellsOf 5 = 1 := by kernel_rfl
theorem dcellsBytes : Tryz.prog.cellsOf 58 = 1 := by kernel_rfl
theorem dcellsWrite : Tryz.prog.cellsOf 101 = 2 := by kernel_rfl
theorem dcellsBlks : Tryz.prog.cellsOf 22 = 1 := by kernel_rfl
theorem dcellsWrites : Tryz.prog.cellsOf 23 = 1 := by kernel_rfl
theorem dcellsDisk : Tryz.prog.cellsOf 25 = 2 := by kernel_rfl

set_option maxRecDepth 100000 in
theorem di64_of_wf {n : Int} (h : (Lit.int .i64 n).wf = true) : I64 n := by
  have h := bounds_i64 h
  unfold I64
  omega
theorem dbyte_of_wf {x : Int} (h : (Lit.int .u8 x).wf = true) : 0 ≤ x ∧ x < 256 := by
  simp [Lit.wf, IntKind.min, IntKind.max, IntKind.signed, IntKind.bits] at h
  omega

section
variable {H : Type} {enc : TypeId × Value → H} {w : World} {base : Nat} {spare : Nat → Bool} {held : Bool}

set_option maxRecDepth 100000 in
/-- a list out of a family -/
theorem dlist_of {α : Type} [Inhabited α] {n : Nat} {p : Nat → α → Prop} (h : ∀ i, i < n → ∃ x, p i x) : ∃ l : List α, l.length = n ∧ ∀ i, i < n → p i l[i]! := by
  obtain ⟨f, hf⟩ := choose_lt h
  refine ⟨(List.range n).map f, by simp, fun i hi => ?_⟩
  have e : ((List.range n).map f)[i]! = f i := by
    rw [getElem!_pos _ i (by simpa using hi)]; simp
  rw [e]; exact hf i hi

set_option maxRecDepth 100000 in
theorem dall_of_at {α : Type} [Inhabited α] {p : α → Prop} {l : List α} (h : ∀ i, i < l.length → p l[i]!) : ∀ x, x ∈ l → p x := fun x hx => by
  obtain ⟨i, hi, e⟩ := List.getElem_of_mem hx
  have := h i hi
  rwa [getElem!_pos l i hi, e] at this

set_option maxRecDepth 100000 in
/-- an address at which elements lie is a plain one -/
theorem dplain_addr {a : Addr} {k : Nat} {cs : List Value} (hk : 0 < k) (h : w.cells? base (a.add (0 * k)) k = some cs) : a = ⟨a.block, a.off, none⟩ := by
  obtain ⟨_, hlen, hc⟩ := World.cells?_some h
  have h0 := hc 0 hk
  obtain ⟨b, off, spot⟩ := a
  match cs, hlen with
  | c :: _, _ =>
    have hspot : spot = none := by
      have h0' : w.cell? ((Addr.add ⟨b, off, spot⟩ (0 * k)).add 0) = some c := by simpa using h0
      simpa [Addr.add] using World.cell?_spot h0'
    rw [hspot]
  | [], h => simp at h; omega

set_option maxRecDepth 100000 in
theorem dcells_plain {b off n : Nat} {cs : List Value} (h : w.cells? base ⟨b, off, none⟩ n = some cs) : cs.length = n ∧ ∀ i, i < n → w.cell? ⟨b, off + i, none⟩ = cs[i]? := by
  obtain ⟨_, hlen, hc⟩ := World.cells?_some h
  exact ⟨hlen, fun i hi => by rw [← add_plain]; exact hc i hi⟩

set_option maxRecDepth 100000 in
theorem openByts {fuel : Nat} {cs : List Value} {x : DataW H × List MemPlace} (h : DataW.trod enc Tryz.prog w base spare held fuel 58 cs = some x) :
    ∃ (a : Option Addr) (cap : Nat) (bs : List Nat), cs = [.slice a bs.length cap] ∧ BOk bs ∧ BytesAt w a bs := by
  rcases open_slice Tryz.underlying58 h with ⟨rfl, _⟩ | ⟨a, len, cap, m, n, D, Pl, rfl, hb, hl, hm, hmm, _, hx⟩
  · exact ⟨none, 0, [], rfl, ⟨Nat.zero_le _, fun v hv => (by cases hv)⟩, fun i hi => absurd hi (Nat.not_lt_zero _)⟩
  · rw [dcellsU8] at hx
    have hle : len ≤ m := by rw [hmm]; split <;> omega
    obtain ⟨bs, hvl, hvs⟩ := dlist_of (α := Nat) (n := len) (p := fun i v => v < 256 ∧ w.cells? base (a.add (i * 1)) 1 = some [.int .u8 (v : Int)]) (fun i hi => by
      obtain ⟨cs', h1, h2⟩ := hx i (by omega)
      obtain ⟨z, e, _, hw⟩ := DataW.trod_int Tryz.underlying5 h2
      have hz := dbyte_of_wf hw
      refine ⟨z.toNat, by omega, ?_⟩
      rw [h1, e, Int.toNat_of_nonneg hz.1])
    subst hvl
    refine ⟨some a, cap, bs, rfl, ⟨by omega, dall_of_at fun i hi => (hvs i hi).1⟩, fun i hi => ?_⟩
    have hp := dplain_addr (by decide) (hvs 0 (by omega)).2
    have h1 := (hvs i hi).2
    rw [hp, add_plain] at h1
    obtain ⟨_, h2⟩ := dcells_plain h1
    have h3 := h2 0 (by decide)
    simp only [Nat.add_zero, Nat.mul_one] at h3
    exact ⟨a.block, a.off, by rw [← hp], h3⟩

set_option maxRecDepth 100000 in
theorem openBlks {fuel : Nat} {cs : List Value} {x : DataW H × List MemPlace} (h : DataW.trod enc Tryz.prog w base spare held fuel 22 cs = some x) :
    ∃ (a : Option Addr) (cap : Nat) (ls : List (List Nat)), cs = [.slice a ls.length cap] ∧ ls.length ≤ maxLen ∧ (∀ b, b ∈ ls → BOk b) ∧ BlksAt w a ls := by
  rcases open_slice Tryz.underlying22 h with ⟨rfl, _⟩ | ⟨a, len, cap, m, n, D, Pl, rfl, hb, hl, hm, hmm, _, hx⟩
  · exact ⟨none, 0, [], rfl, Nat.zero_le _, fun v hv => (by cases hv), fun i hi => absurd hi (Nat.not_lt_zero _)⟩
  · rw [dcellsBytes] at hx
    have hle : len ≤ m := by rw [hmm]; split <;> omega
    obtain ⟨ls, hvl, hvs⟩ := dlist_of (α := List Nat) (n := len) (p := fun i b => BOk b ∧ ∃ a' cap', w.cells? base (a.add (i * 1)) 1 = some [.slice a' b.length cap'] ∧ BytesAt w a' b) (fun i hi => by
      obtain ⟨cs', h1, h2⟩ := hx i (by omega)
      obtain ⟨a', cap', b, e, hok, hva⟩ := openByts h2
      exact ⟨b, hok, a', cap', by rw [h1, e], hva⟩)
    subst hvl
    refine ⟨some a, cap, ls, rfl, by omega, dall_of_at fun i hi => (hvs i hi).1, fun i hi => ?_⟩
    obtain ⟨_, _, _, hp0, _⟩ := hvs 0 (by omega)
    have hp := dplain_addr (by decide) hp0
    obtain ⟨_, a', cap', h1, hva⟩ := hvs i hi
    rw [hp, add_plain] at h1
    obtain ⟨_, h2⟩ := dcells_plain h1
    have h3 := h2 0 (by decide)
    simp only [Nat.add_zero, Nat.mul_one] at h3
    exact ⟨a.block, a.off, a', cap', by rw [← hp], h3, hva⟩

set_option maxRecDepth 100000 in
theorem openWrite {fuel : Nat} {cs : List Value} {x : DataW H × List MemPlace} (h : DataW.trod enc Tryz.prog w base spare held fuel 101 cs = some x) :
    ∃ (n : DW) (a : Option Addr) (cap : Nat), I64 n.block ∧ BOk n.bytes ∧ cs = [.int .i64 n.block, .slice a n.bytes.length cap] ∧ BytesAt w a n.bytes := by
  obtain ⟨xs, n, _, rfl, hl, hlen, hf⟩ := DataW.trod_struct Tryz.underlying101 h
  rw [dcellsWrite] at hl
  match xs, hlen, cs, hl with
  | [y0, y1], _, [c0, c1], _ =>
    have h0 := hf 0 _ rfl
    have h1 := hf 1 _ rfl
    simp [dcellsInt, dcellsBytes] at h0 h1
    obtain ⟨k, e0, rfl, w0⟩ := DataW.trod_int Tryz.underlying3 h0
    obtain ⟨a, cap, vs, e1, hok1, ha1⟩ := openByts h1
    simp at e0 e1
    subst e0 e1
    exact ⟨⟨k, vs⟩, a, cap, di64_of_wf w0, hok1, rfl, ha1⟩

set_option maxRecDepth 100000 in
theorem openWrites {fuel : Nat} {cs : List Value} {x : DataW H × List MemPlace} (h : DataW.trod enc Tryz.prog w base spare held fuel 23 cs = some x) :
    ∃ (a : Option Addr) (cap : Nat) (ls : List DW), cs = [.slice a ls.length cap] ∧ ls.length ≤ maxLen ∧ (∀ b, b ∈ ls → I64 b.block ∧ BOk b.bytes) ∧ WrsAt w a ls := by
  rcases open_slice Tryz.underlying23 h with ⟨rfl, _⟩ | ⟨a, len, cap, m, n, D, Pl, rfl, hb, hl, hm, hmm, _, hx⟩
  · exact ⟨none, 0, [], rfl, Nat.zero_le _, fun v hv => (by cases hv), fun i hi => absurd hi (Nat.not_lt_zero _)⟩
  · rw [dcellsWrite] at hx
    have hle : len ≤ m := by rw [hmm]; split <;> omega
    obtain ⟨ls, hvl, hvs⟩ := dlist_of (α := DW) (n := len) (p := fun i b => (I64 b.block ∧ BOk b.bytes) ∧ ∃ a' cap', w.cells? base (a.add (i * 2)) 2 = some [.int .i64 b.block, .slice a' b.bytes.length cap'] ∧ BytesAt w a' b.bytes) (fun i hi => by
      obtain ⟨cs', h1, h2⟩ := hx i (by omega)
      obtain ⟨b, a', cap', hi1, hok, e, hva⟩ := openWrite h2
      exact ⟨b, ⟨hi1, hok⟩, a', cap', by rw [h1, e], hva⟩)
    subst hvl
    refine ⟨some a, cap, ls, rfl, by omega, dall_of_at fun i hi => (hvs i hi).1, fun i hi => ?_⟩
    obtain ⟨_, _, _, hp0, _⟩ := hvs 0 (by omega)
    have hp := dplain_addr (by decide) hp0
    obtain ⟨_, a', cap', h1, hva⟩ := hvs i hi
    rw [hp, add_plain] at h1
    obtain ⟨_, h2⟩ := dcells_plain h1
    exact ⟨a.block, a.off, a', cap', by rw [← hp], h2 0 (by decide), h2 1 (by decide), hva⟩

set_option maxRecDepth 100000 in
theorem openDisk {v : Value} {d : DataW H} {ps : List MemPlace} {r : Reach} {bs : Nat} (hv : Value.okWide Tryz.prog w r bs 25 v) (h : DataW.Trod enc Tryz.prog w base spare held 25 v d ps) :
    ∃ (g : DD) (l : DL), g.Ok ∧ v = g.val l ∧ DAt w l g := by
  unfold Value.okWide at hv
  rw [Tryz.underlying25] at hv
  obtain ⟨cs, rfl, hsz, _⟩ := hv
  obtain ⟨fuel, h⟩ := h
  obtain ⟨xs, n, _, _, hl, hlen, hf⟩ := DataW.trod_struct Tryz.underlying25 h
  rw [dcellsDisk] at hsz
  obtain ⟨l⟩ := cs
  match xs, hlen, l, hsz with
  | [y0, y1], _, [c0, c1], _ =>
    have h0 := hf 0 _ rfl
    have h1 := hf 1 _ rfl
    simp [dcellsBlks, dcellsWrites, Value.cells] at h0 h1
    obtain ⟨a, cap, ls, e0, hl0, hb0, ha0⟩ := openBlks h0
    obtain ⟨a', cap', ws, e1, hl1, hw1, ha1⟩ := openWrites h1
    simp at e0 e1
    subst e0 e1
    exact ⟨⟨ls, ws⟩, ⟨a, cap, a', cap'⟩, ⟨hl0, hb0, hl1, fun x hx => (hw1 x hx).1, fun x hx => (hw1 x hx).2⟩, rfl, ha0, ha1⟩

end
end Go.Proofs.YthjddpkegooobacGreatDoor
