/-
  TO: the laws' copies. Own work.
-/
import Derived.Test.YthjddpkegooobaaToA
import Derived.Deep.OwnRows
namespace Go.Proofs.Ythjddpkegooobaa
open Go.RowKit

theorem toVal_any (v : GV) (w : World) :
    Calls Try.prog 100 #[v.val] w fun e w' => e = .returned v.val ∧ Below w.heap.size w w' := by
  go_enter Try.func100, Try.ntmps100
  go_wp2
  exact bodyPost_ret (v := v.val) (by simp [results, Try.results100, go_sem]) rfl ⟨rfl, (((Below.refl _ _).alloc (Nat.le_refl _) _).alloc (by simp) _).alloc (by simp; omega) _⟩

theorem toValS_any (a : Option Addr) (cap : Nat) (vs : List GV) (w : World) (hl : vs.length ≤ 1048576) (ha : ValsAt w.heap.size w a vs) :
    Calls Try.prog 155 #[.slice a vs.length cap] w fun e w' => ∃ b, e = .returned (.slice (some ⟨b, 0, none⟩) vs.length vs.length) ∧ w.heap.size ≤ b ∧ OwnVals w' b vs ∧ Below w.heap.size w w' := by
  obtain ⟨i0, hi, hz0, hz1, hz2⟩ := info_parts info_implVal
  have hmk : ∀ u : World, (Instr.makeSlice 82 (.int .i64 (vs.length : Int)) (.int .i64 (vs.length : Int))).run Try.prog u =
      .ok (.slice (some ⟨u.heap.size, 0, none⟩) vs.length vs.length) (u.alloc (.cells (madeCells #[.int .i64 0, .int .i64 0, .string .empty, .int .i64 0] (vs.length * 4)) 24)) := fun u => by
    have h := run_make (P := Try.prog) u 82 24 i0 _ Try.underlying82 hi hz0 .i64 .i64 (vs.length : Int) (vs.length : Int) (by omega) (Int.le_refl _) (by rw [hz2]; omega) (by omega)
    simpa [hz1, Value.cells] using h
  go_enter Try.func155, Try.ntmps155
  go_wp2
  go_loopw [4] (fun i wr => ∃ (k : Nat) (f : Nat → Value), k ≤ vs.length ∧ i = .int .i64 k ∧ wr.rowIs w.heap.size 24 (vs.length * 4) f ∧ ValsIn f vs k ∧ Below w.heap.size w wr) (fun i _ => vs.length - (intOf i).toNat)
  case atStart => exact ⟨0, _, Nat.zero_le _, rfl, rowIs_made_any _ _ _ _, fun i hi => absurd hi (Nat.not_lt_zero _), (Below.refl _ _).alloc (Nat.le_refl _) _⟩
  case round =>
    obtain ⟨k, f, hk, rfl, hrow, hin, hb⟩ := hrel
    by_cases hlt : k < vs.length
    · obtain ⟨v, b, off, hvk, hvm, rfl, hbs, hva⟩ := ha.get hlt
      have hva := hva.below hb hbs
      have c0 := hva.kind
      have c1 := hva.num
      have c2 := hva.text
      have c3 := hva.node
      go_wp2_with (go_at_call 100; refine (toVal_any v _).mono ?_; rintro e w' ⟨rfl, hb'⟩; have hrow' := hrow.of_block (hb'.block _ hrow.lt); have d0 := hrow'.cell (i := k * 4) (by omega); have d1 := hrow'.cell (i := k * 4 + 1) (by omega); have d2 := hrow'.cell (i := k * 4 + 2) (by omega); have d3 := hrow'.cell (i := k * 4 + 3) (by omega); have f0 := hrow'.frozen)
      go_roundw
      case rel => exact ⟨k + 1, _, by omega, by go_num, (((hrow'.set _ _).set _ _).set _ _).set _ _, hin.step hvk, ((((hb.trans (hb'.mono hb.size)).setCell (Nat.le_refl _) _).setCell (Nat.le_refl _) _).setCell (Nat.le_refl _) _).setCell (Nat.le_refl _) _⟩
      case measure => simp [intOf]; omega
    · go_wp2
      go_ret
      have e : k = vs.length := by omega
      subst e
      exact ⟨_, rfl, Nat.le_refl _, ⟨_, hrow, hin⟩, hb⟩

set_option maxRecDepth 100000 in
theorem toNode_any (a : Option Addr) (cap : Nat) (n : GN) (w : World) (hl : n.vals.length ≤ 1048576) (ha : ValsAt w.heap.size w a n.vals) :
    Calls Try.prog 140 #[nodeVal n a cap] w fun e w' => ∃ b, e = .returned (nodeVal n (some ⟨b, 0, none⟩) n.vals.length) ∧ w.heap.size ≤ b ∧ OwnVals w' b n.vals ∧ Below w.heap.size w w' := by
  go_enter Try.func140, Try.ntmps140
  go_wp2_with (go_at_call 155; refine (toValS_any a cap n.vals _ hl (ha.grow (gal (gal (gal (gre _) _) _) _))).mono ?_; rintro e w' ⟨b, rfl, hbb, hown, hb'⟩; obtain ⟨hc, hf⟩ := bcell hb')
  refine bodyPost_ret (v := nodeVal n (some ⟨b, 0, none⟩) n.vals.length) (by simp [results, Try.results140, go_sem, hc]) rfl ⟨b, rfl, ?_, ?_, ?_⟩
  · simp at hbb; omega
  · simp at hbb
    exact ((hown.set (by simp; omega) _).set (by simp; omega) _).set (by simp; omega) _
  · exact gse (gse (gse (gca (gal (gal (gal (gre _) _) _) _) hb') (by simp; omega) _) (by simp) _) (by simp) _

theorem toNodeS_any (a : Option Addr) (cap : Nat) (ns : List GN) (w : World) (hl : ns.length ≤ 1048576) (hv : ∀ n, n ∈ ns → n.vals.length ≤ 1048576) (ha : NodesAt w.heap.size w a ns) :
    Calls Try.prog 101 #[.slice a ns.length cap] w fun e w' => ∃ b bs, e = .returned (.slice (some ⟨b, 0, none⟩) ns.length ns.length) ∧ w.heap.size ≤ b ∧ OwnNodes w' b bs ns ∧ Below w.heap.size w w' := by
  obtain ⟨i0, hi, hz0, hz1, hz2⟩ := info_parts info_implNode
  have hmk : ∀ u : World, (Instr.makeSlice 25 (.int .i64 (ns.length : Int)) (.int .i64 (ns.length : Int))).run Try.prog u =
      .ok (.slice (some ⟨u.heap.size, 0, none⟩) ns.length ns.length) (u.alloc (.cells (madeCells #[.int .i64 0, .slice none 0 0] (ns.length * 2)) 84)) := fun u => by
    have h := run_make (P := Try.prog) u 25 84 i0 _ Try.underlying25 hi hz0 .i64 .i64 (ns.length : Int) (ns.length : Int) (by omega) (Int.le_refl _) (by rw [hz2]; omega) (by omega)
    simpa [hz1, Value.cells] using h
  go_enter Try.func101, Try.ntmps101
  go_wp2
  go_loopw [4] (fun i wr => ∃ (k : Nat) (f : Nat → Value) (bs : Nat → Nat), k ≤ ns.length ∧ i = .int .i64 k ∧ wr.rowIs w.heap.size 84 (ns.length * 2) f ∧ NodesIn wr w.heap.size f bs ns k ∧ Below w.heap.size w wr) (fun i _ => ns.length - (intOf i).toNat)
  case atStart => exact ⟨0, _, fun _ => 0, Nat.zero_le _, rfl, rowIs_made_any _ _ _ _, fun i hi => absurd hi (Nat.not_lt_zero _), (Below.refl _ _).alloc (Nat.le_refl _) _⟩
  case round =>
    obtain ⟨k, f, bs, hk, rfl, hrow, hin, hb⟩ := hrel
    by_cases hlt : k < ns.length
    · obtain ⟨n, b, off, a', cap', hvk, hvm, rfl, hbs, hva⟩ := ha.get hlt
      have hva := hva.below hb hbs
      have c0 := hva.tag
      have c1 := hva.sl
      have hvals := hva.vals.mono hb.size
      go_wp2_with (go_at_call 140; refine (toNode_any a' cap' n _ (hv n hvm) hvals).mono ?_; rintro e w' ⟨b', rfl, hbb, hown, hb'⟩; have hrow' := hrow.of_block (hb'.block _ hrow.lt); have d0 := hrow'.cell (i := k * 2) (by omega); have d1 := hrow'.cell (i := k * 2 + 1) (by omega); have f0 := hrow'.frozen)
      go_roundw
      case rel => exact ⟨k + 1, _, _, by omega, by go_num, (hrow'.set _ _).set _ _, hin.step hvk hb' hrow.lt hbb hown _ _ _ _, ((hb.trans (hb'.mono hb.size)).setCell (Nat.le_refl _) _).setCell (Nat.le_refl _) _⟩
      case measure => simp [intOf]; omega
    · go_wp2
      go_ret
      have e : k = ns.length := by omega
      subst e
      exact ⟨_, bs, rfl, Nat.le_refl _, ⟨_, hrow, hin⟩, hb⟩

set_option maxRecDepth 100000 in
theorem toGraph_any (a : Option Addr) (cap : Nat) (g : GG) (w : World) (hl : g.nodes.length ≤ 1048576) (hv : ∀ n, n ∈ g.nodes → n.vals.length ≤ 1048576) (ha : NodesAt w.heap.size w a g.nodes) :
    Calls Try.prog 43 #[g.val a cap] w fun e w' => ∃ b bs, e = .returned (g.val (some ⟨b, 0, none⟩) g.nodes.length) ∧ w.heap.size ≤ b ∧ OwnNodes w' b bs g.nodes ∧ Below w.heap.size w w' := by
  go_enter Try.func43, Try.ntmps43
  go_wp2_with (go_at_call 100; refine (toVal_any g.root _).mono ?_; rintro e w' ⟨rfl, hb'⟩; obtain ⟨hc, hf⟩ := bcell hb')
  have hz : w.heap.size + 1 + 1 < w'.heap.size := by have := hb'.size; simp at this; omega
  have hz1 : w.heap.size + 1 < w'.heap.size := by omega
  have hz0 : w.heap.size < w'.heap.size := by omega
  have hB : Below w.heap.size w w' := gca (gal (gal (gal (gre _) _) _) _) hb'
  refine (toNodeS_any a cap g.nodes _ hl hv (ha.grow (gse (gse (gse (gse hB (by simp; omega) _) (by simp; omega) _) (by simp; omega) _) (by simp; omega) _))).mono ?_
  rintro e w'' ⟨b, bs, rfl, hbb, hown, hb''⟩
  obtain ⟨hc2, hf2⟩ := bcell hb''
  have hB2 : Below w.heap.size w w'' := gca (gse (gse (gse (gse hB (by simp; omega) _) (by simp; omega) _) (by simp; omega) _) (by simp; omega) _) hb''
  have hbb' : w'.heap.size ≤ b := by simpa [World.setCell] using hbb
  clear hbb
  go_wp2
  refine bodyPost_ret (v := g.val (some ⟨b, 0, none⟩) g.nodes.length) (by simp [results, Try.results43, go_sem, hc, hc2, hz1]) rfl ⟨b, bs, rfl, by omega, ?_, ?_⟩
  · exact (((((hown.set (by simp; omega) _).set (by simp; omega) _).set (by simp; omega) _).set (by simp; omega) _).set (by simp; omega) _).set (by simp; omega) _
  · exact gse (gse (gse (gse (gse (gse hB2 (by simp; omega) _) (by simp) _) (by simp) _) (by simp) _) (by simp) _) (by simp) _

end Go.Proofs.Ythjddpkegooobaa
