import Derived.Deep.OwnRows
import Derived.Deep.RegionHeld3
import Derived.Deep.QuietTactic
import Derived.BigQuiet
import Derived.Test.YthjddpkegooobabPartPkG

/-
  MARKVALS: the laws' marks in a row of values. Own work.
-/
namespace Go.Proofs.Ythjddpkegooobab
open Go.RowKit

/-- a block of cells that may be written -/
structure WRow (w : World) (b n : Nat) : Prop where
  lt : b < w.heap.size
  c : ∀ i, i < n → ∃ v, w.cell? ⟨b, i, none⟩ = some v
  f : ∀ o, w.frozen? ⟨b, o, none⟩ = false
set_option maxRecDepth 100000 in
theorem WRow.kept {p : Nat → Prop} {w w' : World} {b n : Nat} (h : WRow w b n) (k : Kept p w w') (hn : ¬ p b) : WRow w' b n :=
  ⟨Nat.lt_of_lt_of_le h.lt k.size, fun i hi => let ⟨v, hv⟩ := h.c i hi; ⟨v, k.cell hv hn⟩, fun o => (World.frozen?_of_block (w := w) (k.block b h.lt hn)).trans (h.f o)⟩
theorem WRow.set {w : World} {b n : Nat} (h : WRow w b n) (p : Addr) (u : Value) : WRow (w.setCell p u) b n :=
  ⟨by have := h.lt; simpa [World.setCell] using this, fun i hi => by
    obtain ⟨v, hv⟩ := h.c i hi
    by_cases e : p = ⟨b, i, none⟩
    · subst e; exact ⟨u, World.cell?_setCell_same _ _ _ hv⟩
    · exact ⟨v, (World.cell?_setCell_other _ _ _ _ (fun e2 => e e2)).trans hv⟩, fun o => by rw [World.frozen?_setCell]; exact h.f o⟩

/-- a marked value, and a row of them -/
def markV (k : Nat) : GV := ⟨(k : Int), (k : Int) + 1, mt (k + 2), (k : Int) + 1 + 1 + 1⟩
def markVs (k n : Nat) : List GV := (List.range n).map fun j => markV (k + 4 * j)

set_option maxRecDepth 100000 in
theorem ValAt.set_far {w : World} {b off : Nat} {v : GV} (h : ValAt w b off v) {o : Nat} (ho : o < off ∨ off + 4 ≤ o) (u : Value) : ValAt (w.setCell ⟨b, o, none⟩ u) b off v := by
  refine ⟨?_, ?_, ?_, ?_⟩
  · exact (World.cell?_setCell_other _ _ _ _ (by simp <;> omega)).trans h.kind
  · exact (World.cell?_setCell_other _ _ _ _ (by simp <;> omega)).trans h.num
  · exact (World.cell?_setCell_other _ _ _ _ (by simp <;> omega)).trans h.text
  · exact (World.cell?_setCell_other _ _ _ _ (by simp <;> omega)).trans h.node

set_option maxRecDepth 100000 in
/-- the world behind one value's marks -/
theorem mark_one {w w1 : World} {b o q : Nat} {n : Nat} (hr : WRow w b n) (ho : o + 4 ≤ n) (hb : Below ((w.setCell ⟨b, o, none⟩ (.int .i64 (q : Int))).setCell ⟨b, o + 1, none⟩ (.int .i64 ((q : Int) + 1))).heap.size ((w.setCell ⟨b, o, none⟩ (.int .i64 (q : Int))).setCell ⟨b, o + 1, none⟩ (.int .i64 ((q : Int) + 1))) w1) :
    ValAt ((w1.setCell ⟨b, o + 2, none⟩ (.string (mt (q + 2)))).setCell ⟨b, o + 3, none⟩ (.int .i64 ((q : Int) + 1 + 1 + 1))) b o (markV q) := by
  have hr2 := (hr.set ⟨b, o, none⟩ (.int .i64 (q : Int))).set ⟨b, o + 1, none⟩ (.int .i64 ((q : Int) + 1))
  have hr3 := hr2.kept (Kept.of_below hb (fun _ => False)) (fun e => e)
  obtain ⟨v0, c0⟩ := hr.c o (by omega)
  obtain ⟨v1, c1⟩ := (hr.set ⟨b, o, none⟩ (.int .i64 (q : Int))).c (o + 1) (by omega)
  obtain ⟨v2, c2⟩ := hr3.c (o + 2) (by omega)
  obtain ⟨v3, c3⟩ := (hr3.set ⟨b, o + 2, none⟩ (.string (mt (q + 2)))).c (o + 3) (by omega)
  refine ⟨?_, ?_, ?_, ?_⟩
  · refine (World.cell?_setCell_other _ _ _ _ (by simp)).trans ((World.cell?_setCell_other _ _ _ _ (by simp)).trans ?_)
    exact cell_later hb ((World.cell?_setCell_other _ _ _ _ (by simp)).trans (World.cell?_setCell_same _ _ _ c0))
  · refine (World.cell?_setCell_other _ _ _ _ (by simp)).trans ((World.cell?_setCell_other _ _ _ _ (by simp)).trans ?_)
    exact cell_later hb (World.cell?_setCell_same _ _ _ c1)
  · exact (World.cell?_setCell_other _ _ _ _ (by simp)).trans (World.cell?_setCell_same _ _ _ c2)
  · exact World.cell?_setCell_same _ _ _ c3

/-- what stands at the head of the round -/
structure MState (b n k : Nat) (w ws : World) (j : Nat) : Prop where
  kept : Kept (fun x => x = b) w ws
  row : WRow ws b (n * 4)
  done : ∀ i, i < j → ValAt ws b (i * 4) (markV (k + 4 * i))
set_option maxRecDepth 100000 in
theorem MState.step {b n k : Nat} {w ws w1 : World} {j q : Nat} (h : MState b n k w ws j) (hj : j < n) (hq : q = k + 4 * j) (hb : Below ((ws.setCell ⟨b, j * 4, none⟩ (.int .i64 (q : Int))).setCell ⟨b, j * 4 + 1, none⟩ (.int .i64 ((q : Int) + 1))).heap.size ((ws.setCell ⟨b, j * 4, none⟩ (.int .i64 (q : Int))).setCell ⟨b, j * 4 + 1, none⟩ (.int .i64 ((q : Int) + 1))) w1) :
    MState b n k w ((w1.setCell ⟨b, j * 4 + 2, none⟩ (.string (mt (q + 2)))).setCell ⟨b, j * 4 + 3, none⟩ (.int .i64 ((q : Int) + 1 + 1 + 1))) (j + 1) where
  kept := ((((h.kept.set (fun _ => rfl) _).set (fun _ => rfl) _).trans (Kept.of_below hb (fun _ => False)) (fun _ _ e => e.elim)).set (fun _ => rfl) _).set (fun _ => rfl) _
  row := ((((h.row.set _ _).set _ _).kept (Kept.of_below hb (fun _ => False)) (fun e => e)).set _ _).set _ _
  done := fun i hi => by
    by_cases e : i = j
    · subst e; subst hq; exact mark_one h.row (by omega) hb
    · have hlt := h.row.lt
      have h1 := ((h.done i (by omega)).set_far (o := j * 4) (by omega) (.int .i64 (q : Int))).set_far (o := j * 4 + 1) (by omega) (.int .i64 ((q : Int) + 1))
      have h2 := h1.below hb (by simpa [World.setCell] using hlt)
      exact (h2.set_far (by omega) _).set_far (by omega) _

set_option maxRecDepth 100000 in
theorem markValS_any (b n cap k : Nat) (w : World) (hk0 : 0 < k) (hk : k + 4 * n ≤ 1099511627776) (hr : WRow w b (n * 4)) :
    Calls Try.prog 141 #[.slice (some ⟨b, 0, none⟩) n cap, .int .i64 k] w fun e w' => e = .returned (.int .i64 ((k + 4 * n : Nat) : Int)) ∧ MState b n k w w' n := by
  go_enter Try.func141, Try.ntmps141
  go_wp2
  go_loopw [1, 5] (fun kk i ws => ∃ (j q : Nat), j ≤ n ∧ q = k + 4 * j ∧ kk = .int .i64 (q : Int) ∧ i = .int .i64 (j : Int) ∧ MState b n k w ws j) (fun _ i _ => n - (intOf i).toNat)
  case atStart => exact ⟨0, k, Nat.zero_le _, by omega, rfl, rfl, Kept.refl _ _, hr, fun i hi => absurd hi (Nat.not_lt_zero _)⟩
  case round =>
    obtain ⟨j, q, hj, hq, rfl, rfl, hD⟩ := hrel
    by_cases hlt : j < n
    · have i0 : (0 : Int) ≤ (j : Int) := by omega
      have i1 : (j : Int) < (n : Int) := by omega
      obtain ⟨v0, c0⟩ := hD.row.c (j * 4) (by omega)
      obtain ⟨v1, c1⟩ := (hD.row.set ⟨b, j * 4, none⟩ (.int .i64 (q : Int))).c (j * 4 + 1) (by omega)
      have hf := hD.row.f
      have hqq : q + 4 ≤ 1099511627776 := by omega
      have hq' : Hid _ := hq
      clear hq
      have hs2 := (hD.row.set ⟨b, j * 4, none⟩ (.int .i64 (q : Int))).set ⟨b, j * 4 + 1, none⟩ (.int .i64 ((q : Int) + 1))
      go_wp2_with (go_at_call 172; rw [show ((q : Int) + 1 + 1) = ((q + 2 : Nat) : Int) by omega]; refine (markText_any (q + 2) _ (by omega) (by omega)).mono ?_; rintro e w1 ⟨rfl, hb1⟩; rw [← show ((q : Int) + 1 + 1) = ((q + 2 : Nat) : Int) by omega]; have hs3 := hs2.kept (Kept.of_below hb1 (fun _ => False)) (fun e => e); obtain ⟨v2, c2⟩ := hs3.c (j * 4 + 2) (by omega); obtain ⟨v3, c3⟩ := (hs3.set ⟨b, j * 4 + 2, none⟩ (.string (mt (q + 2)))).c (j * 4 + 3) (by omega); have hf3 := hs3.f)
      have hfin := hD.step hlt hq'.out hb1
      go_roundw
      case rel => exact ⟨j + 1, q + 4, by omega, by have := hq'.out; omega, by go_num, by go_num, hfin⟩
      case measure => simp [intOf]; omega
    · have e : j = n := by omega
      subst e
      go_wp2
      go_ret
      exact ⟨by rw [← hq]; rfl, hD⟩

set_option maxRecDepth 100000 in
/-- the row as a list of values -/
theorem MState.at_ {b n k : Nat} {w ws : World} (h : MState b n k w ws n) {B : Nat} (hB : b < B) : ValsAt B ws (some ⟨b, 0, none⟩) (markVs k n) := fun i hi => by
  have hi' : i < n := by simpa [markVs] using hi
  refine ⟨b, 0, rfl, hB, ?_⟩
  have e : (markVs k n)[i]! = markV (k + 4 * i) := by rw [getElem!_pos _ i hi]; simp [markVs]
  rw [e, Nat.zero_add]
  exact h.done i hi'
set_option maxRecDepth 100000 in
theorem markVs_length (k n : Nat) : (markVs k n).length = n := by simp [markVs]

end Go.Proofs.Ythjddpkegooobab

/-
  TO: the laws' copies. Own work.
-/
namespace Go.Proofs.Ythjddpkegooobab
open Go.RowKit

theorem toVal_any (v : GV) (w : World) :
    Calls Try.prog 70 #[v.val] w fun e w' => e = .returned v.val ∧ Below w.heap.size w w' := by
  go_enter Try.func70, Try.ntmps70
  go_wp2
  exact bodyPost_ret (v := v.val) (by simp [results, Try.results70, go_sem]) rfl ⟨rfl, (((Below.refl _ _).alloc (Nat.le_refl _) _).alloc (by simp) _).alloc (by simp; omega) _⟩

theorem toValS_any (a : Option Addr) (cap : Nat) (vs : List GV) (w : World) (hl : vs.length ≤ 1048576) (ha : ValsAt w.heap.size w a vs) :
    Calls Try.prog 166 #[.slice a vs.length cap] w fun e w' => ∃ b, e = .returned (.slice (some ⟨b, 0, none⟩) vs.length vs.length) ∧ w.heap.size ≤ b ∧ OwnVals w' b vs ∧ Below w.heap.size w w' := by
  obtain ⟨i0, hi, hz0, hz1, hz2⟩ := info_parts info_implVal
  have hmk : ∀ u : World, (Instr.makeSlice 114 (.int .i64 (vs.length : Int)) (.int .i64 (vs.length : Int))).run Try.prog u =
      .ok (.slice (some ⟨u.heap.size, 0, none⟩) vs.length vs.length) (u.alloc (.cells (madeCells #[.int .i64 0, .int .i64 0, .string .empty, .int .i64 0] (vs.length * 4)) 30)) := fun u => by
    have h := run_make (P := Try.prog) u 114 30 i0 _ Try.underlying114 hi hz0 .i64 .i64 (vs.length : Int) (vs.length : Int) (by omega) (Int.le_refl _) (by rw [hz2]; omega) (by omega)
    simpa [hz1, Value.cells] using h
  go_enter Try.func166, Try.ntmps166
  go_wp2
  go_loopw [4] (fun i wr => ∃ (k : Nat) (f : Nat → Value), k ≤ vs.length ∧ i = .int .i64 k ∧ wr.rowIs w.heap.size 30 (vs.length * 4) f ∧ ValsIn f vs k ∧ Below w.heap.size w wr) (fun i _ => vs.length - (intOf i).toNat)
  case atStart => exact ⟨0, _, Nat.zero_le _, rfl, rowIs_made_any _ _ _ _, fun i hi => absurd hi (Nat.not_lt_zero _), (Below.refl _ _).alloc (Nat.le_refl _) _⟩
  case round =>
    obtain ⟨k, f, hk, rfl, hrow, hin, hb⟩ := hrel
    by_cases hlt : k < vs.length
    · obtain ⟨v, b, off, hvk, hvm, rfl, hbs, hva⟩ := ha.get hlt
      have hva := hva.below hb hbs
      have c0 := hva.kind
      have c1 := hva.num
      have c2 := hva.text
      have c3 := hva.node
      go_wp2_with (go_at_call 70; refine (toVal_any v _).mono ?_; rintro e w' ⟨rfl, hb'⟩; have hrow' := hrow.of_block (hb'.block _ hrow.lt); have d0 := hrow'.cell (i := k * 4) (by omega); have d1 := hrow'.cell (i := k * 4 + 1) (by omega); have d2 := hrow'.cell (i := k * 4 + 2) (by omega); have d3 := hrow'.cell (i := k * 4 + 3) (by omega); have f0 := hrow'.frozen)
      go_roundw
      case rel => exact ⟨k + 1, _, by omega, by go_num, (((hrow'.set _ _).set _ _).set _ _).set _ _, hin.step hvk, ((((hb.trans (hb'.mono hb.size)).setCell (Nat.le_refl _) _).setCell (Nat.le_refl _) _).setCell (Nat.le_refl _) _).setCell (Nat.le_refl _) _⟩
      case measure => simp [intOf]; omega
    · go_wp2
      go_ret
      have e : k = vs.length := by omega
      subst e
      exact ⟨_, rfl, Nat.le_refl _, ⟨_, hrow, hin⟩, hb⟩

set_option maxRecDepth 100000 in
theorem toNode_any (a : Option Addr) (cap : Nat) (n : GN) (w : World) (hl : n.vals.length ≤ 1048576) (ha : ValsAt w.heap.size w a n.vals) :
    Calls Try.prog 132 #[nodeVal n a cap] w fun e w' => ∃ b, e = .returned (nodeVal n (some ⟨b, 0, none⟩) n.vals.length) ∧ w.heap.size ≤ b ∧ OwnVals w' b n.vals ∧ Below w.heap.size w w' := by
  go_enter Try.func132, Try.ntmps132
  go_wp2_with (go_at_call 166; refine (toValS_any a cap n.vals _ hl (ha.grow (gal (gal (gal (gre _) _) _) _))).mono ?_; rintro e w' ⟨b, rfl, hbb, hown, hb'⟩; obtain ⟨hc, hf⟩ := bcell hb')
  refine bodyPost_ret (v := nodeVal n (some ⟨b, 0, none⟩) n.vals.length) (by simp [results, Try.results132, go_sem, hc]) rfl ⟨b, rfl, ?_, ?_, ?_⟩
  · simp at hbb; omega
  · simp at hbb
    exact ((hown.set (by simp; omega) _).set (by simp; omega) _).set (by simp; omega) _
  · exact gse (gse (gse (gca (gal (gal (gal (gre _) _) _) _) hb') (by simp; omega) _) (by simp) _) (by simp) _

theorem toNodeS_any (a : Option Addr) (cap : Nat) (ns : List GN) (w : World) (hl : ns.length ≤ 1048576) (hv : ∀ n, n ∈ ns → n.vals.length ≤ 1048576) (ha : NodesAt w.heap.size w a ns) :
    Calls Try.prog 71 #[.slice a ns.length cap] w fun e w' => ∃ b bs, e = .returned (.slice (some ⟨b, 0, none⟩) ns.length ns.length) ∧ w.heap.size ≤ b ∧ OwnNodes w' b bs ns ∧ Below w.heap.size w w' := by
  obtain ⟨i0, hi, hz0, hz1, hz2⟩ := info_parts info_implNode
  have hmk : ∀ u : World, (Instr.makeSlice 31 (.int .i64 (ns.length : Int)) (.int .i64 (ns.length : Int))).run Try.prog u =
      .ok (.slice (some ⟨u.heap.size, 0, none⟩) ns.length ns.length) (u.alloc (.cells (madeCells #[.int .i64 0, .slice none 0 0] (ns.length * 2)) 116)) := fun u => by
    have h := run_make (P := Try.prog) u 31 116 i0 _ Try.underlying31 hi hz0 .i64 .i64 (ns.length : Int) (ns.length : Int) (by omega) (Int.le_refl _) (by rw [hz2]; omega) (by omega)
    simpa [hz1, Value.cells] using h
  go_enter Try.func71, Try.ntmps71
  go_wp2
  go_loopw [4] (fun i wr => ∃ (k : Nat) (f : Nat → Value) (bs : Nat → Nat), k ≤ ns.length ∧ i = .int .i64 k ∧ wr.rowIs w.heap.size 116 (ns.length * 2) f ∧ NodesIn wr w.heap.size f bs ns k ∧ Below w.heap.size w wr) (fun i _ => ns.length - (intOf i).toNat)
  case atStart => exact ⟨0, _, fun _ => 0, Nat.zero_le _, rfl, rowIs_made_any _ _ _ _, fun i hi => absurd hi (Nat.not_lt_zero _), (Below.refl _ _).alloc (Nat.le_refl _) _⟩
  case round =>
    obtain ⟨k, f, bs, hk, rfl, hrow, hin, hb⟩ := hrel
    by_cases hlt : k < ns.length
    · obtain ⟨n, b, off, a', cap', hvk, hvm, rfl, hbs, hva⟩ := ha.get hlt
      have hva := hva.below hb hbs
      have c0 := hva.tag
      have c1 := hva.sl
      have hvals := hva.vals.mono hb.size
      go_wp2_with (go_at_call 132; refine (toNode_any a' cap' n _ (hv n hvm) hvals).mono ?_; rintro e w' ⟨b', rfl, hbb, hown, hb'⟩; have hrow' := hrow.of_block (hb'.block _ hrow.lt); have d0 := hrow'.cell (i := k * 2) (by omega); have d1 := hrow'.cell (i := k * 2 + 1) (by omega); have f0 := hrow'.frozen)
      go_roundw
      case rel => exact ⟨k + 1, _, _, by omega, by go_num, (hrow'.set _ _).set _ _, hin.step hvk hb' hrow.lt hbb hown _ _ _ _, ((hb.trans (hb'.mono hb.size)).setCell (Nat.le_refl _) _).setCell (Nat.le_refl _) _⟩
      case measure => simp [intOf]; omega
    · go_wp2
      go_ret
      have e : k = ns.length := by omega
      subst e
      exact ⟨_, bs, rfl, Nat.le_refl _, ⟨_, hrow, hin⟩, hb⟩

set_option maxRecDepth 100000 in
theorem toGraph_any (a : Option Addr) (cap : Nat) (g : GG) (w : World) (hl : g.nodes.length ≤ 1048576) (hv : ∀ n, n ∈ g.nodes → n.vals.length ≤ 1048576) (ha : NodesAt w.heap.size w a g.nodes) :
    Calls Try.prog 17 #[g.val a cap] w fun e w' => ∃ b bs, e = .returned (g.val (some ⟨b, 0, none⟩) g.nodes.length) ∧ w.heap.size ≤ b ∧ OwnNodes w' b bs g.nodes ∧ Below w.heap.size w w' := by
  go_enter Try.func17, Try.ntmps17
  go_wp2_with (go_at_call 70; refine (toVal_any g.root _).mono ?_; rintro e w' ⟨rfl, hb'⟩; obtain ⟨hc, hf⟩ := bcell hb')
  have hz : w.heap.size + 1 + 1 < w'.heap.size := by have := hb'.size; simp at this; omega
  have hz1 : w.heap.size + 1 < w'.heap.size := by omega
  have hz0 : w.heap.size < w'.heap.size := by omega
  have hB : Below w.heap.size w w' := gca (gal (gal (gal (gre _) _) _) _) hb'
  refine (toNodeS_any a cap g.nodes _ hl hv (ha.grow (gse (gse (gse (gse hB (by simp; omega) _) (by simp; omega) _) (by simp; omega) _) (by simp; omega) _))).mono ?_
  rintro e w'' ⟨b, bs, rfl, hbb, hown, hb''⟩
  obtain ⟨hc2, hf2⟩ := bcell hb''
  have hB2 : Below w.heap.size w w'' := gca (gse (gse (gse (gse hB (by simp; omega) _) (by simp; omega) _) (by simp; omega) _) (by simp; omega) _) hb''
  have hbb' : w'.heap.size ≤ b := by simpa [World.setCell] using hbb
  clear hbb
  go_wp2
  refine bodyPost_ret (v := g.val (some ⟨b, 0, none⟩) g.nodes.length) (by simp [results, Try.results17, go_sem, hc, hc2, hz1]) rfl ⟨b, bs, rfl, by omega, ?_, ?_⟩
  · exact (((((hown.set (by simp; omega) _).set (by simp; omega) _).set (by simp; omega) _).set (by simp; omega) _).set (by simp; omega) _).set (by simp; omega) _
  · exact gse (gse (gse (gse (gse (gse hB2 (by simp; omega) _) (by simp) _) (by simp) _) (by simp) _) (by simp) _) (by simp) _

end Go.Proofs.Ythjddpkegooobab

/-
  MEND: the mark behind nodes, plain. Own work.
-/
namespace Go.Proofs.Ythjddpkegooobab
open Go.RowKit

/-- the mark behind all of these nodes -/
def mEnd (k : Nat) : List GN → Nat
  | [] => k
  | n :: r => mEnd (k + 1 + 4 * n.vals.length) r
theorem mEnd_small (l : List GN) (h : ∀ n, n ∈ l → n.vals.length ≤ 100) : ∀ k, mEnd k l ≤ k + 401 * l.length := by
  induction l with
  | nil => intro k; simp [mEnd]
  | cons x r ih =>
    intro k
    have h1 := ih (fun n hn => h n (List.mem_cons_of_mem _ hn)) (k + 1 + 4 * x.vals.length)
    have h2 := h x (List.mem_cons_self ..)
    simp only [mEnd, List.length_cons]
    omega
/-- the blocks that a graph's marks touch -/
def Touch (na : Option Addr) (n : Nat) (va : Nat → Option Addr) (b : Nat) : Prop := na = some ⟨b, 0, none⟩ ∨ ∃ i, i < n ∧ va i = some ⟨b, 0, none⟩

end Go.Proofs.Ythjddpkegooobab

/-
  MARKPLAIN: marked graphs, and graphs that may be marked. Own work.
-/
namespace Go.Proofs.Ythjddpkegooobab
open Go.RowKit

/-- these nodes, marked -/
def markNs (k : Nat) : List GN → List GN
  | [] => []
  | n :: r => ⟨(k : Int), markVs (k + 1) n.vals.length⟩ :: markNs (k + 1 + 4 * n.vals.length) r

theorem mEnd_snoc (l : List GN) (n : GN) : ∀ k, mEnd k (l ++ [n]) = mEnd k l + 1 + 4 * n.vals.length := by
  induction l with
  | nil => intro k; rfl
  | cons x r ih => intro k; simp only [List.cons_append, mEnd, ih]
theorem mEnd_le (l : List GN) : ∀ k, k ≤ mEnd k l := by
  induction l with
  | nil => intro k; exact Nat.le_refl _
  | cons x r ih => intro k; have := ih (k + 1 + 4 * x.vals.length); simp only [mEnd]; omega
theorem mEnd_append (l r : List GN) : ∀ k, mEnd k (l ++ r) = mEnd (mEnd k l) r := by
  induction l with
  | nil => intro k; rfl
  | cons x t ih => intro k; simp only [List.cons_append, mEnd, ih]
theorem mEnd_take_succ (l : List GN) (k j : Nat) (h : j < l.length) : mEnd k (l.take (j + 1)) = mEnd k (l.take j) + 1 + 4 * l[j]!.vals.length := by
  rw [take_snoc l j h, mEnd_snoc]
theorem mEnd_take_le (l : List GN) (k j : Nat) : mEnd k (l.take j) ≤ mEnd k l := by
  conv => rhs; rw [← List.take_append_drop j l, mEnd_append]
  exact mEnd_le _ _
theorem mEnd_sz (l : List GN) : ∀ k, (mEnd k l : Int) ≤ k + 4 * (l.length + szNodes l) := by
  induction l with
  | nil => intro k; simp [mEnd, szNodes]
  | cons x r ih =>
    intro k
    have h1 := ih (k + 1 + 4 * x.vals.length)
    have h2 := szVals_nonneg x.vals
    simp only [mEnd, szNodes, GN.sz, List.length_cons]
    omega
theorem markNs_length (l : List GN) : ∀ k, (markNs k l).length = l.length := by
  induction l with
  | nil => intro k; rfl
  | cons x r ih => intro k; simp only [markNs, List.length_cons, ih]
theorem markNs_at (l : List GN) : ∀ (k j : Nat), j < l.length → (markNs k l)[j]! = ⟨((mEnd k (l.take j) : Nat) : Int), markVs (mEnd k (l.take j) + 1) l[j]!.vals.length⟩ := by
  induction l with
  | nil => intro k j h; exact absurd h (Nat.not_lt_zero _)
  | cons x r ih =>
    intro k j h
    cases j with
    | zero => simp [markNs, mEnd]
    | succ j =>
      have h1 := ih (k + 1 + 4 * x.vals.length) j (by simpa using h)
      simpa [markNs, mEnd] using h1

/-- a graph whose nodes and values may be written, each list in a row of its own -/
structure MG (w : World) (na : Option Addr) (ns : List GN) (va : Nat → Option Addr) (vc : Nat → Nat) : Prop where
  nodes : 0 < ns.length → ∃ g, na = some ⟨g, 0, none⟩ ∧ WRow w g (ns.length * 2)
  sl : ∀ g, na = some ⟨g, 0, none⟩ → ∀ i, i < ns.length → w.cell? ⟨g, i * 2 + 1, none⟩ = some (.slice (va i) ns[i]!.vals.length (vc i))
  vals : ∀ i, i < ns.length → 0 < ns[i]!.vals.length → ∃ b, va i = some ⟨b, 0, none⟩ ∧ WRow w b (ns[i]!.vals.length * 4)
  apn : ∀ i, i < ns.length → Far (va i) na
  apv : ∀ i j, i < j → j < ns.length → Far (va i) (va j)

theorem MG.far {w : World} {na : Option Addr} {ns : List GN} {va : Nat → Option Addr} {vc : Nat → Nat} (h : MG w na ns va vc) {i j : Nat} (hi : i < ns.length) (hj : j < ns.length) (hij : i ≠ j) : Far (va i) (va j) := by
  rcases Nat.lt_or_gt_of_ne hij with e | e
  · exact h.apv i j e hj
  · exact (h.apv j i e hi).symm

theorem owns_wrow {w : World} {base t size n cap : Nat} {a : Option Addr} {xs : List Value} (ho : w.ownsRow base t size (.slice a n cap) n xs) (hn : 0 < n) : ∃ b, a = some ⟨b, 0, none⟩ ∧ WRow w b (n * size) := by
  rcases ho.2 with ⟨_, h0⟩ | ⟨g, cap', cur, hv, hb, hg, hc1, hc2, hc3, _⟩
  · omega
  · simp only [Value.slice.injEq] at hv
    obtain ⟨rfl, _, rfl⟩ := hv
    have hsz : n * size ≤ cur.size := by rw [hc3]; exact Nat.mul_le_mul_right _ hc1
    refine ⟨g, rfl, (Array.getElem?_eq_some_iff.1 hg).1, fun i hi => ⟨cur[i]'(by omega), ?_⟩, fun o => ?_⟩
    · simp [World.cell?, hg, show i < cur.size by omega]
    · simp [World.frozen?, hg]

theorem OwnG.mg {w : World} {base : Nat} {na : Option Addr} {nc : Nat} {nl : List NL} (h : OwnG w base na nc nl) : MG w na (nl.map (·.n)) (fun i => nl[i]!.a) (fun i => nl[i]!.cap) := by
  have hlen : (nl.map (·.n)).length = nl.length := by simp
  have e : ∀ i, i < nl.length → (nl.map (·.n))[i]! = (nl[i]!).n := fun i hi => by rw [getElem!_pos _ i (by simpa using hi), getElem!_pos nl i hi]; simp
  refine ⟨fun hn => ?_, fun g hg i hi => ?_, fun i hi hv => ?_, fun i hi => ?_, fun i j hij hj => ?_⟩
  · rw [hlen] at hn ⊢; exact owns_wrow h.nodes hn
  · have hi' : i < nl.length := by omega
    obtain ⟨g1, ha, _, _, c1⟩ := owns_cell h.nodes ((flatMap_get NL.two_length nl i 1 hi' (by decide)).trans rfl)
    rw [hg] at ha
    obtain rfl := some_addr ha
    rw [e i hi', c1]
  · have hi' : i < nl.length := by omega
    rw [e i hi'] at hv ⊢
    exact owns_wrow (h.vals _ (mem_at hi')) hv
  · exact h.apn _ (mem_at (by omega))
  · exact h.apv i j hij (by omega)

theorem OwnNodes.mg {w : World} {N : Nat} {bs : Nat → Nat} {ns : List GN} (h : OwnNodes w N bs ns) : MG w (some ⟨N, 0, none⟩) ns (fun i => some ⟨bs i, 0, none⟩) (fun i => ns[i]!.vals.length) := by
  obtain ⟨f, hr, hn⟩ := h
  refine ⟨fun _ => ⟨N, rfl, hr.lt, fun i hi => ⟨_, hr.cell hi⟩, hr.frozen⟩, fun g hg i hi => ?_, fun i hi hv => ?_, fun i hi => ?_, fun i j hij hj => ?_⟩
  · obtain rfl := some_addr hg
    obtain ⟨h0, h1, _⟩ := hn i hi
    rw [← h1]; exact hr.cell (by omega)
  · obtain ⟨_, _, ⟨f2, hr2, _⟩, _⟩ := hn i hi
    exact ⟨bs i, rfl, hr2.lt, fun j hj => ⟨_, hr2.cell hj⟩, hr2.frozen⟩
  · intro b hb hx
    have e1 := some_addr hb
    have e2 := some_addr hx
    have := (hn i hi).2.2.2.1
    omega
  · intro b hb hx
    have e1 := some_addr hb
    have e2 := some_addr hx
    have := (hn j hj).2.2.2.2 i hij
    omega

theorem ValsAt.kept {p : Nat → Prop} {w w' : World} {B B' : Nat} {a : Option Addr} {vs : List GV} (h : ValsAt B w a vs) (k : Kept p w w') (hB : B ≤ w.heap.size) (hB' : B ≤ B') (hn : ∀ b off, a = some ⟨b, off, none⟩ → ¬ p b) : ValsAt B' w' a vs := fun i hi => by
  obtain ⟨b, off, ha, hb, hv⟩ := h i hi
  exact ⟨b, off, ha, by omega, hv.same (k.block b (by omega) (hn b off ha))⟩

/-- what stands at the head of the round -/
structure NM (w ws : World) (na : Option Addr) (ns : List GN) (va : Nat → Option Addr) (vc : Nat → Nat) (k j : Nat) : Prop where
  kept : Kept (fun b => na = some ⟨b, 0, none⟩ ∨ ∃ i, i < ns.length ∧ va i = some ⟨b, 0, none⟩) w ws
  mg : MG ws na ns va vc
  tags : ∀ g, na = some ⟨g, 0, none⟩ → ∀ i, i < j → ws.cell? ⟨g, i * 2, none⟩ = some (.int .i64 (mEnd k (ns.take i) : Nat))
  vals : ∀ i, i < j → ValsAt ws.heap.size ws (va i) (markVs (mEnd k (ns.take i) + 1) ns[i]!.vals.length)

theorem NM.step {w ws w2 : World} {na : Option Addr} {ns : List GN} {va : Nat → Option Addr} {vc : Nat → Nat} {k j g : Nat} (h : NM w ws na ns va vc k j) (hj : j < ns.length) (hg : na = some ⟨g, 0, none⟩)
    (hK : Kept (fun x => va j = some ⟨x, 0, none⟩) (ws.setCell ⟨g, j * 2, none⟩ (.int .i64 (mEnd k (ns.take j) : Nat))) w2) (hw : 0 < ns[j]!.vals.length → ∃ b, va j = some ⟨b, 0, none⟩ ∧ WRow w2 b (ns[j]!.vals.length * 4))
    (hv : ValsAt w2.heap.size w2 (va j) (markVs (mEnd k (ns.take j) + 1) ns[j]!.vals.length)) : NM w w2 na ns va vc k (j + 1) := by
  have hS := (Kept.refl (fun b => b = g) ws).set (a := ⟨g, j * 2, none⟩) (fun _ => rfl) (.int .i64 (mEnd k (ns.take j) : Nat))
  have hsz : (ws.setCell ⟨g, j * 2, none⟩ (.int .i64 (mEnd k (ns.take j) : Nat))).heap.size = ws.heap.size := by simp [World.setCell]
  have hK2 : Kept (fun b => b = g ∨ va j = some ⟨b, 0, none⟩) ws w2 := (hS.mono (fun _ _ e => Or.inl e)).trans hK (fun _ _ e => Or.inr e)
  have hgj : ¬ va j = some ⟨g, 0, none⟩ := fun e => h.mg.apn j hj g e hg
  obtain ⟨g', hg', hwr⟩ := h.mg.nodes (by omega)
  rw [hg] at hg'
  obtain rfl := some_addr hg'
  refine ⟨h.kept.trans hK2 (fun b _ hp => ?_), ⟨fun _ => ⟨g, hg, (hwr.set _ _).kept hK hgj⟩, fun g1 hg1 i hi => ?_, fun i hi hl => ?_, h.mg.apn, h.mg.apv⟩, fun g1 hg1 i hi => ?_, fun i hi => ?_⟩
  · rcases hp with e | e
    · exact Or.inl (by rw [hg, e])
    · exact Or.inr ⟨j, hj, e⟩
  · rw [hg] at hg1
    obtain rfl := some_addr hg1
    refine hK.cell ?_ hgj
    rw [World.cell?_setCell_other _ _ _ _ (by simp <;> omega)]
    exact h.mg.sl g hg i hi
  · by_cases e : i = j
    · subst e; exact hw hl
    · obtain ⟨b, hb, hr⟩ := h.mg.vals i hi hl
      exact ⟨b, hb, hr.kept hK2 (fun hp => hp.elim (fun e2 => h.mg.apn i hi b hb (by rw [e2, hg])) (fun e2 => h.mg.far hi hj e b hb e2))⟩
  · rw [hg] at hg1
    obtain rfl := some_addr hg1
    refine hK.cell ?_ hgj
    by_cases e : i = j
    · subst e
      obtain ⟨v, hv⟩ := hwr.c (i * 2) (by omega)
      exact World.cell?_setCell_same _ _ _ hv
    · rw [World.cell?_setCell_other _ _ _ _ (by simp <;> omega)]
      exact h.tags g hg i (by omega)
  · by_cases e : i = j
    · subst e; exact hv
    · have hi' : i < ns.length := by omega
      by_cases hl : 0 < ns[i]!.vals.length
      · obtain ⟨b, hb, hr⟩ := h.mg.vals i hi' hl
        refine (h.vals i (by omega)).kept hK2 (Nat.le_refl _) hK2.size (fun b2 off hb2 hp => ?_)
        rw [hb] at hb2
        simp at hb2
        obtain ⟨rfl, _⟩ := hb2
        exact hp.elim (fun e2 => h.mg.apn i hi' b hb (by rw [e2, hg])) (fun e2 => h.mg.far hi' hj e b hb e2)
      · intro x hx
        rw [markVs_length] at hx
        omega

/-- all marked -/
theorem NM.at_ {w ws : World} {na : Option Addr} {ns : List GN} {va : Nat → Option Addr} {vc : Nat → Nat} {k : Nat} (h : NM w ws na ns va vc k ns.length) : NodesAt ws.heap.size ws na (markNs k ns) := fun i hi => by
  rw [markNs_length] at hi
  obtain ⟨g, hg, hwr⟩ := h.mg.nodes (by omega)
  refine ⟨g, 0, va i, vc i, hg, hwr.lt, ?_⟩
  rw [markNs_at ns k i hi, Nat.zero_add]
  refine ⟨h.tags g hg i hi, ?_, h.vals i hi⟩
  simp only [markVs_length]
  exact h.mg.sl g hg i hi

end Go.Proofs.Ythjddpkegooobab

/-
  MARKNODES: the laws' marks in a graph, and their look at them. Own work.
-/
namespace Go.Proofs.Ythjddpkegooobab
open Go.RowKit

set_option maxRecDepth 100000 in
theorem markValS_none (a : Option Addr) (cap k : Nat) (w : World) :
    Calls Try.prog 141 #[.slice a 0 cap, .int .i64 k] w fun e w' => e = .returned (.int .i64 (k : Int)) ∧ Below w.heap.size w w' := by
  go_enter Try.func141, Try.ntmps141
  go_wp2
  go_loopw [1, 5] (fun kk i ws => kk = .int .i64 (k : Int) ∧ i = .int .i64 0 ∧ Below w.heap.size w ws) (fun _ _ _ => 0)
  case atStart => exact ⟨rfl, rfl, gre _⟩
  case round =>
    obtain ⟨rfl, rfl, hb⟩ := hrel
    go_wp2
    go_ret
    exact ⟨rfl, hb⟩

set_option maxRecDepth 100000 in
/-- marking any row of values of a graph -/
theorem markValS_row (a : Option Addr) (n cap k : Nat) (w : World) (hk0 : 0 < k) (hk : k + 4 * n ≤ 1099511627776) (hr : 0 < n → ∃ b, a = some ⟨b, 0, none⟩ ∧ WRow w b (n * 4)) :
    Calls Try.prog 141 #[.slice a n cap, .int .i64 k] w fun e w' => e = .returned (.int .i64 ((k + 4 * n : Nat) : Int)) ∧ Kept (fun x => a = some ⟨x, 0, none⟩) w w' ∧ (0 < n → ∃ b, a = some ⟨b, 0, none⟩ ∧ WRow w' b (n * 4)) ∧ ValsAt w'.heap.size w' a (markVs k n) := by
  by_cases hn : 0 < n
  · obtain ⟨b, rfl, hw⟩ := hr hn
    refine (markValS_any b n cap k w hk0 hk hw).mono ?_
    rintro e w' ⟨rfl, h⟩
    exact ⟨rfl, h.kept.mono (fun x _ hx => by rw [hx]), fun _ => ⟨b, rfl, h.row⟩, h.at_ h.row.lt⟩
  · obtain rfl : n = 0 := by omega
    refine (markValS_none a cap k w).mono ?_
    rintro e w' ⟨rfl, hb⟩
    exact ⟨rfl, Kept.of_below hb _, fun h => absurd h (Nat.lt_irrefl _), fun i hi => absurd hi (by rw [markVs_length]; omega)⟩

set_option maxRecDepth 100000 in
theorem markNodeS_any (na : Option Addr) (nc : Nat) (ns : List GN) (va : Nat → Option Addr) (vc : Nat → Nat) (k : Nat) (w : World) (_hk0 : 0 < k) (hk : mEnd k ns ≤ 1099511627776) (hl : ns.length ≤ maxLen) (h : MG w na ns va vc) :
    Calls Try.prog 82 #[.slice na ns.length nc, .int .i64 k] w fun e w' => e = .returned (.int .i64 (mEnd k ns : Nat)) ∧ NM w w' na ns va vc k ns.length := by
  unfold maxLen at hl
  go_enter Try.func82, Try.ntmps82
  go_wp2
  go_loopw [1, 5] (fun kk i ws => ∃ (j q : Nat), j ≤ ns.length ∧ q = mEnd k (ns.take j) ∧ kk = .int .i64 (q : Int) ∧ i = .int .i64 (j : Int) ∧ NM w ws na ns va vc k j) (fun _ i _ => ns.length - (intOf i).toNat)
  case atStart => exact ⟨0, k, Nat.zero_le _, rfl, rfl, rfl, Kept.refl _ _, h, fun _ _ i hi => absurd hi (Nat.not_lt_zero _), fun i hi => absurd hi (Nat.not_lt_zero _)⟩
  case round =>
    obtain ⟨j, q, hj, hq, rfl, rfl, hD⟩ := hrel
    by_cases hlt : j < ns.length
    · have i0 : (0 : Int) ≤ (j : Int) := by omega
      have i1 : (j : Int) < (ns.length : Int) := by omega
      obtain ⟨g, rfl, hwr⟩ := hD.mg.nodes (by omega)
      obtain ⟨v0, c0⟩ := hwr.c (j * 2) (by omega)
      have c1 := hD.mg.sl g rfl j hlt
      have c1' := (World.cell?_setCell_other wr ⟨g, j * 2, none⟩ ⟨g, j * 2 + 1, none⟩ (.int .i64 (q : Int)) (by simp)).trans c1
      have hf := hwr.f
      have h1 := mEnd_take_le ns k (j + 1)
      have h2 := mEnd_take_succ ns k j hlt
      have h3 := mEnd_le (ns.take j) k
      have hqq : q + 1 + 4 * ns[j]!.vals.length ≤ 1099511627776 := by omega
      have hq0 : k ≤ q := by omega
      have hvr : 0 < ns[j]!.vals.length → ∃ b, va j = some ⟨b, 0, none⟩ ∧ WRow (wr.setCell ⟨g, j * 2, none⟩ (.int .i64 (q : Int))) b (ns[j]!.vals.length * 4) := fun hl => by
        obtain ⟨b, hb, hr⟩ := hD.mg.vals j hlt hl
        exact ⟨b, hb, hr.set _ _⟩
      obtain ⟨n, hn⟩ : ∃ n, Hid (n = ns[j]!.vals.length) := ⟨_, rfl⟩
      rw [← hn.out] at c1 c1' hqq hvr
      have hq' : Hid _ := hq
      have h2' : Hid _ := h2
      clear h1 h2 h3 c1 hq
      go_wp2_with (go_at_call 141; rw [show ((q : Int) + 1) = ((q + 1 : Nat) : Int) by omega]; refine (markValS_row (va j) n (vc j) (q + 1) _ (by omega) (by omega) hvr).mono ?_; rintro e w2 ⟨rfl, hK2, hw2, hv2⟩)
      have hfin := hD.step hlt rfl (by rw [← hq'.out]; exact hK2) (by rw [← hn.out]; exact hw2) (by rw [← hq'.out, ← hn.out]; exact hv2)
      have hqe : Hid (q + 1 + 4 * n = mEnd k (ns.take (j + 1))) := by have h9 := h2'.out; have h8 := hq'.out; have h7 := hn.out; show _ = _; omega
      refine ⟨⟨j + 1, q + 1 + 4 * n, by omega, hqe.out, by go_num, by go_num, hfin⟩, ?_⟩
      simp [intOf]; omega
    · have e : j = ns.length := by omega
      subst e
      rw [List.take_length] at hq
      subst hq
      go_wp2
      go_ret
      exact ⟨rfl, hD⟩

set_option maxRecDepth 100000 in
theorem MG.kept {p : Nat → Prop} {w w' : World} {na : Option Addr} {ns : List GN} {va : Nat → Option Addr} {vc : Nat → Nat} (h : MG w na ns va vc) (k : Kept p w w') (hn : ∀ b, na = some ⟨b, 0, none⟩ → ¬ p b) (hv : ∀ i, i < ns.length → ∀ b, va i = some ⟨b, 0, none⟩ → ¬ p b) : MG w' na ns va vc :=
  ⟨fun h0 => let ⟨g, hg, hr⟩ := h.nodes h0; ⟨g, hg, hr.kept k (hn g hg)⟩, fun g hg i hi => k.cell (h.sl g hg i hi) (hn g hg), fun i hi h0 => let ⟨b, hb, hr⟩ := h.vals i hi h0; ⟨b, hb, hr.kept k (hv i hi b hb)⟩, h.apn, h.apv⟩
theorem MG.grow {w w' : World} {na : Option Addr} {ns : List GN} {va : Nat → Option Addr} {vc : Nat → Nat} (h : MG w na ns va vc) (hb : Below w.heap.size w w') : MG w' na ns va vc := h.kept (Kept.of_below hb (fun _ => False)) (fun _ _ e => e) (fun _ _ _ _ e => e)


set_option maxRecDepth 100000 in
theorem markGraph_any (g : GG) (na : Option Addr) (nc : Nat) (va : Nat → Option Addr) (vc : Nat → Nat) (k : Nat) (w : World) (hk0 : 0 < k) (hk : mEnd k g.nodes ≤ 1099511627776) (hl : g.nodes.length ≤ maxLen) (h : MG w na g.nodes va vc) :
    Calls Try.prog 21 #[g.val na nc, .int .i64 k] w fun e w' => e = .returned (.int .i64 (mEnd k g.nodes : Nat)) ∧ Kept (Touch na g.nodes.length va) w w' ∧ NodesAt w'.heap.size w' na (markNs k g.nodes) := by
  go_enter Try.func21, Try.ntmps21
  go_wp2_with (go_at_call 82; refine (markNodeS_any na nc g.nodes va vc k _ hk0 hk hl (h.grow (gal (gre _) _))).mono ?_; rintro e w' ⟨rfl, hN⟩)
  go_ret
  exact ⟨rfl, (Kept.of_below (gal (gre w) _) _).trans hN.kept (fun _ _ hp => hp), hN.at_⟩

end Go.Proofs.Ythjddpkegooobab

/-
  LATERA: what stays, later. Own work.
-/
namespace Go.Proofs.Ythjddpkegooobab
open Go.RowKit

theorem OwnG.later {w w' : World} {base : Nat} {na : Option Addr} {nc : Nat} {nl : List NL} (h : OwnG w base na nc nl) (hb : Below w.heap.size w w') : OwnG w' base na nc nl := h.kept (Kept.of_below hb (fun _ => False)) (fun _ _ e => e) (fun _ _ _ _ e => e)
theorem canonZ_ok {g : GG} (hg : g.Ok) : (canonZ g).Ok := by
  unfold canonZ
  split
  · exact canon_ok hg (by assumption)
  · exact ⟨⟨by unfold I64; simp, by unfold I64; simp, by show 0 ≤ maxLen; exact Nat.zero_le _, by unfold I64; simp⟩, by show 0 ≤ maxLen; exact Nat.zero_le _, fun n hn => by cases hn⟩
theorem OwnG.touch {w : World} {base : Nat} {na : Option Addr} {nc : Nat} {nl : List NL} (h : OwnG w base na nc nl) {b : Nat} (hb : Touch na nl.length (fun i => nl[i]!.a) b) : base ≤ b ∧ b < w.heap.size := by
  rcases hb with e | ⟨i, hi, e⟩
  · exact h.nodes.lt b (by rw [e]; rfl)
  · exact (h.vals _ (mem_at hi)).lt b (by simp only at e; rw [e]; rfl)

end Go.Proofs.Ythjddpkegooobab

/-
  LATER: small facts for laws on graphs. Own work.
-/
namespace Go.Proofs.Ythjddpkegooobab
open Go.RowKit

theorem OwnNodes.touch {w : World} {N : Nat} {bs : Nat → Nat} {ns : List GN} (h : OwnNodes w N bs ns) {b : Nat} (hb : Touch (some ⟨N, 0, none⟩) ns.length (fun i => some ⟨bs i, 0, none⟩) b) : N ≤ b ∧ b < w.heap.size := by
  obtain ⟨f, hr, hn⟩ := h
  rcases hb with e | ⟨i, hi, e⟩
  · have e2 := some_addr e
    subst e2
    exact ⟨Nat.le_refl _, hr.lt⟩
  · have e2 := some_addr e
    obtain ⟨_, _, h2, h3, _⟩ := hn i hi
    have := h2.lt
    subst e2
    exact ⟨by omega, this⟩

theorem canonZ_small (g : GG) : (canonZ g).nodes.length ≤ 300 ∧ mEnd 1 (canonZ g).nodes ≤ 1099511627776 := by
  unfold canonZ
  split
  · rename_i hok
    have h := canon_small hok
    have h2 := mEnd_small (canon g).nodes h.2 1
    exact ⟨h.1, by omega⟩
  · exact ⟨Nat.zero_le _, by simp [mEnd]⟩

end Go.Proofs.Ythjddpkegooobab

/-
  SMALL: what a graph's size says of its parts. Own work.
-/
namespace Go.Proofs.Ythjddpkegooobab

/-- what a size at most so great says of the parts -/
theorem GG.small {g : GG} (h : g.sz ≤ 1048576) : g.nodes.length ≤ 1048576 ∧ ∀ n, n ∈ g.nodes → n.vals.length ≤ 1048576 := by
  have h0 := g.root.sz_nonneg
  have h1 := szNodes_nonneg g.nodes
  unfold GG.sz at h
  refine ⟨by omega, fun n hn => ?_⟩
  have h2 : n.sz ≤ szNodes g.nodes := by
    clear h h0 h1
    generalize g.nodes = l at hn ⊢
    induction l with
    | nil => cases hn
    | cons x r ih =>
      simp only [szNodes]
      have := x.sz_nonneg
      have := szNodes_nonneg r
      cases List.mem_cons.1 hn with
      | inl e => subst e; omega
      | inr e => have := ih e; omega
  have h3 := szVals_nonneg n.vals
  unfold GN.sz at h2
  omega

end Go.Proofs.Ythjddpkegooobab

/-
  SZ: the laws' sizes. Own work.
-/
namespace Go.Proofs.Ythjddpkegooobab
open Go.RowKit

set_option maxRecDepth 100000 in
theorem szVal_any (v : GV) (left : Int) (w : World) (hv : v.Ok) (h0 : 0 ≤ left) (h1 : left ≤ 1048576) :
    Calls Try.prog 66 #[v.val, .int .i64 left] w fun e w' => e = .returned (.int .i64 (leftBy left v.sz)) ∧ Below w.heap.size w w' := by
  have ht := hv.text
  unfold maxLen at ht
  go_enter Try.func66, Try.ntmps66
  go_wp2
  all_goals go_ret
  · exact ⟨ret_int (leftBy_neg (by assumption)).symm, (Below.refl _ _).alloc (Nat.le_refl _) _⟩
  · exact ⟨ret_int (leftBy_pos (Int.not_lt.2 (by assumption))).symm, (Below.refl _ _).alloc (Nat.le_refl _) _⟩

set_option maxRecDepth 100000 in
theorem szValS_any (a : Option Addr) (cap : Nat) (vs : List GV) (left : Int) (w : World) (hl : vs.length ≤ maxLen) (hv : ∀ v, v ∈ vs → v.Ok) (h0 : 0 ≤ left) (h1 : left ≤ 1048576) (ha : ValsAt w.heap.size w a vs) :
    Calls Try.prog 163 #[.slice a vs.length cap, .int .i64 left] w fun e w' => e = .returned (.int .i64 (leftBy left (vs.length + szVals vs))) ∧ Below w.heap.size w w' := by
  unfold maxLen at hl
  have hsn := szVals_nonneg vs
  go_enter Try.func163, Try.ntmps163
  go_wp2
  · go_ret
    exact ⟨ret_int (leftBy_neg (by omega)).symm, Below.refl _ _⟩
  go_loopw [1, 5] (fun l i wr => ∃ k : Nat, k ≤ vs.length ∧ i = .int .i64 k ∧ l = .int .i64 (left - vs.length - szVals (vs.take k)) ∧ 0 ≤ left - vs.length - szVals (vs.take k) ∧ Below w.heap.size w wr) (fun _ i _ => vs.length - (intOf i).toNat)
  case atStart => exact ⟨0, Nat.zero_le _, rfl, by simp [szVals], by simp [szVals]; omega, Below.refl _ _⟩
  case round =>
    obtain ⟨k, hk, rfl, rfl, hpos, hb⟩ := hrel
    by_cases hlt : k < vs.length
    · obtain ⟨v, b, off, hvk, hvm, rfl, hbs, hva⟩ := ha.get hlt
      have hva := hva.below hb hbs
      have c0 := hva.kind
      have c1 := hva.num
      have c2 := hva.text
      have c3 := hva.node
      have hstep : Hid (szVals (vs.take (k + 1)) = szVals (vs.take k) + v.sz) := by rw [hvk.out]; exact szVals_take_succ vs k hlt
      have hle := szVals_take_le vs (k + 1)
      have hn0 := szVals_nonneg (vs.take k)
      have hvz := v.sz_nonneg
      go_wp2_with (go_at_call 66; refine (szVal_any v _ _ (hv v hvm) (by omega) (by omega)).mono ?_; rintro e w' ⟨rfl, hb'⟩)
      · go_ret
        have hn := leftBy_of_neg (by assumption)
        have hs := hstep.out
        exact ⟨ret_int (leftBy_neg (by omega)).symm, hb.trans (hb'.mono hb.size)⟩
      · have hn := leftBy_of_nonneg (by assumption)
        have hs := hstep.out
        go_roundw
        case rel => exact ⟨k + 1, by omega, by go_num, by rw [hn.1, hs]; go_num, by omega, hb.trans (hb'.mono hb.size)⟩
        case measure => simp [intOf]; omega
    · go_wp2
      go_ret
      have e : k = vs.length := by omega
      subst e
      rw [List.take_length] at hpos
      exact ⟨ret_int (by rw [List.take_length, leftBy_pos (by omega)]; omega), hb⟩

set_option maxRecDepth 100000 in
theorem szNode_any (a : Option Addr) (cap : Nat) (n : GN) (left : Int) (w : World) (hn : n.Ok) (h0 : 0 ≤ left) (h1 : left ≤ 1048576) (ha : ValsAt w.heap.size w a n.vals) :
    Calls Try.prog 125 #[.agg #[.int .i64 n.tag, .slice a n.vals.length cap], .int .i64 left] w fun e w' => e = .returned (.int .i64 (leftBy left n.sz)) ∧ Below w.heap.size w w' := by
  have hz : Hid (n.sz = n.vals.length + szVals n.vals) := rfl
  go_enter Try.func125, Try.ntmps125
  go_wp2_with (go_at_call 163; refine (szValS_any a cap n.vals _ _ hn.len hn.vals h0 h1 ((ha.below ((Below.refl _ _).alloc (Nat.le_refl _) _)).mono (by simp))).mono ?_; rintro e w' ⟨rfl, hb'⟩)
  · go_ret
    have hneg := leftBy_of_neg (by assumption)
    have := hz.out
    exact ⟨ret_int (leftBy_neg (by omega)).symm, ((Below.refl _ _).alloc (Nat.le_refl _) _).trans (hb'.mono (by simp))⟩
  · go_ret
    have := hz.out
    exact ⟨ret_int (by rw [this]), ((Below.refl _ _).alloc (Nat.le_refl _) _).trans (hb'.mono (by simp))⟩

set_option maxRecDepth 100000 in
theorem szNodeS_any (a : Option Addr) (cap : Nat) (ns : List GN) (left : Int) (w : World) (hl : ns.length ≤ maxLen) (hv : ∀ n, n ∈ ns → n.Ok) (h0 : 0 ≤ left) (h1 : left ≤ 1048576) (ha : NodesAt w.heap.size w a ns) :
    Calls Try.prog 67 #[.slice a ns.length cap, .int .i64 left] w fun e w' => e = .returned (.int .i64 (leftBy left (ns.length + szNodes ns))) ∧ Below w.heap.size w w' := by
  unfold maxLen at hl
  have hsn := szNodes_nonneg ns
  go_enter Try.func67, Try.ntmps67
  go_wp2
  · go_ret
    exact ⟨ret_int (leftBy_neg (by omega)).symm, Below.refl _ _⟩
  go_loopw [1, 5] (fun l i wr => ∃ k : Nat, k ≤ ns.length ∧ i = .int .i64 k ∧ l = .int .i64 (left - ns.length - szNodes (ns.take k)) ∧ 0 ≤ left - ns.length - szNodes (ns.take k) ∧ Below w.heap.size w wr) (fun _ i _ => ns.length - (intOf i).toNat)
  case atStart => exact ⟨0, Nat.zero_le _, rfl, by simp [szNodes], by simp [szNodes]; omega, Below.refl _ _⟩
  case round =>
    obtain ⟨k, hk, rfl, rfl, hpos, hb⟩ := hrel
    by_cases hlt : k < ns.length
    · obtain ⟨n, b, off, a', cap', hvk, hvm, rfl, hbs, hva⟩ := ha.get hlt
      have hva := hva.below hb hbs
      have c0 := hva.tag
      have c1 := hva.sl
      have hstep : Hid (szNodes (ns.take (k + 1)) = szNodes (ns.take k) + n.sz) := by rw [hvk.out]; exact szNodes_take_succ ns k hlt
      have hle := szNodes_take_le ns (k + 1)
      have hn0 := szNodes_nonneg (ns.take k)
      have hvz := n.sz_nonneg
      have hvals := hva.vals
      go_wp2_with (go_at_call 125; refine (szNode_any a' cap' n _ _ (hv n hvm) (by omega) (by omega) (hvals.mono hb.size)).mono ?_; rintro e w' ⟨rfl, hb'⟩)
      · go_ret
        have hn := leftBy_of_neg (by assumption)
        have hs := hstep.out
        exact ⟨ret_int (leftBy_neg (by omega)).symm, hb.trans (hb'.mono hb.size)⟩
      · have hn := leftBy_of_nonneg (by assumption)
        have hs := hstep.out
        go_roundw
        case rel => exact ⟨k + 1, by omega, by go_num, by rw [hn.1, hs]; go_num, by omega, hb.trans (hb'.mono hb.size)⟩
        case measure => simp [intOf]; omega
    · go_wp2
      go_ret
      have e : k = ns.length := by omega
      subst e
      rw [List.take_length] at hpos
      exact ⟨ret_int (by rw [List.take_length, leftBy_pos (by omega)]; omega), hb⟩

set_option maxRecDepth 100000 in
theorem szGraph_any (a : Option Addr) (cap : Nat) (g : GG) (left : Int) (w : World) (hg : g.Ok) (h0 : 0 ≤ left) (h1 : left ≤ 1048576) (ha : NodesAt w.heap.size w a g.nodes) :
    Calls Try.prog 15 #[g.val a cap, .int .i64 left] w fun e w' => e = .returned (.int .i64 (leftBy left g.sz)) ∧ Below w.heap.size w w' := by
  have hz : Hid (g.sz = g.root.sz + g.nodes.length + szNodes g.nodes) := rfl
  have hrz := g.root.sz_nonneg
  have hnz := szNodes_nonneg g.nodes
  go_enter Try.func15, Try.ntmps15
  go_wp2_with (go_at_call 66; refine (szVal_any g.root _ _ hg.root h0 h1).mono ?_; rintro e w' ⟨rfl, hb'⟩; obtain ⟨hc, hf⟩ := bcell hb')
  · go_ret
    have hneg := leftBy_of_neg (by assumption)
    have := hz.out
    exact ⟨ret_int (leftBy_neg (by omega)).symm, ((Below.refl _ _).alloc (Nat.le_refl _) _).trans (hb'.mono (by simp))⟩
  · have hnn := leftBy_of_nonneg (by assumption)
    have hB : Below w.heap.size w w' := ((Below.refl _ _).alloc (Nat.le_refl _) _).trans (hb'.mono (by simp))
    have hle : leftBy left g.root.sz ≤ 1048576 := by omega
    have hge : 0 ≤ leftBy left g.root.sz := by omega
    have hnn' : Hid _ := hnn
    clear hnn
    go_wp2_with (go_at_call 67; refine (szNodeS_any a cap g.nodes _ _ hg.len hg.nodes hge hle ((ha.below hB).mono hB.size)).mono ?_; rintro e w'' ⟨rfl, hb''⟩)
    · go_ret
      have hneg := leftBy_of_neg (by assumption)
      have := hz.out
      have := hnn'.out
      exact ⟨ret_int (leftBy_neg (by omega)).symm, hB.trans (hb''.mono hB.size)⟩
    · go_ret
      have h1 := leftBy_of_nonneg (by assumption)
      have := hz.out
      have := hnn'.out
      exact ⟨ret_int (by rw [h1.1, leftBy_pos (s := g.sz) (by omega)]; omega), hB.trans (hb''.mono hB.size)⟩

end Go.Proofs.Ythjddpkegooobab

/-
  EQ: the laws' comparisons, where both are the same. Own work.
-/
namespace Go.Proofs.Ythjddpkegooobab
open Go.RowKit

set_option maxRecDepth 100000 in
theorem eqVal_same (v : GV) (w : World) :
    Calls Try.prog 80 #[v.val, v.val] w fun e w' => e = .returned (.bool true) ∧ Below w.heap.size w w' := by
  go_enter Try.func80, Try.ntmps80
  go_wp2
  all_goals go_ret
  all_goals exact ⟨rfl, gal (gal (gre _) _) _⟩

set_option maxRecDepth 100000 in
theorem eqValS_same (a a' : Option Addr) (cap cap' : Nat) (vs : List GV) (w : World) (hl : vs.length ≤ maxLen) (ha : ValsAt w.heap.size w a vs) (ha' : ValsAt w.heap.size w a' vs) :
    Calls Try.prog 171 #[.slice a vs.length cap, .slice a' vs.length cap'] w fun e w' => e = .returned (.bool true) ∧ Below w.heap.size w w' := by
  unfold maxLen at hl
  go_enter Try.func171, Try.ntmps171
  go_wp2
  go_loopw [5] (fun i wr => ∃ k : Nat, k ≤ vs.length ∧ i = .int .i64 k ∧ Below w.heap.size w wr) (fun i _ => vs.length - (intOf i).toNat)
  case atStart => exact ⟨0, Nat.zero_le _, rfl, Below.refl _ _⟩
  case round =>
    obtain ⟨k, hk, rfl, hb⟩ := hrel
    by_cases hlt : k < vs.length
    · obtain ⟨v, b, off, hvk, hvm, rfl, hbs, hva⟩ := ha.get hlt
      obtain ⟨v', b', off', hvk', hvm', rfl, hbs', hva'⟩ := ha'.get hlt
      have e : v' = v := by rw [hvk.out, hvk'.out]
      subst e
      have hva := hva.below hb hbs
      have hva' := hva'.below hb hbs'
      have hz1 : b < wr.heap.size := Nat.lt_of_lt_of_le hbs hb.size
      have hz2 : b' < wr.heap.size := Nat.lt_of_lt_of_le hbs' hb.size
      have c0 := hva.kind
      have c1 := hva.num
      have c2 := hva.text
      have c3 := hva.node
      have d0 := hva'.kind
      have d1 := hva'.num
      have d2 := hva'.text
      have d3 := hva'.node
      have i0 : (0 : Int) ≤ (k : Int) := by omega
      have i1 : (k : Int) < (vs.length : Int) := by omega
      clear ha ha' hvk hvk' hva hva'
      go_wp2
      go_region_held3 (fun w' => w'.cell? ⟨b, off + k * 4, none⟩ = some (.int .i64 v'.kind) ∧ w'.cell? ⟨b, off + k * 4 + 1, none⟩ = some (.int .i64 v'.num) ∧ w'.cell? ⟨b, off + k * 4 + 2, none⟩ = some (.string v'.text) ∧ w'.cell? ⟨b, off + k * 4 + 3, none⟩ = some (.int .i64 v'.node) ∧ w'.cell? ⟨b', off' + k * 4, none⟩ = some (.int .i64 v'.kind) ∧ w'.cell? ⟨b', off' + k * 4 + 1, none⟩ = some (.int .i64 v'.num) ∧ w'.cell? ⟨b', off' + k * 4 + 2, none⟩ = some (.string v'.text) ∧ w'.cell? ⟨b', off' + k * 4 + 3, none⟩ = some (.int .i64 v'.node)) (first | go_keep | (go_split_ands; refine ⟨?_, ?_, ?_, ?_, ?_, ?_, ?_, ?_⟩ <;> exact cell_later hb' (by assumption))) ((go_at_call 80; refine (eqVal_same v' _).mono ?_; rintro e w' ⟨rfl, hb'⟩))
      go_wp2
      go_roundw
      case rel => exact ⟨k + 1, by omega, by go_num, gca (gdr hb) hb'⟩
      case measure => simp [intOf]; omega
    · go_wp2
      go_ret
      exact ⟨rfl, hb⟩

set_option maxRecDepth 100000 in
theorem eqNode_same (a a' : Option Addr) (cap cap' : Nat) (n : GN) (w : World) (hl : n.vals.length ≤ maxLen) (ha : ValsAt w.heap.size w a n.vals) (ha' : ValsAt w.heap.size w a' n.vals) :
    Calls Try.prog 140 #[.agg #[.int .i64 n.tag, .slice a n.vals.length cap], .agg #[.int .i64 n.tag, .slice a' n.vals.length cap']] w fun e w' => e = .returned (.bool true) ∧ Below w.heap.size w w' := by
  go_enter Try.func140, Try.ntmps140
  go_wp2_with (go_at_call 171; refine (eqValS_same a a' cap cap' n.vals _ hl (ha.grow (gal (gal (gre _) _) _)) (ha'.grow (gal (gal (gre _) _) _))).mono ?_; rintro e w' ⟨rfl, hb'⟩)
  go_ret
  exact ⟨rfl, gca (gal (gal (gre _) _) _) hb'⟩

set_option maxRecDepth 100000 in
theorem eqNodeS_same (a a' : Option Addr) (cap cap' : Nat) (ns : List GN) (w : World) (hl : ns.length ≤ maxLen) (hv : ∀ n, n ∈ ns → n.vals.length ≤ maxLen) (ha : NodesAt w.heap.size w a ns) (ha' : NodesAt w.heap.size w a' ns) :
    Calls Try.prog 81 #[.slice a ns.length cap, .slice a' ns.length cap'] w fun e w' => e = .returned (.bool true) ∧ Below w.heap.size w w' := by
  unfold maxLen at hl
  go_enter Try.func81, Try.ntmps81
  go_wp2
  go_loopw [5] (fun i wr => ∃ k : Nat, k ≤ ns.length ∧ i = .int .i64 k ∧ Below w.heap.size w wr) (fun i _ => ns.length - (intOf i).toNat)
  case atStart => exact ⟨0, Nat.zero_le _, rfl, Below.refl _ _⟩
  case round =>
    obtain ⟨k, hk, rfl, hb⟩ := hrel
    by_cases hlt : k < ns.length
    · obtain ⟨n, b, off, av, cv, hvk, hvm, rfl, hbs, hva⟩ := ha.get hlt
      obtain ⟨n', b', off', av', cv', hvk', hvm', rfl, hbs', hva'⟩ := ha'.get hlt
      have e : n' = n := by rw [hvk.out, hvk'.out]
      subst e
      have hva := hva.below hb hbs
      have hva' := hva'.below hb hbs'
      have c0 := hva.tag
      have c1 := hva.sl
      have d0 := hva'.tag
      have d1 := hva'.sl
      have i0 : (0 : Int) ≤ (k : Int) := by omega
      have i1 : (k : Int) < (ns.length : Int) := by omega
      have hvl := hv n' hvm
      have hv1 : ValsAt wr.drew.heap.size wr.drew av n'.vals := (hva.vals.mono hb.size).grow (gdr (gre _))
      have hv2 : ValsAt wr.drew.heap.size wr.drew av' n'.vals := (hva'.vals.mono hb.size).grow (gdr (gre _))
      clear ha ha' hvk hvk' hva hva'
      go_wp2
      go_region_held3 (fun w' => w'.cell? ⟨b, off + k * 2, none⟩ = some (.int .i64 n'.tag) ∧ w'.cell? ⟨b, off + k * 2 + 1, none⟩ = some (.slice av n'.vals.length cv) ∧ w'.cell? ⟨b', off' + k * 2, none⟩ = some (.int .i64 n'.tag) ∧ w'.cell? ⟨b', off' + k * 2 + 1, none⟩ = some (.slice av' n'.vals.length cv')) (first | go_keep | (go_split_ands; refine ⟨?_, ?_, ?_, ?_⟩ <;> exact cell_later hb' (by assumption))) ((go_at_call 140; refine (eqNode_same av av' cv cv' n' _ hvl hv1 hv2).mono ?_; rintro e w' ⟨rfl, hb'⟩))
      go_wp2
      go_roundw
      case rel => exact ⟨k + 1, by omega, by go_num, gca (gdr hb) hb'⟩
      case measure => simp [intOf]; omega
    · go_wp2
      go_ret
      exact ⟨rfl, hb⟩

set_option maxRecDepth 100000 in
theorem eqGraph_same (a a' : Option Addr) (cap cap' : Nat) (g : GG) (w : World) (hg : g.Ok) (ha : NodesAt w.heap.size w a g.nodes) (ha' : NodesAt w.heap.size w a' g.nodes) :
    Calls Try.prog 20 #[g.val a cap, g.val a' cap'] w fun e w' => e = .returned (.bool true) ∧ Below w.heap.size w w' := by
  go_enter Try.func20, Try.ntmps20
  go_wp2_with (first | (go_at_call 80; refine (eqVal_same g.root _).mono ?_; rintro e w' ⟨rfl, hb'⟩; obtain ⟨hc, hf⟩ := bcell hb') | (go_at_call 81; refine (eqNodeS_same a a' cap cap' g.nodes _ hg.len (fun n hn => (hg.nodes n hn).len) (ha.grow (gca (gal (gal (gre _) _) _) hb')) (ha'.grow (gca (gal (gal (gre _) _) _) hb'))).mono ?_; rintro e w'' ⟨rfl, hb''⟩))
  go_ret
  exact ⟨rfl, gca (gca (gal (gal (gre _) _) _) hb') hb''⟩

end Go.Proofs.Ythjddpkegooobab
