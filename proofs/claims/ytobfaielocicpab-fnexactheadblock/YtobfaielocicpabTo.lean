/-
  TO: the laws' copies. Own work.
-/
import Derived.Test.YtobfaielocicpabBRow
import Derived.Deep.OwnRows
namespace Go.Proofs.Ytobfaielocicpab
open Go.RowKit

set_option maxRecDepth 100000 in
theorem info_implVal : (Try.prog.info? 30).map (fun i => (i.zero, i.size, i.bytes)) = some (some (.agg #[.int .i64 0, .int .i64 0, .string .empty, .int .i64 0]), 4, 40) := by kernel_rfl

theorem toVal_any (v : GV) (w : World) :
    Calls Try.prog 70 #[v.val] w fun e w' => e = .returned v.val ∧ Below w.heap.size w w' := by
  go_enter Try.func70, Try.ntmps70
  go_wp2
  exact bodyPost_ret (v := v.val) (by simp [results, Try.results70, go_sem]) rfl ⟨rfl, (((Below.refl _ _).alloc (Nat.le_refl _) _).alloc (by simp) _).alloc (by simp; omega) _⟩

/-- the first k values are laid -/
def ValsIn (f : Nat → Value) (vs : List GV) (k : Nat) : Prop :=
  ∀ i, i < k → f (i * 4) = .int .i64 vs[i]!.kind ∧ f (i * 4 + 1) = .int .i64 vs[i]!.num ∧ f (i * 4 + 2) = .string vs[i]!.text ∧ f (i * 4 + 3) = .int .i64 vs[i]!.node

set_option maxRecDepth 100000 in
theorem ValsIn.at_ {w : World} {b t n : Nat} {f : Nat → Value} {vs : List GV} (h : ValsIn f vs vs.length) (hr : w.rowIs b t n f) (hn : n = vs.length * 4) {B : Nat} (hB : b < B) : ValsAt B w (some ⟨b, 0, none⟩) vs := fun i hi => by
  obtain ⟨h0, h1, h2, h3⟩ := h i hi
  refine ⟨b, 0, rfl, hB, ?_, ?_, ?_, ?_⟩
  · rw [← h0, Nat.zero_add]; exact hr.cell (by omega)
  · rw [← h1, Nat.zero_add]; exact hr.cell (by omega)
  · rw [← h2, Nat.zero_add]; exact hr.cell (by omega)
  · rw [← h3, Nat.zero_add]; exact hr.cell (by omega)

set_option maxRecDepth 100000 in
theorem ValsIn.step {f : Nat → Value} {vs : List GV} {k : Nat} {v : GV} (h : ValsIn f vs k) (hv : Hid (v = vs[k]!)) :
    ValsIn (fun j => if j = k * 4 + 3 then .int .i64 v.node else if j = k * 4 + 2 then .string v.text else if j = k * 4 + 1 then .int .i64 v.num else if j = k * 4 then .int .i64 v.kind else f j) vs (k + 1) := fun i hi => by
  have e := hv.out
  by_cases hk : i = k
  · subst hk; subst e; simp
  · obtain ⟨h0, h1, h2, h3⟩ := h i (by omega)
    refine ⟨?_, ?_, ?_, ?_⟩ <;> dsimp only
    · rw [if_neg (by omega), if_neg (by omega), if_neg (by omega), if_neg (by omega)]; exact h0
    · rw [if_neg (by omega), if_neg (by omega), if_neg (by omega), if_neg (by omega)]; exact h1
    · rw [if_neg (by omega), if_neg (by omega), if_neg (by omega), if_neg (by omega)]; exact h2
    · rw [if_neg (by omega), if_neg (by omega), if_neg (by omega), if_neg (by omega)]; exact h3

/-- values that lie in a row of their own -/
def OwnVals (w : World) (b : Nat) (vs : List GV) : Prop := ∃ f, w.rowIs b 30 (vs.length * 4) f ∧ ValsIn f vs vs.length

set_option maxRecDepth 100000 in
theorem OwnVals.lt {w : World} {b : Nat} {vs : List GV} (h : OwnVals w b vs) : b < w.heap.size := by obtain ⟨f, hr, _⟩ := h; exact hr.lt
theorem OwnVals.at_ {w : World} {b : Nat} {vs : List GV} (h : OwnVals w b vs) {B : Nat} (hB : b < B) : ValsAt B w (some ⟨b, 0, none⟩) vs := by
  obtain ⟨f, hr, hi⟩ := h
  exact hi.at_ hr rfl hB
set_option maxRecDepth 100000 in
theorem OwnVals.of_block {w w' : World} {b : Nat} {vs : List GV} (h : OwnVals w b vs) (e : w'.heap[b]? = w.heap[b]?) : OwnVals w' b vs := by
  obtain ⟨f, hr, hi⟩ := h
  exact ⟨f, hr.of_block e, hi⟩

set_option maxRecDepth 100000 in
theorem OwnVals.set {w : World} {b : Nat} {vs : List GV} (h : OwnVals w b vs) {p : Addr} (hp : b ≠ p.block) (u : Value) : OwnVals (w.setCell p u) b vs := h.of_block (Deep.blk_setCell_other _ _ _ _ hp)

theorem toValS_any (a : Option Addr) (cap : Nat) (vs : List GV) (w : World) (hl : vs.length ≤ 1048576) (ha : ValsAt w.heap.size w a vs) :
    Calls Try.prog 166 #[.slice a vs.length cap] w fun e w' => ∃ b, e = .returned (.slice (some ⟨b, 0, none⟩) vs.length vs.length) ∧ w.heap.size ≤ b ∧ OwnVals w' b vs ∧ Below w.heap.size w w' := by
  obtain ⟨i0, hi, hz0, hz1, hz2⟩ := info_parts info_implVal
  have hmk : ∀ u : World, (Instr.makeSlice 114 (.int .i64 (vs.length : Int)) (.int .i64 (vs.length : Int))).run Try.prog u =
      .ok (.slice (some ⟨u.heap.size, 0, none⟩) vs.length vs.length) (u.alloc (.cells (madeCells #[.int .i64 0, .int .i64 0, .string .empty, .int .i64 0] (vs.length * 4)) 30)) := fun u => by
    have h := run_make (P := Try.prog) u 114 30 i0 _ Try.underlying114 hi hz0 .i64 .i64 (vs.length : Int) (vs.length : Int) (by omega) (Int.le_refl _) (by rw [hz2]; omega) (by omega)
    simpa [hz1, Value.cells] using h
  go_enter Try.func166, Try.ntmps166
  go_wp2
  go_loopw [4] (fun i wr => ∃ (k : Nat) (f : Nat → Value), k ≤ vs.length ∧ i = .int .i64 k ∧ wr.rowIs w.heap.size 30 (vs.length * 4) f ∧ ValsIn f vs k ∧ Below w.heap.size w wr) (fun i _ => vs.length - (intOf i).toNat)
  case atStart => exact ⟨0, _, Nat.zero_le _, rfl, rowIs_made_any _ _ _ _, fun i hi => absurd hi (Nat.not_lt_zero _), (Below.refl _ _).alloc (Nat.le_refl _) _⟩
  case round =>
    obtain ⟨k, f, hk, rfl, hrow, hin, hb⟩ := hrel
    by_cases hlt : k < vs.length
    · obtain ⟨v, b, off, hvk, hvm, rfl, hbs, hva⟩ := ha.get hlt
      have hva := hva.below hb hbs
      have c0 := hva.kind
      have c1 := hva.num
      have c2 := hva.text
      have c3 := hva.node
      go_wp2_with (go_at_call 70; refine (toVal_any v _).mono ?_; rintro e w' ⟨rfl, hb'⟩; have hrow' := hrow.of_block (hb'.block _ hrow.lt); have d0 := hrow'.cell (i := k * 4) (by omega); have d1 := hrow'.cell (i := k * 4 + 1) (by omega); have d2 := hrow'.cell (i := k * 4 + 2) (by omega); have d3 := hrow'.cell (i := k * 4 + 3) (by omega); have f0 := hrow'.frozen)
      go_roundw
      case rel => exact ⟨k + 1, _, by omega, by go_num, (((hrow'.set _ _).set _ _).set _ _).set _ _, hin.step hvk, ((((hb.trans (hb'.mono hb.size)).setCell (Nat.le_refl _) _).setCell (Nat.le_refl _) _).setCell (Nat.le_refl _) _).setCell (Nat.le_refl _) _⟩
      case measure => simp [intOf]; omega
    · go_wp2
      go_ret
      have e : k = vs.length := by omega
      subst e
      exact ⟨_, rfl, Nat.le_refl _, ⟨_, hrow, hin⟩, hb⟩

abbrev nodeVal (n : GN) (a : Option Addr) (cap : Nat) : Value := .agg #[.int .i64 n.tag, .slice a n.vals.length cap]

set_option maxRecDepth 100000 in
theorem toNode_any (a : Option Addr) (cap : Nat) (n : GN) (w : World) (hl : n.vals.length ≤ 1048576) (ha : ValsAt w.heap.size w a n.vals) :
    Calls Try.prog 132 #[nodeVal n a cap] w fun e w' => ∃ b, e = .returned (nodeVal n (some ⟨b, 0, none⟩) n.vals.length) ∧ w.heap.size ≤ b ∧ OwnVals w' b n.vals ∧ Below w.heap.size w w' := by
  go_enter Try.func132, Try.ntmps132
  go_wp2_with (go_at_call 166; refine (toValS_any a cap n.vals _ hl (ha.grow (gal (gal (gal (gre _) _) _) _))).mono ?_; rintro e w' ⟨b, rfl, hbb, hown, hb'⟩; obtain ⟨hc, hf⟩ := bcell hb')
  refine bodyPost_ret (v := nodeVal n (some ⟨b, 0, none⟩) n.vals.length) (by simp [results, Try.results132, go_sem, hc]) rfl ⟨b, rfl, ?_, ?_, ?_⟩
  · simp at hbb; omega
  · simp at hbb
    exact ((hown.set (by simp; omega) _).set (by simp; omega) _).set (by simp; omega) _
  · exact gse (gse (gse (gca (gal (gal (gal (gre _) _) _) _) hb') (by simp; omega) _) (by simp) _) (by simp) _

/-- nodes that lie in a row of their own, their values in rows behind it -/
def NodesIn (w : World) (N : Nat) (f : Nat → Value) (bs : Nat → Nat) (ns : List GN) (k : Nat) : Prop :=
  ∀ i, i < k → f (i * 2) = .int .i64 ns[i]!.tag ∧ f (i * 2 + 1) = .slice (some ⟨bs i, 0, none⟩) ns[i]!.vals.length ns[i]!.vals.length ∧ OwnVals w (bs i) ns[i]!.vals ∧ N < bs i ∧ ∀ j, j < i → bs j < bs i

def OwnNodes (w : World) (N : Nat) (bs : Nat → Nat) (ns : List GN) : Prop := ∃ f, w.rowIs N 116 (ns.length * 2) f ∧ NodesIn w N f bs ns ns.length

set_option maxRecDepth 100000 in
theorem OwnNodes.at_ {w : World} {N : Nat} {bs : Nat → Nat} {ns : List GN} (h : OwnNodes w N bs ns) : NodesAt w.heap.size w (some ⟨N, 0, none⟩) ns := fun i hi => by
  obtain ⟨f, hr, hn⟩ := h
  obtain ⟨h0, h1, h2, h3, _⟩ := hn i hi
  refine ⟨N, 0, some ⟨bs i, 0, none⟩, ns[i]!.vals.length, rfl, hr.lt, ?_, ?_, h2.at_ h2.lt⟩
  · rw [← h0, Nat.zero_add]; exact hr.cell (by omega)
  · rw [← h1, Nat.zero_add]; exact hr.cell (by omega)

set_option maxRecDepth 100000 in
theorem OwnNodes.below {w w' : World} {N : Nat} {bs : Nat → Nat} {ns : List GN} (h : OwnNodes w N bs ns) (hb : Below w.heap.size w w') : OwnNodes w' N bs ns := by
  obtain ⟨f, hr, hn⟩ := h
  refine ⟨f, hr.of_block (hb.block _ hr.lt), fun i hi => ?_⟩
  obtain ⟨h0, h1, h2, h3, h4⟩ := hn i hi
  exact ⟨h0, h1, h2.of_block (hb.block _ h2.lt), h3, h4⟩

set_option maxRecDepth 100000 in
theorem OwnNodes.set {w : World} {N : Nat} {bs : Nat → Nat} {ns : List GN} (h : OwnNodes w N bs ns) {p : Addr} (hp : p.block < N) (u : Value) : OwnNodes (w.setCell p u) N bs ns := by
  obtain ⟨f, hr, hn⟩ := h
  refine ⟨f, hr.setOther (by omega) u, fun i hi => ?_⟩
  obtain ⟨h0, h1, h2, h3, h4⟩ := hn i hi
  exact ⟨h0, h1, h2.set (by omega) u, h3, h4⟩

set_option maxRecDepth 100000 in
theorem NodesIn.step {w w' : World} {N : Nat} {f : Nat → Value} {bs : Nat → Nat} {ns : List GN} {k b : Nat} {n : GN} (h : NodesIn w N f bs ns k) (hv : Hid (n = ns[k]!)) (hb : Below w.heap.size w w') (hN : N < w.heap.size)
    (hbb : w.heap.size ≤ b) (hown : OwnVals w' b n.vals) (u u' : Value) (o o' : Nat) :
    NodesIn ((w'.setCell ⟨N, o, none⟩ u).setCell ⟨N, o', none⟩ u') N
      (fun j => if j = k * 2 + 1 then .slice (some ⟨b, 0, none⟩) n.vals.length n.vals.length else if j = k * 2 then .int .i64 n.tag else f j) (fun i => if i = k then b else bs i) ns (k + 1) := fun i hi => by
  have e := hv.out
  by_cases hk : i = k
  · subst hk; subst e
    refine ⟨by simp, by simp, ?_, by simp; omega, fun j hj => ?_⟩
    · simp only [if_pos]
      exact (hown.set (by simp; omega) _).set (by simp; omega) _
    · simp only [if_pos, if_neg (show j ≠ i by omega)]
      have := (h j hj).2.2.1.lt
      omega
  · obtain ⟨h0, h1, h2, h3, h4⟩ := h i (by omega)
    refine ⟨?_, ?_, ?_, ?_, fun j hj => ?_⟩ <;> simp only [if_neg hk]
    · rw [if_neg (by omega), if_neg (by omega)]; exact h0
    · rw [if_neg (by omega), if_neg (by omega)]; exact h1
    · exact ((h2.of_block (hb.block _ h2.lt)).set (by simp; omega) _).set (by simp; omega) _
    · exact h3
    · rw [if_neg (show j ≠ k by omega)]; exact h4 j hj

set_option maxRecDepth 100000 in
theorem info_implNode : (Try.prog.info? 116).map (fun i => (i.zero, i.size, i.bytes)) = some (some (.agg #[.int .i64 0, .slice none 0 0]), 2, 32) := by kernel_rfl

theorem toNodeS_any (a : Option Addr) (cap : Nat) (ns : List GN) (w : World) (hl : ns.length ≤ 1048576) (hv : ∀ n, n ∈ ns → n.vals.length ≤ 1048576) (ha : NodesAt w.heap.size w a ns) :
    Calls Try.prog 71 #[.slice a ns.length cap] w fun e w' => ∃ b bs, e = .returned (.slice (some ⟨b, 0, none⟩) ns.length ns.length) ∧ w.heap.size ≤ b ∧ OwnNodes w' b bs ns ∧ Below w.heap.size w w' := by
  obtain ⟨i0, hi, hz0, hz1, hz2⟩ := info_parts info_implNode
  have hmk : ∀ u : World, (Instr.makeSlice 31 (.int .i64 (ns.length : Int)) (.int .i64 (ns.length : Int))).run Try.prog u =
      .ok (.slice (some ⟨u.heap.size, 0, none⟩) ns.length ns.length) (u.alloc (.cells (madeCells #[.int .i64 0, .slice none 0 0] (ns.length * 2)) 116)) := fun u => by
    have h := run_make (P := Try.prog) u 31 116 i0 _ Try.underlying31 hi hz0 .i64 .i64 (ns.length : Int) (ns.length : Int) (by omega) (Int.le_refl _) (by rw [hz2]; omega) (by omega)
    simpa [hz1, Value.cells] using h
  go_enter Try.func71, Try.ntmps71
  go_wp2
  go_loopw [4] (fun i wr => ∃ (k : Nat) (f : Nat → Value) (bs : Nat → Nat), k ≤ ns.length ∧ i = .int .i64 k ∧ wr.rowIs w.heap.size 116 (ns.length * 2) f ∧ NodesIn wr w.heap.size f bs ns k ∧ Below w.heap.size w wr) (fun i _ => ns.length - (intOf i).toNat)
  case atStart => exact ⟨0, _, fun _ => 0, Nat.zero_le _, rfl, rowIs_made_any _ _ _ _, fun i hi => absurd hi (Nat.not_lt_zero _), (Below.refl _ _).alloc (Nat.le_refl _) _⟩
  case round =>
    obtain ⟨k, f, bs, hk, rfl, hrow, hin, hb⟩ := hrel
    by_cases hlt : k < ns.length
    · obtain ⟨n, b, off, a', cap', hvk, hvm, rfl, hbs, hva⟩ := ha.get hlt
      have hva := hva.below hb hbs
      have c0 := hva.tag
      have c1 := hva.sl
      have hvals := hva.vals.mono hb.size
      go_wp2_with (go_at_call 132; refine (toNode_any a' cap' n _ (hv n hvm) hvals).mono ?_; rintro e w' ⟨b', rfl, hbb, hown, hb'⟩; have hrow' := hrow.of_block (hb'.block _ hrow.lt); have d0 := hrow'.cell (i := k * 2) (by omega); have d1 := hrow'.cell (i := k * 2 + 1) (by omega); have f0 := hrow'.frozen)
      go_roundw
      case rel => exact ⟨k + 1, _, _, by omega, by go_num, (hrow'.set _ _).set _ _, hin.step hvk hb' hrow.lt hbb hown _ _ _ _, ((hb.trans (hb'.mono hb.size)).setCell (Nat.le_refl _) _).setCell (Nat.le_refl _) _⟩
      case measure => simp [intOf]; omega
    · go_wp2
      go_ret
      have e : k = ns.length := by omega
      subst e
      exact ⟨_, bs, rfl, Nat.le_refl _, ⟨_, hrow, hin⟩, hb⟩

set_option maxRecDepth 100000 in
theorem toGraph_any (a : Option Addr) (cap : Nat) (g : GG) (w : World) (hl : g.nodes.length ≤ 1048576) (hv : ∀ n, n ∈ g.nodes → n.vals.length ≤ 1048576) (ha : NodesAt w.heap.size w a g.nodes) :
    Calls Try.prog 17 #[g.val a cap] w fun e w' => ∃ b bs, e = .returned (g.val (some ⟨b, 0, none⟩) g.nodes.length) ∧ w.heap.size ≤ b ∧ OwnNodes w' b bs g.nodes ∧ Below w.heap.size w w' := by
  go_enter Try.func17, Try.ntmps17
  go_wp2_with (go_at_call 70; refine (toVal_any g.root _).mono ?_; rintro e w' ⟨rfl, hb'⟩; obtain ⟨hc, hf⟩ := bcell hb')
  have hz : w.heap.size + 1 + 1 < w'.heap.size := by have := hb'.size; simp at this; omega
  have hz1 : w.heap.size + 1 < w'.heap.size := by omega
  have hz0 : w.heap.size < w'.heap.size := by omega
  have hB : Below w.heap.size w w' := gca (gal (gal (gal (gre _) _) _) _) hb'
  refine (toNodeS_any a cap g.nodes _ hl hv (ha.grow (gse (gse (gse (gse hB (by simp; omega) _) (by simp; omega) _) (by simp; omega) _) (by simp; omega) _))).mono ?_
  rintro e w'' ⟨b, bs, rfl, hbb, hown, hb''⟩
  obtain ⟨hc2, hf2⟩ := bcell hb''
  have hB2 : Below w.heap.size w w'' := gca (gse (gse (gse (gse hB (by simp; omega) _) (by simp; omega) _) (by simp; omega) _) (by simp; omega) _) hb''
  have hbb' : w'.heap.size ≤ b := by simpa [World.setCell] using hbb
  clear hbb
  go_wp2
  refine bodyPost_ret (v := g.val (some ⟨b, 0, none⟩) g.nodes.length) (by simp [results, Try.results17, go_sem, hc, hc2, hz1]) rfl ⟨b, bs, rfl, by omega, ?_, ?_⟩
  · exact (((((hown.set (by simp; omega) _).set (by simp; omega) _).set (by simp; omega) _).set (by simp; omega) _).set (by simp; omega) _).set (by simp; omega) _
  · exact gse (gse (gse (gse (gse (gse hB2 (by simp; omega) _) (by simp) _) (by simp) _) (by simp) _) (by simp) _) (by simp) _

end Go.Proofs.Ytobfaielocicpab
