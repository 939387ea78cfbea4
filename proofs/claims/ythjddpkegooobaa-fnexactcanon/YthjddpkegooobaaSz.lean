/-
  SZ: the laws' sizes. Own work.
-/
import Derived.Test.YthjddpkegooobaaMem
namespace Go.Proofs.Ythjddpkegooobaa
open Go.RowKit

set_option maxRecDepth 100000 in
theorem szVal_any (v : GV) (left : Int) (w : World) (hv : v.Ok) (h0 : 0 ≤ left) (h1 : left ≤ 1048576) :
    Calls Try.prog 97 #[v.val, .int .i64 left] w fun e w' => e = .returned (.int .i64 (leftBy left v.sz)) ∧ Below w.heap.size w w' := by
  have ht := hv.text
  unfold maxLen at ht
  go_enter Try.func97, Try.ntmps97
  go_wp2
  all_goals go_ret
  · exact ⟨ret_int (leftBy_neg (by assumption)).symm, (Below.refl _ _).alloc (Nat.le_refl _) _⟩
  · exact ⟨ret_int (leftBy_pos (Int.not_lt.2 (by assumption))).symm, (Below.refl _ _).alloc (Nat.le_refl _) _⟩

set_option maxRecDepth 100000 in
theorem szValS_any (a : Option Addr) (cap : Nat) (vs : List GV) (left : Int) (w : World) (hl : vs.length ≤ maxLen) (hv : ∀ v, v ∈ vs → v.Ok) (h0 : 0 ≤ left) (h1 : left ≤ 1048576) (ha : ValsAt w.heap.size w a vs) :
    Calls Try.prog 154 #[.slice a vs.length cap, .int .i64 left] w fun e w' => e = .returned (.int .i64 (leftBy left (vs.length + szVals vs))) ∧ Below w.heap.size w w' := by
  unfold maxLen at hl
  have hsn := szVals_nonneg vs
  go_enter Try.func154, Try.ntmps154
  go_wp2
  · go_ret
    exact ⟨ret_int (leftBy_neg (by omega)).symm, Below.refl _ _⟩
  go_loopw [1, 5] (fun l i wr => ∃ k : Nat, k ≤ vs.length ∧ i = .int .i64 k ∧ l = .int .i64 (left - vs.length - szVals (vs.take k)) ∧ 0 ≤ left - vs.length - szVals (vs.take k) ∧ Below w.heap.size w wr) (fun _ i _ => vs.length - (intOf i).toNat)
  case atStart => exact ⟨0, Nat.zero_le _, rfl, by simp [szVals], by simp [szVals]; omega, Below.refl _ _⟩
  case round =>
    obtain ⟨k, hk, rfl, rfl, hpos, hb⟩ := hrel
    by_cases hlt : k < vs.length
    · obtain ⟨v, b, off, hvk, hvm, rfl, hbs, hva⟩ := ha.get hlt
      have hva := hva.below hb hbs
      have c0 := hva.kind
      have c1 := hva.num
      have c2 := hva.text
      have c3 := hva.node
      have hstep : Hid (szVals (vs.take (k + 1)) = szVals (vs.take k) + v.sz) := by rw [hvk.out]; exact szVals_take_succ vs k hlt
      have hle := szVals_take_le vs (k + 1)
      have hn0 := szVals_nonneg (vs.take k)
      have hvz := v.sz_nonneg
      go_wp2_with (go_at_call 97; refine (szVal_any v _ _ (hv v hvm) (by omega) (by omega)).mono ?_; rintro e w' ⟨rfl, hb'⟩)
      · go_ret
        have hn := leftBy_of_neg (by assumption)
        have hs := hstep.out
        exact ⟨ret_int (leftBy_neg (by omega)).symm, hb.trans (hb'.mono hb.size)⟩
      · have hn := leftBy_of_nonneg (by assumption)
        have hs := hstep.out
        go_roundw
        case rel => exact ⟨k + 1, by omega, by go_num, by rw [hn.1, hs]; go_num, by omega, hb.trans (hb'.mono hb.size)⟩
        case measure => simp [intOf]; omega
    · go_wp2
      go_ret
      have e : k = vs.length := by omega
      subst e
      rw [List.take_length] at hpos
      exact ⟨ret_int (by rw [List.take_length, leftBy_pos (by omega)]; omega), hb⟩

set_option maxRecDepth 100000 in
theorem szNode_any (a : Option Addr) (cap : Nat) (n : GN) (left : Int) (w : World) (hn : n.Ok) (h0 : 0 ≤ left) (h1 : left ≤ 1048576) (ha : ValsAt w.heap.size w a n.vals) :
    Calls Try.prog 139 #[.agg #[.int .i64 n.tag, .slice a n.vals.length cap], .int .i64 left] w fun e w' => e = .returned (.int .i64 (leftBy left n.sz)) ∧ Below w.heap.size w w' := by
  have hz : Hid (n.sz = n.vals.length + szVals n.vals) := rfl
  go_enter Try.func139, Try.ntmps139
  go_wp2_with (go_at_call 154; refine (szValS_any a cap n.vals _ _ hn.len hn.vals h0 h1 ((ha.below ((Below.refl _ _).alloc (Nat.le_refl _) _)).mono (by simp))).mono ?_; rintro e w' ⟨rfl, hb'⟩)
  · go_ret
    have hneg := leftBy_of_neg (by assumption)
    have := hz.out
    exact ⟨ret_int (leftBy_neg (by omega)).symm, ((Below.refl _ _).alloc (Nat.le_refl _) _).trans (hb'.mono (by simp))⟩
  · go_ret
    have := hz.out
    exact ⟨ret_int (by rw [this]), ((Below.refl _ _).alloc (Nat.le_refl _) _).trans (hb'.mono (by simp))⟩

set_option maxRecDepth 100000 in
theorem szNodeS_any (a : Option Addr) (cap : Nat) (ns : List GN) (left : Int) (w : World) (hl : ns.length ≤ maxLen) (hv : ∀ n, n ∈ ns → n.Ok) (h0 : 0 ≤ left) (h1 : left ≤ 1048576) (ha : NodesAt w.heap.size w a ns) :
    Calls Try.prog 98 #[.slice a ns.length cap, .int .i64 left] w fun e w' => e = .returned (.int .i64 (leftBy left (ns.length + szNodes ns))) ∧ Below w.heap.size w w' := by
  unfold maxLen at hl
  have hsn := szNodes_nonneg ns
  go_enter Try.func98, Try.ntmps98
  go_wp2
  · go_ret
    exact ⟨ret_int (leftBy_neg (by omega)).symm, Below.refl _ _⟩
  go_loopw [1, 5] (fun l i wr => ∃ k : Nat, k ≤ ns.length ∧ i = .int .i64 k ∧ l = .int .i64 (left - ns.length - szNodes (ns.take k)) ∧ 0 ≤ left - ns.length - szNodes (ns.take k) ∧ Below w.heap.size w wr) (fun _ i _ => ns.length - (intOf i).toNat)
  case atStart => exact ⟨0, Nat.zero_le _, rfl, by simp [szNodes], by simp [szNodes]; omega, Below.refl _ _⟩
  case round =>
    obtain ⟨k, hk, rfl, rfl, hpos, hb⟩ := hrel
    by_cases hlt : k < ns.length
    · obtain ⟨n, b, off, a', cap', hvk, hvm, rfl, hbs, hva⟩ := ha.get hlt
      have hva := hva.below hb hbs
      have c0 := hva.tag
      have c1 := hva.sl
      have hstep : Hid (szNodes (ns.take (k + 1)) = szNodes (ns.take k) + n.sz) := by rw [hvk.out]; exact szNodes_take_succ ns k hlt
      have hle := szNodes_take_le ns (k + 1)
      have hn0 := szNodes_nonneg (ns.take k)
      have hvz := n.sz_nonneg
      have hvals := hva.vals
      go_wp2_with (go_at_call 139; refine (szNode_any a' cap' n _ _ (hv n hvm) (by omega) (by omega) (hvals.mono hb.size)).mono ?_; rintro e w' ⟨rfl, hb'⟩)
      · go_ret
        have hn := leftBy_of_neg (by assumption)
        have hs := hstep.out
        exact ⟨ret_int (leftBy_neg (by omega)).symm, hb.trans (hb'.mono hb.size)⟩
      · have hn := leftBy_of_nonneg (by assumption)
        have hs := hstep.out
        go_roundw
        case rel => exact ⟨k + 1, by omega, by go_num, by rw [hn.1, hs]; go_num, by omega, hb.trans (hb'.mono hb.size)⟩
        case measure => simp [intOf]; omega
    · go_wp2
      go_ret
      have e : k = ns.length := by omega
      subst e
      rw [List.take_length] at hpos
      exact ⟨ret_int (by rw [List.take_length, leftBy_pos (by omega)]; omega), hb⟩

set_option maxRecDepth 100000 in
theorem szGraph_any (a : Option Addr) (cap : Nat) (g : GG) (left : Int) (w : World) (hg : g.Ok) (h0 : 0 ≤ left) (h1 : left ≤ 1048576) (ha : NodesAt w.heap.size w a g.nodes) :
    Calls Try.prog 41 #[g.val a cap, .int .i64 left] w fun e w' => e = .returned (.int .i64 (leftBy left g.sz)) ∧ Below w.heap.size w w' := by
  have hz : Hid (g.sz = g.root.sz + g.nodes.length + szNodes g.nodes) := rfl
  have hrz := g.root.sz_nonneg
  have hnz := szNodes_nonneg g.nodes
  go_enter Try.func41, Try.ntmps41
  go_wp2_with (go_at_call 97; refine (szVal_any g.root _ _ hg.root h0 h1).mono ?_; rintro e w' ⟨rfl, hb'⟩; obtain ⟨hc, hf⟩ := bcell hb')
  · go_ret
    have hneg := leftBy_of_neg (by assumption)
    have := hz.out
    exact ⟨ret_int (leftBy_neg (by omega)).symm, ((Below.refl _ _).alloc (Nat.le_refl _) _).trans (hb'.mono (by simp))⟩
  · have hnn := leftBy_of_nonneg (by assumption)
    have hB : Below w.heap.size w w' := ((Below.refl _ _).alloc (Nat.le_refl _) _).trans (hb'.mono (by simp))
    have hle : leftBy left g.root.sz ≤ 1048576 := by omega
    have hge : 0 ≤ leftBy left g.root.sz := by omega
    have hnn' : Hid _ := hnn
    clear hnn
    go_wp2_with (go_at_call 98; refine (szNodeS_any a cap g.nodes _ _ hg.len hg.nodes hge hle ((ha.below hB).mono hB.size)).mono ?_; rintro e w'' ⟨rfl, hb''⟩)
    · go_ret
      have hneg := leftBy_of_neg (by assumption)
      have := hz.out
      have := hnn'.out
      exact ⟨ret_int (leftBy_neg (by omega)).symm, hB.trans (hb''.mono hB.size)⟩
    · go_ret
      have h1 := leftBy_of_nonneg (by assumption)
      have := hz.out
      have := hnn'.out
      exact ⟨ret_int (by rw [h1.1, leftBy_pos (s := g.sz) (by omega)]; omega), hB.trans (hb''.mono hB.size)⟩

end Go.Proofs.Ythjddpkegooobaa
