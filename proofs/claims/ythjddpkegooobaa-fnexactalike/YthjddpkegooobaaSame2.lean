/-
  SAME2: whether two lists of nodes are the same: the program's comparison. Own work.
-/
import Derived.Test.YthjddpkegooobaaSame
namespace Go.Proofs.Ythjddpkegooobaa
open Go.RowKit

set_option maxRecDepth 100000 in
theorem gn_ext {n n' : GN} (h1 : n.tag = n'.tag) (h2 : n.vals = n'.vals) : n = n' := by cases n; cases n'; simp only at h1 h2; rw [h1, h2]

theorem sameNode_any (a a' : Option Addr) (cap cap' : Nat) (n n' : GN) (w : World) (hl : n.vals.length ≤ maxLen) (hl' : n'.vals.length ≤ maxLen) (ha : ValsAt w.heap.size w a n.vals) (ha' : ValsAt w.heap.size w a' n'.vals) :
    Calls Try.prog 59 #[.agg #[.int .i64 n.tag, .slice a n.vals.length cap], .agg #[.int .i64 n'.tag, .slice a' n'.vals.length cap']] w fun e w' => ∃ b, e = .returned (.bool b) ∧ (b = true ↔ n = n') ∧ Below w.heap.size w w' := by
  by_cases ht : n.tag = n'.tag
  · rw [← ht]
    have ht' : Hid _ := ht
    clear ht
    go_enter Try.func59, Try.ntmps59
    go_wp2_with (go_at_call 115; refine (equalVals_any a a' cap cap' n.vals n'.vals _ hl hl' (ha.grow (gal (gal (gre _) _) _)) (ha'.grow (gal (gal (gre _) _) _))).mono ?_; rintro e w' ⟨b, rfl, hbi, hb'⟩)
    go_ret
    exact ⟨b, rfl, hbi.trans ⟨fun h => gn_ext ht'.out h, fun h => by rw [h]⟩, gca (gal (gal (gre _) _) _) hb'⟩
  · have hd : decide (n.tag = n'.tag) = false := decide_eq_false ht
    go_enter Try.func59, Try.ntmps59
    go_wp2
    go_ret
    exact ⟨false, rfl, ⟨fun h => (by cases h), fun h => absurd (by rw [h]) ht⟩, gal (gal (gre _) _) _⟩

set_option maxRecDepth 100000 in
theorem equalNodes_any (a a' : Option Addr) (cap cap' : Nat) (ns ns' : List GN) (w : World) (hl : ns.length ≤ maxLen) (_hl' : ns'.length ≤ maxLen) (hv : ∀ n, n ∈ ns → n.vals.length ≤ maxLen) (hv' : ∀ n, n ∈ ns' → n.vals.length ≤ maxLen) (ha : NodesAt w.heap.size w a ns) (ha' : NodesAt w.heap.size w a' ns') :
    Calls Try.prog 58 #[.slice a ns.length cap, .slice a' ns'.length cap', .func (.func 59) #[] #[]] w fun e w' => ∃ b, e = .returned (.bool b) ∧ (b = true ↔ ns = ns') ∧ Below w.heap.size w w' := by
  unfold maxLen at hl
  by_cases hle : ns.length = ns'.length
  · rw [← hle]
    have hle' : Hid _ := hle
    clear hle
    go_enter Try.func58, Try.ntmps58
    go_wp2
    go_loopw [7, 8, 9, 17] (fun _ _ _ i wr => ∃ k : Nat, k ≤ ns.length ∧ i = .int .i64 k ∧ Hid (ns.take k = ns'.take k) ∧ Below w.heap.size w wr) (fun _ _ _ i _ => ns.length - (intOf i).toNat)
    case atStart => exact ⟨0, Nat.zero_le _, rfl, rfl, gre _⟩
    case round =>
      obtain ⟨k, hk, rfl, hall, hb⟩ := hrel
      by_cases hlt : k < ns.length
      · have hlt' : Hid (k < ns'.length) := by have := hle'.out; show k < ns'.length; omega
        obtain ⟨n, b, off, av, cv, hvk, hvm, rfl, hbs, hva⟩ := ha.get hlt
        obtain ⟨n', b', off', av', cv', hvk', hvm', rfl, hbs', hva'⟩ := ha'.get hlt'.out
        have hva := hva.below hb hbs
        have hva' := hva'.below hb hbs'
        have c0 := hva.tag
        have c1 := hva.sl
        have d0 := hva'.tag
        have d1 := hva'.sl
        have i0 : (0 : Int) ≤ (k : Int) := by omega
        have i1 : (k : Int) < (ns.length : Int) := by omega
        have hvl := hv n hvm
        have hvl' := hv' n' hvm'
        have hv1 : ValsAt wr.heap.size wr av n.vals := hva.vals.mono hb.size
        have hv2 : ValsAt wr.heap.size wr av' n'.vals := hva'.vals.mono hb.size
        have e0 := cell_later (gal (gre wr) (.cells #[.int .i64 n.tag, .slice av n.vals.length cv] 84)) d0
        have e1 := cell_later (gal (gre wr) (.cells #[.int .i64 n.tag, .slice av n.vals.length cv] 84)) d1
        clear ha ha' hva hva'
        go_wp2_with (go_at_call 59; refine (sameNode_any av av' cv cv' n n' _ hvl hvl' (hv1.grow (gal (gal (gre _) _) _)) (hv2.grow (gal (gal (gre _) _) _))).mono ?_; rintro e w' ⟨bb, rfl, hbi0, hb'⟩; have hbi : Hid (bb = true ↔ n = n') := hbi0; clear hbi0; cases bb)
        · have hvv : Hid (¬ ns = ns') := take_ne hlt hlt'.out (fun e => by rw [← hvk.out, ← hvk'.out] at e; have := hbi.out.2 e; cases this)
          go_wp2
          go_ret
          exact ⟨false, rfl, ⟨fun h => (by cases h), fun h => absurd h hvv.out⟩, gca (gal (gal hb _) _) hb'⟩
        · have hnext : Hid (ns.take (k + 1) = ns'.take (k + 1)) := take_eq_succ hlt hlt'.out hall.out (by rw [← hvk.out, ← hvk'.out, hbi.out.1 (by trivial)])
          go_wp2
          go_roundw
          case rel => exact ⟨k + 1, by omega, by go_num, hnext, gca (gal (gal hb _) _) hb'⟩
          case measure => simp [intOf]; omega
      · have hvv : Hid (ns = ns') := by
          have h1 := hall.out
          have h2 := hle'.out
          rwa [List.take_of_length_le (by omega), List.take_of_length_le (by omega)] at h1
        go_wp2
        go_ret
        exact ⟨true, rfl, ⟨fun _ => hvv.out, fun _ => rfl⟩, hb⟩
  · have hd : ¬ ((ns.length : Int) = (ns'.length : Int)) := by omega
    go_enter Try.func58, Try.ntmps58
    go_wp2
    go_ret
    exact ⟨false, rfl, ⟨fun h => (by cases h), fun h => absurd (by rw [h]) hle⟩, gre _⟩

end Go.Proofs.Ythjddpkegooobaa
