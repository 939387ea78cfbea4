/-
  MARKNODES: the laws' marks in a graph, and their look at them. Own work.
-/
import Derived.Test.YthjddpkegooobaaMarkNodesA
import Derived.Test.YthjddpkegooobaaHeldVals
namespace Go.Proofs.Ythjddpkegooobaa
open Go.RowKit

set_option maxRecDepth 100000 in
theorem heldNodeS_any (na : Option Addr) (nc : Nat) (ns : List GN) (k : Nat) (w : World) (hk0 : 0 < k) (hk : mEnd k ns ≤ 1099511627776) (hl : ns.length ≤ maxLen) (ha : NodesAt w.heap.size w na (markNs k ns)) :
    Calls Try.prog 107 #[.slice na ns.length nc, .int .i64 k] w fun e w' => e = .returned (.int .i64 (mEnd k ns : Nat)) ∧ Below w.heap.size w w' := by
  unfold maxLen at hl
  go_enter Try.func107, Try.ntmps107
  go_wp2
  go_loopw [1, 5] (fun kk i ws => ∃ (j q : Nat), j ≤ ns.length ∧ q = mEnd k (ns.take j) ∧ kk = .int .i64 (q : Int) ∧ i = .int .i64 (j : Int) ∧ Below w.heap.size w ws) (fun _ i _ => ns.length - (intOf i).toNat)
  case atStart => exact ⟨0, k, Nat.zero_le _, rfl, rfl, rfl, gre _⟩
  case round =>
    obtain ⟨j, q, hj, hq, rfl, rfl, hb⟩ := hrel
    by_cases hlt : j < ns.length
    · have i0 : (0 : Int) ≤ (j : Int) := by omega
      have i1 : (j : Int) < (ns.length : Int) := by omega
      obtain ⟨m, b, off, av, cv, hvk, _, rfl, hbs, hva⟩ := ha.get (by rw [markNs_length]; exact hlt)
      obtain ⟨n, hn⟩ : ∃ n, Hid (n = ns[j]!.vals.length) := ⟨_, rfl⟩
      have hm : m = ⟨(q : Int), markVs (q + 1) n⟩ := by rw [hvk.out, markNs_at ns k j hlt, hq, hn.out]
      subst hm
      have hva := hva.below hb hbs
      have c0 : wr.cell? ⟨b, off + j * 2, none⟩ = some (.int .i64 (q : Int)) := hva.tag
      have c1 : wr.cell? ⟨b, off + j * 2 + 1, none⟩ = some (.slice av n cv) := by have := hva.sl; rwa [markVs_length] at this
      have hv1 : ValsAt wr.heap.size wr av (markVs (q + 1) n) := hva.vals.mono hb.size
      have h1 := mEnd_take_le ns k (j + 1)
      have h2 := mEnd_take_succ ns k j hlt
      have h3 := mEnd_le (ns.take j) k
      have h4 := hn.out
      have hqq : q + 1 + 4 * n ≤ 1099511627776 := by omega
      have hq0 : k ≤ q := by omega
      have hqe : Hid (q + 1 + 4 * n = mEnd k (ns.take (j + 1))) := by show _ = _; omega
      clear h1 h2 h3 h4 hq ha hvk hva
      have hd : ¬ ((q : Int) + 1 + 4 * (n : Int) < 0) := by omega
      go_wp2_with (go_at_call 143; rw [show ((q : Int) + 1) = ((q + 1 : Nat) : Int) by omega]; refine (heldValS_any av n cv (q + 1) _ (by omega) (by omega) hv1).mono ?_; rintro e w2 ⟨rfl, hb2⟩)
      go_roundw
      case rel => exact ⟨j + 1, q + 1 + 4 * n, by omega, hqe.out, by go_num, by go_num, gca hb hb2⟩
      case measure => simp [intOf]; omega
    · have e : j = ns.length := by omega
      subst e
      rw [List.take_length] at hq
      subst hq
      go_wp2
      go_ret
      exact ⟨rfl, hb⟩

set_option maxRecDepth 100000 in
theorem heldGraph_any (g : GG) (na : Option Addr) (nc k : Nat) (w : World) (hk0 : 0 < k) (hk : mEnd k g.nodes ≤ 1099511627776) (hl : g.nodes.length ≤ maxLen) (ha : NodesAt w.heap.size w na (markNs k g.nodes)) :
    Calls Try.prog 47 #[g.val na nc, .int .i64 k] w fun e w' => e = .returned (.int .i64 (mEnd k g.nodes : Nat)) ∧ Below w.heap.size w w' := by
  have hd : ¬ (((mEnd k g.nodes : Nat) : Int) < 0) := by omega
  go_enter Try.func47, Try.ntmps47
  go_wp2_with (go_at_call 107; refine (heldNodeS_any na nc g.nodes k _ hk0 hk hl (ha.grow (gal (gre _) _))).mono ?_; rintro e w' ⟨rfl, hb⟩)
  go_ret
  exact ⟨rfl, gca (gal (gre _) _) hb⟩

end Go.Proofs.Ythjddpkegooobaa
