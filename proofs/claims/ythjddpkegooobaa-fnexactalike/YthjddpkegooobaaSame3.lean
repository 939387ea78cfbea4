/-
  SAME3: whether two graphs are the same: the specification's comparison. Own work.
-/
import Derived.Test.YthjddpkegooobaaSame2
import Derived.Test.YthjddpkegooobaaOk4
namespace Go.Proofs.Ythjddpkegooobaa
open Go.RowKit

set_option maxRecDepth 100000 in
theorem gg_ext {g g' : GG} (h1 : g.root = g'.root) (h2 : g.nodes = g'.nodes) : g = g' := by cases g; cases g'; simp only at h1 h2; rw [h1, h2]

theorem l1same_any (a a' : Option Addr) (cap cap' : Nat) (g g' : GG) (w : World) (hl : g.nodes.length ≤ maxLen) (_hl' : g'.nodes.length ≤ maxLen) (hv : ∀ n, n ∈ g.nodes → n.vals.length ≤ maxLen) (hv' : ∀ n, n ∈ g'.nodes → n.vals.length ≤ maxLen) (ha : NodesAt w.heap.size w a g.nodes) (ha' : NodesAt w.heap.size w a' g'.nodes) :
    Calls Try.prog 77 #[g.val a cap, g'.val a' cap'] w fun e w' => ∃ b, e = .returned (.bool b) ∧ (b = true ↔ g = g') ∧ Below w.heap.size w w' := by
  unfold maxLen at hl
  have hne := run_neq_val g.root g'.root
  cases hs : sameV g.root g'.root with
  | false =>
    rw [hs] at hne
    simp only [Bool.not_false] at hne
    have hrr : Hid (¬ g = g') := fun e => by rw [e, sameV_self] at hs; cases hs
    clear hs
    go_enter Try.func77, Try.ntmps77
    go_wp2
    go_ret
    exact ⟨false, rfl, ⟨fun h => (by cases h), fun h => absurd h hrr.out⟩, gal (gal (gre _) _) _⟩
  | true =>
    rw [hs] at hne
    simp only [Bool.not_true] at hne
    have hrr : Hid (g.root = g'.root) := (sameV_iff _ _).1 hs
    clear hs
    by_cases hle : g.nodes.length = g'.nodes.length
    · have hle' : Hid _ := hle
      have hX0 := (GBox.new w g a cap 27).grow (gal (gre _) (.cells #[.int .i64 g'.root.kind, .int .i64 g'.root.num, .string g'.root.text, .int .i64 g'.root.node, .slice a' g'.nodes.length cap'] 27))
      have hY0 := GBox.new (w.alloc (.cells #[.int .i64 g.root.kind, .int .i64 g.root.num, .string g.root.text, .int .i64 g.root.node, .slice a g.nodes.length cap] 27)) g' a' cap' 27
      rw [show (w.alloc (.cells #[.int .i64 g.root.kind, .int .i64 g.root.num, .string g.root.text, .int .i64 g.root.node, .slice a g.nodes.length cap] 27)).heap.size = w.heap.size + 1 by simp] at hY0
      clear hle
      have hd : ((g.nodes.length : Int) != (g'.nodes.length : Int)) = false := by rw [hle'.out]; simp
      go_enter Try.func77, Try.ntmps77
      go_wp2
      go_loopw [5, 6, 24] (fun _ _ i wr => ∃ k : Nat, k ≤ g.nodes.length ∧ i = .int .i64 k ∧ Hid (g.nodes.take k = g'.nodes.take k) ∧ GBox wr w.heap.size g a cap ∧ GBox wr (w.heap.size + 1) g' a' cap' ∧ Below w.heap.size w wr) (fun _ _ i _ => g.nodes.length - (intOf i).toNat)
      case atStart => exact ⟨0, Nat.zero_le _, rfl, rfl, hX0, hY0, gal (gal (gre _) _) _⟩
      case round =>
        obtain ⟨k, hk, rfl, hall, hX, hY, hb⟩ := hrel
        clear hX0 hY0 hne
        by_cases hlt : k < g.nodes.length
        · have hlt2 : k < g'.nodes.length := by have := hle'.out; omega
          have hlt' : Hid (k < g'.nodes.length) := hlt2
          obtain ⟨n, b, off, av, cv, hvk, hvm, rfl, hbs, hva⟩ := ha.get hlt
          obtain ⟨n', b', off', av', cv', hvk', hvm', rfl, hbs', hva'⟩ := ha'.get hlt2
          have hva := hva.below hb hbs
          have hva' := hva'.below hb hbs'
          have c0 := hva.tag
          have c1 := hva.sl
          have d0 := hva'.tag
          have d1 := hva'.sl
          have x4 := hX.sl
          have y4 := hY.sl
          have i0 : (0 : Int) ≤ (k : Int) := by omega
          have i1 : (k : Int) < (g.nodes.length : Int) := by omega
          have i2 : (k : Int) < (g'.nodes.length : Int) := by omega
          have hvl := hv n hvm
          have hvl' := hv' n' hvm'
          unfold maxLen at hvl hvl'
          have hv1 : ValsAt wr.heap.size wr av n.vals := hva.vals.mono hb.size
          have hv2 : ValsAt wr.heap.size wr av' n'.vals := hva'.vals.mono hb.size
          clear ha ha' hva hva'
          have hdiff : Hid (n ≠ n' → ¬ g = g') := fun h e => take_ne hlt hlt2 (fun e2 => h (by rw [hvk.out, hvk'.out, e2])) (by rw [e])
          by_cases ht : n.tag = n'.tag
          · have ht' : Hid _ := ht
            have ht2 : (n.tag != n'.tag) = false := by rw [ht]; simp
            clear ht
            by_cases hvle : n.vals.length = n'.vals.length
            · have hvle' : Hid _ := hvle
              have hvl2 : ((n.vals.length : Int) != (n'.vals.length : Int)) = false := by rw [hvle]; simp
              clear hvle
              go_wp2
              go_quiet (fail)
              go_wp2
              rename World => wo
              go_loopw [6, 64] (fun _ i ws => ∃ j : Nat, j ≤ n.vals.length ∧ i = .int .i64 j ∧ Hid (n.vals.take j = n'.vals.take j) ∧ Below wo.heap.size wo ws) (fun _ i _ => n.vals.length - (intOf i).toNat)
              case atStart => exact ⟨0, Nat.zero_le _, rfl, rfl, below_drewN (gre _) _⟩
              case round =>
                obtain ⟨j, hj, rfl, hallj, hbj⟩ := hrel
                have x4' := cell_later hbj x4
                have y4' := cell_later hbj y4
                have c1' := cell_later hbj c1
                have d1' := cell_later hbj d1
                by_cases hjt : j < n.vals.length
                · have hjt2 : j < n'.vals.length := by have := hvle'.out; omega
                  have hjt' : Hid (j < n'.vals.length) := hjt2
                  obtain ⟨v, vb, voff, hjk, hjm, rfl, hvbs, hvva⟩ := hv1.get hjt
                  obtain ⟨v', vb', voff', hjk', hjm', rfl, hvbs', hvva'⟩ := hv2.get hjt2
                  have hvva := hvva.below hbj hvbs
                  have hvva' := hvva'.below hbj hvbs'
                  have p0 := hvva.kind
                  have p1 := hvva.num
                  have p2 := hvva.text
                  have p3 := hvva.node
                  have q0 := hvva'.kind
                  have q1 := hvva'.num
                  have q2 := hvva'.text
                  have q3 := hvva'.node
                  have j0 : (0 : Int) ≤ (j : Int) := by omega
                  have j1 : (j : Int) < (n.vals.length : Int) := by omega
                  have j2 : (j : Int) < (n'.vals.length : Int) := by omega
                  have hne := run_neq_val v v'
                  clear hv1 hv2 hvva hvva' x4 y4 c0 c1 d0 d1
                  cases hs : sameV v v' with
                  | true =>
                    have hvv : v = v' := (sameV_iff v v').1 hs
                    have hnext : Hid (n.vals.take (j + 1) = n'.vals.take (j + 1)) := take_eq_succ hjt hjt2 hallj.out (by rw [← hjk.out, ← hjk'.out, hvv])
                    rw [hs] at hne
                    simp only [Bool.not_true] at hne
                    clear hvv hs
                    go_wp2
                    go_quiet (fail)
                    go_wp2
                    go_roundw
                    case rel => exact ⟨j + 1, by omega, by go_num, hnext, below_drewN hbj _⟩
                    case measure => simp [intOf]; omega
                  | false =>
                    have hvv : Hid (¬ n = n') := fun e => take_ne hjt hjt2 (fun e2 => by rw [← hjk.out, ← hjk'.out] at e2; rw [(sameV_iff v v').2 e2] at hs; cases hs) (by rw [e])
                    rw [hs] at hne
                    simp only [Bool.not_false] at hne
                    clear hs
                    go_wp2
                    go_quiet (fail)
                    go_wp2
                    go_ret
                    exact ⟨false, rfl, ⟨fun h => (by cases h), fun h => absurd h (hdiff.out hvv.out)⟩, hb.trans ((below_drewN hbj _).mono hb.size)⟩
                · have hnn : n = n' := by
                    have h1 := hallj.out
                    have h2 := hvle'.out
                    rw [List.take_of_length_le (by omega), List.take_of_length_le (by omega)] at h1
                    exact gn_ext ht'.out h1
                  have hnext : Hid (g.nodes.take (k + 1) = g'.nodes.take (k + 1)) := take_eq_succ hlt hlt2 hall.out (by rw [← hvk.out, ← hvk'.out, hnn])
                  clear hnn x4 y4 c0 c1 d0 d1
                  go_wp2
                  go_roundw
                  case rel => exact ⟨k + 1, by omega, by go_num, hnext, hX.grow hbj, hY.grow hbj, hb.trans (hbj.mono hb.size)⟩
                  case measure => simp [intOf]; omega
            · have hd2 : ((n.vals.length : Int) != (n'.vals.length : Int)) = true := by simp; omega
              go_wp2
              go_quiet (fail)
              go_wp2
              go_ret
              exact ⟨false, rfl, ⟨fun h => (by cases h), fun h => absurd h (hdiff.out (fun e => hvle (by rw [e])))⟩, below_drewN hb _⟩
          · have ht2 : (n.tag != n'.tag) = true := by simp [ht]
            go_wp2
            go_quiet (fail)
            go_wp2
            go_ret
            exact ⟨false, rfl, ⟨fun h => (by cases h), fun h => absurd h (hdiff.out (fun e => ht (by rw [e])))⟩, below_drewN hb _⟩
        · have hvv : Hid (g = g') := by
            have h1 := hall.out
            have h2 := hle'.out
            rw [List.take_of_length_le (by omega), List.take_of_length_le (by omega)] at h1
            exact gg_ext hrr.out h1
          go_wp2
          go_ret
          exact ⟨true, rfl, ⟨fun _ => hvv.out, fun _ => rfl⟩, hb⟩
    · have hd : ¬ ((g.nodes.length : Int) = (g'.nodes.length : Int)) := by omega
      go_enter Try.func77, Try.ntmps77
      go_wp2
      go_ret
      exact ⟨false, rfl, ⟨fun h => (by cases h), fun h => absurd (by rw [h]) hle⟩, gal (gal (gre _) _) _⟩

end Go.Proofs.Ythjddpkegooobaa
