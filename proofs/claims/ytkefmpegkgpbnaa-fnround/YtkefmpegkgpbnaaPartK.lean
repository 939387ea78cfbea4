import Derived.Test.YtkefmpegkgpbnaaPartJ

/-
  SAME3: whether two graphs are the same: the specification's comparison. Own work.
-/
namespace Go.Proofs.Ytkefmpegkgpbnaa
open Go.RowKit

set_option maxRecDepth 100000 in
theorem gg_ext {g g' : GG} (h1 : g.root = g'.root) (h2 : g.nodes = g'.nodes) : g = g' := by cases g; cases g'; simp only at h1 h2; rw [h1, h2]

theorem l1same_any (a a' : Option Addr) (cap cap' : Nat) (g g' : GG) (w : World) (hl : g.nodes.length ≤ maxLen) (_hl' : g'.nodes.length ≤ maxLen) (hv : ∀ n, n ∈ g.nodes → n.vals.length ≤ maxLen) (hv' : ∀ n, n ∈ g'.nodes → n.vals.length ≤ maxLen) (ha : NodesAt w.heap.size w a g.nodes) (ha' : NodesAt w.heap.size w a' g'.nodes) :
    Calls Try.prog 70 #[g.val a cap, g'.val a' cap'] w fun e w' => ∃ b, e = .returned (.bool b) ∧ (b = true ↔ g = g') ∧ Below w.heap.size w w' := by
  unfold maxLen at hl
  have hne := run_neq_val g.root g'.root
  cases hs : sameV g.root g'.root with
  | false =>
    rw [hs] at hne
    simp only [Bool.not_false] at hne
    have hrr : Hid (¬ g = g') := fun e => by rw [e, sameV_self] at hs; cases hs
    clear hs
    go_enter Try.func70, Try.ntmps70
    go_wp2
    go_ret
    exact ⟨false, rfl, ⟨fun h => (by cases h), fun h => absurd h hrr.out⟩, gal (gal (gre _) _) _⟩
  | true =>
    rw [hs] at hne
    simp only [Bool.not_true] at hne
    have hrr : Hid (g.root = g'.root) := (sameV_iff _ _).1 hs
    clear hs
    by_cases hle : g.nodes.length = g'.nodes.length
    · have hle' : Hid _ := hle
      have hX0 := (GBox.new w g a cap 27).grow (gal (gre _) (.cells #[.int .i64 g'.root.kind, .int .i64 g'.root.num, .string g'.root.text, .int .i64 g'.root.node, .slice a' g'.nodes.length cap'] 27))
      have hY0 := GBox.new (w.alloc (.cells #[.int .i64 g.root.kind, .int .i64 g.root.num, .string g.root.text, .int .i64 g.root.node, .slice a g.nodes.length cap] 27)) g' a' cap' 27
      rw [show (w.alloc (.cells #[.int .i64 g.root.kind, .int .i64 g.root.num, .string g.root.text, .int .i64 g.root.node, .slice a g.nodes.length cap] 27)).heap.size = w.heap.size + 1 by simp] at hY0
      clear hle
      have hd : ((g.nodes.length : Int) != (g'.nodes.length : Int)) = false := by rw [hle'.out]; simp
      go_enter Try.func70, Try.ntmps70
      go_wp2
      go_loopw [5, 6, 24] (fun _ _ i wr => ∃ k : Nat, k ≤ g.nodes.length ∧ i = .int .i64 k ∧ Hid (g.nodes.take k = g'.nodes.take k) ∧ GBox wr w.heap.size g a cap ∧ GBox wr (w.heap.size + 1) g' a' cap' ∧ Below w.heap.size w wr) (fun _ _ i _ => g.nodes.length - (intOf i).toNat)
      case atStart => exact ⟨0, Nat.zero_le _, rfl, rfl, hX0, hY0, gal (gal (gre _) _) _⟩
      case round =>
        obtain ⟨k, hk, rfl, hall, hX, hY, hb⟩ := hrel
        clear hX0 hY0 hne
        by_cases hlt : k < g.nodes.length
        · have hlt2 : k < g'.nodes.length := by have := hle'.out; omega
          have hlt' : Hid (k < g'.nodes.length) := hlt2
          obtain ⟨n, b, off, av, cv, hvk, hvm, rfl, hbs, hva⟩ := ha.get hlt
          obtain ⟨n', b', off', av', cv', hvk', hvm', rfl, hbs', hva'⟩ := ha'.get hlt2
          have hva := hva.below hb hbs
          have hva' := hva'.below hb hbs'
          have c0 := hva.tag
          have c1 := hva.sl
          have d0 := hva'.tag
          have d1 := hva'.sl
          have x4 := hX.sl
          have y4 := hY.sl
          have i0 : (0 : Int) ≤ (k : Int) := by omega
          have i1 : (k : Int) < (g.nodes.length : Int) := by omega
          have i2 : (k : Int) < (g'.nodes.length : Int) := by omega
          have hvl := hv n hvm
          have hvl' := hv' n' hvm'
          unfold maxLen at hvl hvl'
          have hv1 : ValsAt wr.heap.size wr av n.vals := hva.vals.mono hb.size
          have hv2 : ValsAt wr.heap.size wr av' n'.vals := hva'.vals.mono hb.size
          clear ha ha' hva hva'
          have hdiff : Hid (n ≠ n' → ¬ g = g') := fun h e => take_ne hlt hlt2 (fun e2 => h (by rw [hvk.out, hvk'.out, e2])) (by rw [e])
          by_cases ht : n.tag = n'.tag
          · have ht' : Hid _ := ht
            have ht2 : (n.tag != n'.tag) = false := by rw [ht]; simp
            clear ht
            by_cases hvle : n.vals.length = n'.vals.length
            · have hvle' : Hid _ := hvle
              have hvl2 : ((n.vals.length : Int) != (n'.vals.length : Int)) = false := by rw [hvle]; simp
              clear hvle
              go_wp2
              go_quiet (fail)
              go_wp2
              rename World => wo
              go_loopw [6, 64] (fun _ i ws => ∃ j : Nat, j ≤ n.vals.length ∧ i = .int .i64 j ∧ Hid (n.vals.take j = n'.vals.take j) ∧ Below wo.heap.size wo ws) (fun _ i _ => n.vals.length - (intOf i).toNat)
              case atStart => exact ⟨0, Nat.zero_le _, rfl, rfl, below_drewN (gre _) _⟩
              case round =>
                obtain ⟨j, hj, rfl, hallj, hbj⟩ := hrel
                have x4' := cell_later hbj x4
                have y4' := cell_later hbj y4
                have c1' := cell_later hbj c1
                have d1' := cell_later hbj d1
                by_cases hjt : j < n.vals.length
                · have hjt2 : j < n'.vals.length := by have := hvle'.out; omega
                  have hjt' : Hid (j < n'.vals.length) := hjt2
                  obtain ⟨v, vb, voff, hjk, hjm, rfl, hvbs, hvva⟩ := hv1.get hjt
                  obtain ⟨v', vb', voff', hjk', hjm', rfl, hvbs', hvva'⟩ := hv2.get hjt2
                  have hvva := hvva.below hbj hvbs
                  have hvva' := hvva'.below hbj hvbs'
                  have p0 := hvva.kind
                  have p1 := hvva.num
                  have p2 := hvva.text
                  have p3 := hvva.node
                  have q0 := hvva'.kind
                  have q1 := hvva'.num
                  have q2 := hvva'.text
                  have q3 := hvva'.node
                  have j0 : (0 : Int) ≤ (j : Int) := by omega
                  have j1 : (j : Int) < (n.vals.length : Int) := by omega
                  have j2 : (j : Int) < (n'.vals.length : Int) := by omega
                  have hne := run_neq_val v v'
                  clear hv1 hv2 hvva hvva' x4 y4 c0 c1 d0 d1
                  cases hs : sameV v v' with
                  | true =>
                    have hvv : v = v' := (sameV_iff v v').1 hs
                    have hnext : Hid (n.vals.take (j + 1) = n'.vals.take (j + 1)) := take_eq_succ hjt hjt2 hallj.out (by rw [← hjk.out, ← hjk'.out, hvv])
                    rw [hs] at hne
                    simp only [Bool.not_true] at hne
                    clear hvv hs
                    go_wp2
                    go_quiet (fail)
                    go_wp2
                    go_roundw
                    case rel => exact ⟨j + 1, by omega, by go_num, hnext, below_drewN hbj _⟩
                    case measure => simp [intOf]; omega
                  | false =>
                    have hvv : Hid (¬ n = n') := fun e => take_ne hjt hjt2 (fun e2 => by rw [← hjk.out, ← hjk'.out] at e2; rw [(sameV_iff v v').2 e2] at hs; cases hs) (by rw [e])
                    rw [hs] at hne
                    simp only [Bool.not_false] at hne
                    clear hs
                    go_wp2
                    go_quiet (fail)
                    go_wp2
                    go_ret
                    exact ⟨false, rfl, ⟨fun h => (by cases h), fun h => absurd h (hdiff.out hvv.out)⟩, hb.trans ((below_drewN hbj _).mono hb.size)⟩
                · have hnn : n = n' := by
                    have h1 := hallj.out
                    have h2 := hvle'.out
                    rw [List.take_of_length_le (by omega), List.take_of_length_le (by omega)] at h1
                    exact gn_ext ht'.out h1
                  have hnext : Hid (g.nodes.take (k + 1) = g'.nodes.take (k + 1)) := take_eq_succ hlt hlt2 hall.out (by rw [← hvk.out, ← hvk'.out, hnn])
                  clear hnn x4 y4 c0 c1 d0 d1
                  go_wp2
                  go_roundw
                  case rel => exact ⟨k + 1, by omega, by go_num, hnext, hX.grow hbj, hY.grow hbj, hb.trans (hbj.mono hb.size)⟩
                  case measure => simp [intOf]; omega
            · have hd2 : ((n.vals.length : Int) != (n'.vals.length : Int)) = true := by simp; omega
              go_wp2
              go_quiet (fail)
              go_wp2
              go_ret
              exact ⟨false, rfl, ⟨fun h => (by cases h), fun h => absurd h (hdiff.out (fun e => hvle (by rw [e])))⟩, below_drewN hb _⟩
          · have ht2 : (n.tag != n'.tag) = true := by simp [ht]
            go_wp2
            go_quiet (fail)
            go_wp2
            go_ret
            exact ⟨false, rfl, ⟨fun h => (by cases h), fun h => absurd h (hdiff.out (fun e => ht (by rw [e])))⟩, below_drewN hb _⟩
        · have hvv : Hid (g = g') := by
            have h1 := hall.out
            have h2 := hle'.out
            rw [List.take_of_length_le (by omega), List.take_of_length_le (by omega)] at h1
            exact gg_ext hrr.out h1
          go_wp2
          go_ret
          exact ⟨true, rfl, ⟨fun _ => hvv.out, fun _ => rfl⟩, hb⟩
    · have hd : ¬ ((g.nodes.length : Int) = (g'.nodes.length : Int)) := by omega
      go_enter Try.func70, Try.ntmps70
      go_wp2
      go_ret
      exact ⟨false, rfl, ⟨fun h => (by cases h), fun h => absurd (by rw [h]) hle⟩, gal (gal (gre _) _) _⟩

end Go.Proofs.Ytkefmpegkgpbnaa

/-
  ALIKES: the specification's Alike, and the program's. Own work.
-/
namespace Go.Proofs.Ytkefmpegkgpbnaa
open Go.RowKit

/-- both well made, and of one form -/
def AlikeP (g g' : GG) : Prop := okG g = true ∧ okG g' = true ∧ canon g = canon g'

set_option maxRecDepth 100000 in
/-- one alone may come up, it is not wanted -/
theorem anyU_skip {P : Program} {ops : Array Oper} {Q : Exit → Act → World → Prop} {md : Region.Mode} {S : World → Prop} {lst : Nat} {i : Nat} {o : Oper} {fuel : Nat} {listed : Array Bool} {a : Act} {w : World} (hr : Region.ready md ops listed = [i]) (ho : ops[i]? = some o)
    (hw : Region.wanted o (yielded ops a.tmps) = false) (hS : S w) (h : anyU P md ops Q S lst fuel (listed.setIfInBounds i true) (a.put o.dst undef) w) : anyU P md ops Q S lst (fuel + 1) listed a w :=
  anyU_one hr ho (fun K hK => by rw [if_neg (by rw [hw]; exact Bool.false_ne_true)]; exact hK.out _ _ hS h)

set_option maxHeartbeats 1000000 in
set_option maxRecDepth 100000 in
theorem specAlike_any (a a' : Option Addr) (cap cap' : Nat) (g g' : GG) (w : World) (hg : g.Ok) (hg' : g'.Ok) (ha : NodesAt w.heap.size w a g.nodes) (ha' : NodesAt w.heap.size w a' g'.nodes) :
    Calls Try.prog 23 #[g.val a cap, g'.val a' cap'] w fun e w' => ∃ b, e = .returned (.bool b) ∧ (b = true ↔ AlikeP g g') ∧ Below w.heap.size w w' := by
  have hX0 := (GBox.new w g a cap 27).grow (gal (gre _) (.cells #[.int .i64 g'.root.kind, .int .i64 g'.root.num, .string g'.root.text, .int .i64 g'.root.node, .slice a' g'.nodes.length cap'] 27))
  have hY0 := GBox.new (w.alloc (.cells #[.int .i64 g.root.kind, .int .i64 g.root.num, .string g.root.text, .int .i64 g.root.node, .slice a g.nodes.length cap] 27)) g' a' cap' 27
  rw [show (w.alloc (.cells #[.int .i64 g.root.kind, .int .i64 g.root.num, .string g.root.text, .int .i64 g.root.node, .slice a g.nodes.length cap] 27)).heap.size = w.heap.size + 1 by simp] at hY0
  cases hok : okG g with
  | false =>
    have hn : Hid (¬ AlikeP g g') := fun h => by rw [h.1] at hok; cases hok
    have hok1 : Hid _ := hok
    clear hok
    go_enter Try.func23, Try.ntmps23
    go_wp2
    have hB : Below ((w.alloc (.cells #[.int .i64 g.root.kind, .int .i64 g.root.num, .string g.root.text, .int .i64 g.root.node, .slice a g.nodes.length cap] 27)).alloc (.cells #[.int .i64 g'.root.kind, .int .i64 g'.root.num, .string g'.root.text, .int .i64 g'.root.node, .slice a' g'.nodes.length cap'] 27)).heap.size ((w.alloc (.cells #[.int .i64 g.root.kind, .int .i64 g.root.num, .string g.root.text, .int .i64 g.root.node, .slice a g.nodes.length cap] 27)).alloc (.cells #[.int .i64 g'.root.kind, .int .i64 g'.root.num, .string g'.root.text, .int .i64 g'.root.node, .slice a' g'.nodes.length cap'] 27)) ((w.alloc (.cells #[.int .i64 g.root.kind, .int .i64 g.root.num, .string g.root.text, .int .i64 g.root.node, .slice a g.nodes.length cap] 27)).alloc (.cells #[.int .i64 g'.root.kind, .int .i64 g'.root.num, .string g'.root.text, .int .i64 g'.root.node, .slice a' g'.nodes.length cap'] 27)).drew := gdr (gre _)
    obtain ⟨xz, x0, x1, x2, x3, x4⟩ := hX0.grow hB
    obtain ⟨yz, y0, y1, y2, y3, y4⟩ := hY0.grow hB
    refine wp_regionU (fun u => GBox u w.heap.size g a cap ∧ GBox u (w.heap.size + 1) g' a' cap') 13 (by kernel_rfl) ⟨hX0.grow hB, hY0.grow hB⟩ (fun _ => ?_)
    refine anyU_one (i := 0) (by kernel_rfl) rfl (fun K hK => ?_)
    go_simp
    refine hK.out _ _ ⟨hX0.grow hB, hY0.grow hB⟩ ?_
    clear hK
    refine anyU_one (i := 1) (by kernel_rfl) rfl (fun K hK => ?_)
    go_simp
    refine (specGraphOk_any a cap g _ hg (ha.grow (gca (gal (gal (gre _) _) _) hB))).mono ?_
    rintro e w1 ⟨rfl, hb1⟩
    have hB1 := gca hB hb1
    clear hB
    have hB := hB1
    clear hB1
    rw [hok1.out]
    obtain ⟨xz, x0, x1, x2, x3, x4⟩ := hX0.grow hB
    obtain ⟨yz, y0, y1, y2, y3, y4⟩ := hY0.grow hB
    refine hK.out _ _ ⟨hX0.grow hB, hY0.grow hB⟩ ?_
    clear hK
    refine anyU_one (i := 2) (by kernel_rfl) rfl (fun K hK => ?_)
    go_simp
    refine hK.out _ _ ⟨hX0.grow hB, hY0.grow hB⟩ ?_
    clear hK
    refine anyU_skip (i := 3) (by kernel_rfl) rfl (by rfl) ⟨hX0.grow hB, hY0.grow hB⟩ ?_
    simp only [Act.put, List.getElem_toArray, List.getElem_cons_zero, List.getElem_cons_succ, List.setIfInBounds_toArray, List.set_cons_zero, List.set_cons_succ]
    refine anyU_skip (i := 4) (by kernel_rfl) rfl (by rfl) ⟨hX0.grow hB, hY0.grow hB⟩ ?_
    simp only [Act.put, List.getElem_toArray, List.getElem_cons_zero, List.getElem_cons_succ, List.setIfInBounds_toArray, List.set_cons_zero, List.set_cons_succ]
    refine anyU_one (i := 5) (by kernel_rfl) rfl (fun K hK => ?_)
    go_simp
    refine hK.out _ _ ⟨hX0.grow hB, hY0.grow hB⟩ ?_
    clear hK
    refine anyU_one (i := 6) (by kernel_rfl) rfl (fun K hK => ?_)
    go_simp
    refine hK.out _ _ ⟨hX0.grow hB, hY0.grow hB⟩ ?_
    clear hK
    refine anyU_take (i := 7) (v := undef) rfl (by kernel_rfl) (by kernel_rfl) (by kernel_rfl) (by kernel_rfl) (fun _ _ _ h => h) (Or.inr ⟨by rfl, rfl⟩) ⟨hX0.grow hB, hY0.grow hB⟩ ?_
    simp only [Act.put, List.getElem_toArray, List.getElem_cons_zero, List.getElem_cons_succ, List.setIfInBounds_toArray, List.set_cons_zero, List.set_cons_succ]
    refine anyU_take (i := 9) (v := undef) rfl (by kernel_rfl) (by kernel_rfl) (by kernel_rfl) (by kernel_rfl) (fun _ _ _ h => h) (Or.inr ⟨by rfl, rfl⟩) ⟨hX0.grow hB, hY0.grow hB⟩ ?_
    simp only [Act.put, List.getElem_toArray, List.getElem_cons_zero, List.getElem_cons_succ, List.setIfInBounds_toArray, List.set_cons_zero, List.set_cons_succ]
    refine anyU_skip (i := 8) (by kernel_rfl) rfl (by rfl) ⟨hX0.grow hB, hY0.grow hB⟩ ?_
    simp only [Act.put, List.getElem_toArray, List.getElem_cons_zero, List.getElem_cons_succ, List.setIfInBounds_toArray, List.set_cons_zero, List.set_cons_succ]
    refine anyU_skip (i := 10) (by kernel_rfl) rfl (by rfl) ⟨hX0.grow hB, hY0.grow hB⟩ ?_
    simp only [Act.put, List.getElem_toArray, List.getElem_cons_zero, List.getElem_cons_succ, List.setIfInBounds_toArray, List.set_cons_zero, List.set_cons_succ]
    refine anyU_skip (i := 11) (by kernel_rfl) rfl (by rfl) ⟨hX0.grow hB, hY0.grow hB⟩ ?_
    simp only [Act.put, List.getElem_toArray, List.getElem_cons_zero, List.getElem_cons_succ, List.setIfInBounds_toArray, List.set_cons_zero, List.set_cons_succ]
    refine anyU_one (i := 12) (by kernel_rfl) rfl (fun K hK => ?_)
    go_simp
    refine hK.out _ _ ⟨hX0.grow hB, hY0.grow hB⟩ ?_
    clear hK
    refine anyU_last (by kernel_rfl) rfl (by kernel_rfl) (fun K hK => ?_)
    go_simp
    refine hK.out _ _ ?_
    clear hK
    go_wp2
    go_ret
    exact ⟨false, rfl, ⟨fun h => (by cases h), fun h => absurd h hn.out⟩, gca (gal (gal (gre _) _) _) hB⟩
  | true =>
    have hok1 : Hid _ := hok
    clear hok
    cases hok : okG g' with
    | false =>
      have hn : Hid (¬ AlikeP g g') := fun h => by rw [h.2.1] at hok; cases hok
      have hok2 : Hid _ := hok
      clear hok
      go_enter Try.func23, Try.ntmps23
      go_wp2
      have hB : Below ((w.alloc (.cells #[.int .i64 g.root.kind, .int .i64 g.root.num, .string g.root.text, .int .i64 g.root.node, .slice a g.nodes.length cap] 27)).alloc (.cells #[.int .i64 g'.root.kind, .int .i64 g'.root.num, .string g'.root.text, .int .i64 g'.root.node, .slice a' g'.nodes.length cap'] 27)).heap.size ((w.alloc (.cells #[.int .i64 g.root.kind, .int .i64 g.root.num, .string g.root.text, .int .i64 g.root.node, .slice a g.nodes.length cap] 27)).alloc (.cells #[.int .i64 g'.root.kind, .int .i64 g'.root.num, .string g'.root.text, .int .i64 g'.root.node, .slice a' g'.nodes.length cap'] 27)) ((w.alloc (.cells #[.int .i64 g.root.kind, .int .i64 g.root.num, .string g.root.text, .int .i64 g.root.node, .slice a g.nodes.length cap] 27)).alloc (.cells #[.int .i64 g'.root.kind, .int .i64 g'.root.num, .string g'.root.text, .int .i64 g'.root.node, .slice a' g'.nodes.length cap'] 27)).drew := gdr (gre _)
      obtain ⟨xz, x0, x1, x2, x3, x4⟩ := hX0.grow hB
      obtain ⟨yz, y0, y1, y2, y3, y4⟩ := hY0.grow hB
      refine wp_regionU (fun u => GBox u w.heap.size g a cap ∧ GBox u (w.heap.size + 1) g' a' cap') 13 (by kernel_rfl) ⟨hX0.grow hB, hY0.grow hB⟩ (fun _ => ?_)
      refine anyU_one (i := 0) (by kernel_rfl) rfl (fun K hK => ?_)
      go_simp
      refine hK.out _ _ ⟨hX0.grow hB, hY0.grow hB⟩ ?_
      clear hK
      refine anyU_one (i := 1) (by kernel_rfl) rfl (fun K hK => ?_)
      go_simp
      refine (specGraphOk_any a cap g _ hg (ha.grow (gca (gal (gal (gre _) _) _) hB))).mono ?_
      rintro e w1 ⟨rfl, hb1⟩
      have hB1 := gca hB hb1
      clear hB
      have hB := hB1
      clear hB1
      rw [hok1.out]
      obtain ⟨xz, x0, x1, x2, x3, x4⟩ := hX0.grow hB
      obtain ⟨yz, y0, y1, y2, y3, y4⟩ := hY0.grow hB
      refine hK.out _ _ ⟨hX0.grow hB, hY0.grow hB⟩ ?_
      clear hK
      refine anyU_one (i := 2) (by kernel_rfl) rfl (fun K hK => ?_)
      go_simp
      refine hK.out _ _ ⟨hX0.grow hB, hY0.grow hB⟩ ?_
      clear hK
      refine anyU_one (i := 3) (by kernel_rfl) rfl (fun K hK => ?_)
      go_simp
      refine hK.out _ _ ⟨hX0.grow hB, hY0.grow hB⟩ ?_
      clear hK
      refine anyU_one (i := 4) (by kernel_rfl) rfl (fun K hK => ?_)
      go_simp
      refine (specGraphOk_any a' cap' g' _ hg' (ha'.grow (gca (gal (gal (gre _) _) _) hB))).mono ?_
      rintro e w2 ⟨rfl, hb2⟩
      have hB2 := gca hB hb2
      clear hB
      have hB := hB2
      clear hB2
      rw [hok2.out]
      obtain ⟨xz, x0, x1, x2, x3, x4⟩ := hX0.grow hB
      obtain ⟨yz, y0, y1, y2, y3, y4⟩ := hY0.grow hB
      refine hK.out _ _ ⟨hX0.grow hB, hY0.grow hB⟩ ?_
      clear hK
      refine anyU_one (i := 5) (by kernel_rfl) rfl (fun K hK => ?_)
      go_simp
      refine hK.out _ _ ⟨hX0.grow hB, hY0.grow hB⟩ ?_
      clear hK
      refine anyU_one (i := 6) (by kernel_rfl) rfl (fun K hK => ?_)
      go_simp
      refine hK.out _ _ ⟨hX0.grow hB, hY0.grow hB⟩ ?_
      clear hK
      refine anyU_take (i := 7) (v := undef) rfl (by kernel_rfl) (by kernel_rfl) (by kernel_rfl) (by kernel_rfl) (fun _ _ _ h => h) (Or.inr ⟨by rfl, rfl⟩) ⟨hX0.grow hB, hY0.grow hB⟩ ?_
      simp only [Act.put, List.getElem_toArray, List.getElem_cons_zero, List.getElem_cons_succ, List.setIfInBounds_toArray, List.set_cons_zero, List.set_cons_succ]
      refine anyU_take (i := 9) (v := undef) rfl (by kernel_rfl) (by kernel_rfl) (by kernel_rfl) (by kernel_rfl) (fun _ _ _ h => h) (Or.inr ⟨by rfl, rfl⟩) ⟨hX0.grow hB, hY0.grow hB⟩ ?_
      simp only [Act.put, List.getElem_toArray, List.getElem_cons_zero, List.getElem_cons_succ, List.setIfInBounds_toArray, List.set_cons_zero, List.set_cons_succ]
      refine anyU_skip (i := 8) (by kernel_rfl) rfl (by rfl) ⟨hX0.grow hB, hY0.grow hB⟩ ?_
      simp only [Act.put, List.getElem_toArray, List.getElem_cons_zero, List.getElem_cons_succ, List.setIfInBounds_toArray, List.set_cons_zero, List.set_cons_succ]
      refine anyU_skip (i := 10) (by kernel_rfl) rfl (by rfl) ⟨hX0.grow hB, hY0.grow hB⟩ ?_
      simp only [Act.put, List.getElem_toArray, List.getElem_cons_zero, List.getElem_cons_succ, List.setIfInBounds_toArray, List.set_cons_zero, List.set_cons_succ]
      refine anyU_skip (i := 11) (by kernel_rfl) rfl (by rfl) ⟨hX0.grow hB, hY0.grow hB⟩ ?_
      simp only [Act.put, List.getElem_toArray, List.getElem_cons_zero, List.getElem_cons_succ, List.setIfInBounds_toArray, List.set_cons_zero, List.set_cons_succ]
      refine anyU_one (i := 12) (by kernel_rfl) rfl (fun K hK => ?_)
      go_simp
      refine hK.out _ _ ⟨hX0.grow hB, hY0.grow hB⟩ ?_
      clear hK
      refine anyU_last (by kernel_rfl) rfl (by kernel_rfl) (fun K hK => ?_)
      go_simp
      refine hK.out _ _ ?_
      clear hK
      go_wp2
      go_ret
      exact ⟨false, rfl, ⟨fun h => (by cases h), fun h => absurd h hn.out⟩, gca (gal (gal (gre _) _) _) hB⟩
    | true =>
      have hok2 : Hid _ := hok
      clear hok
      have hs1 := canon_small hok1.out
      have hs2 := canon_small hok2.out
      have hm1 : Hid ((canon g).nodes.length ≤ maxLen ∧ ∀ n, n ∈ (canon g).nodes → n.vals.length ≤ maxLen) := ⟨by unfold maxLen; omega, fun n hn => by have := hs1.2 n hn; unfold maxLen; omega⟩
      have hm2 : Hid ((canon g').nodes.length ≤ maxLen ∧ ∀ n, n ∈ (canon g').nodes → n.vals.length ≤ maxLen) := ⟨by unfold maxLen; omega, fun n hn => by have := hs2.2 n hn; unfold maxLen; omega⟩
      clear hs1 hs2
      go_enter Try.func23, Try.ntmps23
      go_wp2
      have hB : Below ((w.alloc (.cells #[.int .i64 g.root.kind, .int .i64 g.root.num, .string g.root.text, .int .i64 g.root.node, .slice a g.nodes.length cap] 27)).alloc (.cells #[.int .i64 g'.root.kind, .int .i64 g'.root.num, .string g'.root.text, .int .i64 g'.root.node, .slice a' g'.nodes.length cap'] 27)).heap.size ((w.alloc (.cells #[.int .i64 g.root.kind, .int .i64 g.root.num, .string g.root.text, .int .i64 g.root.node, .slice a g.nodes.length cap] 27)).alloc (.cells #[.int .i64 g'.root.kind, .int .i64 g'.root.num, .string g'.root.text, .int .i64 g'.root.node, .slice a' g'.nodes.length cap'] 27)) ((w.alloc (.cells #[.int .i64 g.root.kind, .int .i64 g.root.num, .string g.root.text, .int .i64 g.root.node, .slice a g.nodes.length cap] 27)).alloc (.cells #[.int .i64 g'.root.kind, .int .i64 g'.root.num, .string g'.root.text, .int .i64 g'.root.node, .slice a' g'.nodes.length cap'] 27)).drew := gdr (gre _)
      obtain ⟨xz, x0, x1, x2, x3, x4⟩ := hX0.grow hB
      obtain ⟨yz, y0, y1, y2, y3, y4⟩ := hY0.grow hB
      refine wp_regionU (fun u => GBox u w.heap.size g a cap ∧ GBox u (w.heap.size + 1) g' a' cap') 13 (by kernel_rfl) ⟨hX0.grow hB, hY0.grow hB⟩ (fun _ => ?_)
      refine anyU_one (i := 0) (by kernel_rfl) rfl (fun K hK => ?_)
      go_simp
      refine hK.out _ _ ⟨hX0.grow hB, hY0.grow hB⟩ ?_
      clear hK
      refine anyU_one (i := 1) (by kernel_rfl) rfl (fun K hK => ?_)
      go_simp
      refine (specGraphOk_any a cap g _ hg (ha.grow (gca (gal (gal (gre _) _) _) hB))).mono ?_
      rintro e w1 ⟨rfl, hb1⟩
      have hB1 := gca hB hb1
      clear hB
      have hB := hB1
      clear hB1
      rw [hok1.out]
      obtain ⟨xz, x0, x1, x2, x3, x4⟩ := hX0.grow hB
      obtain ⟨yz, y0, y1, y2, y3, y4⟩ := hY0.grow hB
      refine hK.out _ _ ⟨hX0.grow hB, hY0.grow hB⟩ ?_
      clear hK
      refine anyU_one (i := 2) (by kernel_rfl) rfl (fun K hK => ?_)
      go_simp
      refine hK.out _ _ ⟨hX0.grow hB, hY0.grow hB⟩ ?_
      clear hK
      refine anyU_one (i := 3) (by kernel_rfl) rfl (fun K hK => ?_)
      go_simp
      refine hK.out _ _ ⟨hX0.grow hB, hY0.grow hB⟩ ?_
      clear hK
      refine anyU_one (i := 4) (by kernel_rfl) rfl (fun K hK => ?_)
      go_simp
      refine (specGraphOk_any a' cap' g' _ hg' (ha'.grow (gca (gal (gal (gre _) _) _) hB))).mono ?_
      rintro e w2 ⟨rfl, hb2⟩
      have hB2 := gca hB hb2
      clear hB
      have hB := hB2
      clear hB2
      rw [hok2.out]
      obtain ⟨xz, x0, x1, x2, x3, x4⟩ := hX0.grow hB
      obtain ⟨yz, y0, y1, y2, y3, y4⟩ := hY0.grow hB
      refine hK.out _ _ ⟨hX0.grow hB, hY0.grow hB⟩ ?_
      clear hK
      refine anyU_one (i := 5) (by kernel_rfl) rfl (fun K hK => ?_)
      go_simp
      refine hK.out _ _ ⟨hX0.grow hB, hY0.grow hB⟩ ?_
      clear hK
      refine anyU_one (i := 6) (by kernel_rfl) rfl (fun K hK => ?_)
      go_simp
      refine hK.out _ _ ⟨hX0.grow hB, hY0.grow hB⟩ ?_
      clear hK
      refine anyU_take (i := 7) (v := ?_) rfl (by kernel_rfl) (by kernel_rfl) (by kernel_rfl) (by kernel_rfl) (fun _ _ _ h => h) (Or.inl ⟨by rfl, ?_⟩) ⟨hX0.grow hB, hY0.grow hB⟩ ?_
      rotate_left
      · intro u hSu; obtain ⟨⟨_, s0, s1, s2, s3, s4⟩, ⟨_, t0, t1, t2, t3, t4⟩⟩ := hSu; go_simp <;> with_reducible rfl
      simp only [Act.put, List.getElem_toArray, List.getElem_cons_zero, List.getElem_cons_succ, List.setIfInBounds_toArray, List.set_cons_zero, List.set_cons_succ]
      refine anyU_take (i := 9) (v := ?_) rfl (by kernel_rfl) (by kernel_rfl) (by kernel_rfl) (by kernel_rfl) (fun _ _ _ h => h) (Or.inl ⟨by rfl, ?_⟩) ⟨hX0.grow hB, hY0.grow hB⟩ ?_
      rotate_left
      · intro u hSu; obtain ⟨⟨_, s0, s1, s2, s3, s4⟩, ⟨_, t0, t1, t2, t3, t4⟩⟩ := hSu; go_simp <;> with_reducible rfl
      simp only [Act.put, List.getElem_toArray, List.getElem_cons_zero, List.getElem_cons_succ, List.setIfInBounds_toArray, List.set_cons_zero, List.set_cons_succ]
      refine anyU_one (i := 8) (by kernel_rfl) rfl (fun K hK => ?_)
      go_simp
      refine (specCanon_any a cap g _ hok1.out (ha.grow (gca (gal (gal (gre _) _) _) hB))).mono ?_
      rintro e w3 ⟨na, nc, rfl, hn3, hb3⟩
      have hB3 := gca hB hb3
      clear hB
      have hB := hB3
      clear hB3
      refine hK.out _ _ ⟨hX0.grow hB, hY0.grow hB⟩ ?_
      clear hK
      refine anyU_one (i := 10) (by kernel_rfl) rfl (fun K hK => ?_)
      go_simp
      refine (specCanon_any a' cap' g' _ hok2.out (ha'.grow (gca (gal (gal (gre _) _) _) hB))).mono ?_
      rintro e w4 ⟨na', nc', rfl, hn4, hb4⟩
      have hB4 := gca hB hb4
      clear hB
      have hB := hB4
      clear hB4
      refine hK.out _ _ ⟨hX0.grow hB, hY0.grow hB⟩ ?_
      clear hK
      refine anyU_one (i := 11) (by kernel_rfl) rfl (fun K hK => ?_)
      go_simp
      refine (l1same_any na na' nc nc' (canon g) (canon g') _ hm1.out.1 hm2.out.1 hm1.out.2 hm2.out.2 (hn3.grow hb4) hn4).mono ?_
      rintro e w5 ⟨bb, rfl, hbi0, hb5⟩
      have hB5 := gca hB hb5
      clear hB
      have hB := hB5
      clear hB5
      have hbi : Hid (bb = true ↔ canon g = canon g') := hbi0
      clear hbi0
      refine hK.out _ _ ⟨hX0.grow hB, hY0.grow hB⟩ ?_
      clear hK
      refine anyU_one (i := 12) (by kernel_rfl) rfl (fun K hK => ?_)
      go_simp
      refine hK.out _ _ ⟨hX0.grow hB, hY0.grow hB⟩ ?_
      clear hK
      refine anyU_last (by kernel_rfl) rfl (by kernel_rfl) (fun K hK => ?_)
      go_simp
      refine hK.out _ _ ?_
      clear hK
      go_wp2
      go_ret
      exact ⟨bb, rfl, hbi.out.trans ⟨fun h => ⟨hok1.out, hok2.out, h⟩, fun h => h.2.2⟩, gca (gal (gal (gre _) _) _) hB⟩

end Go.Proofs.Ytkefmpegkgpbnaa
