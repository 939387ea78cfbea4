import Derived.Test.YthjddpkegooobaaPartRoJ

/-
  ALIKES: the specification's Alike, and the program's. Own work.
-/
namespace Go.Proofs.Ythjddpkegooobaa
open Go.RowKit

/-- both well made, and of one form -/
def AlikeP (g g' : GG) : Prop := okG g = true ∧ okG g' = true ∧ canon g = canon g'

set_option maxRecDepth 100000 in
/-- one alone may come up, it is not wanted -/
theorem anyU_skip {P : Program} {ops : Array Oper} {Q : Exit → Act → World → Prop} {md : Region.Mode} {S : World → Prop} {lst : Nat} {i : Nat} {o : Oper} {fuel : Nat} {listed : Array Bool} {a : Act} {w : World} (hr : Region.ready md ops listed = [i]) (ho : ops[i]? = some o)
    (hw : Region.wanted o (yielded ops a.tmps) = false) (hS : S w) (h : anyU P md ops Q S lst fuel (listed.setIfInBounds i true) (a.put o.dst undef) w) : anyU P md ops Q S lst (fuel + 1) listed a w :=
  anyU_one hr ho (fun K hK => by rw [if_neg (by rw [hw]; exact Bool.false_ne_true)]; exact hK.out _ _ hS h)

set_option maxHeartbeats 1000000 in
set_option maxRecDepth 100000 in
theorem specAlike_any (a a' : Option Addr) (cap cap' : Nat) (g g' : GG) (w : World) (hg : g.Ok) (hg' : g'.Ok) (ha : NodesAt w.heap.size w a g.nodes) (ha' : NodesAt w.heap.size w a' g'.nodes) :
    Calls Try.prog 24 #[g.val a cap, g'.val a' cap'] w fun e w' => ∃ b, e = .returned (.bool b) ∧ (b = true ↔ AlikeP g g') ∧ Below w.heap.size w w' := by
  have hX0 := (GBox.new w g a cap 27).grow (gal (gre _) (.cells #[.int .i64 g'.root.kind, .int .i64 g'.root.num, .string g'.root.text, .int .i64 g'.root.node, .slice a' g'.nodes.length cap'] 27))
  have hY0 := GBox.new (w.alloc (.cells #[.int .i64 g.root.kind, .int .i64 g.root.num, .string g.root.text, .int .i64 g.root.node, .slice a g.nodes.length cap] 27)) g' a' cap' 27
  rw [show (w.alloc (.cells #[.int .i64 g.root.kind, .int .i64 g.root.num, .string g.root.text, .int .i64 g.root.node, .slice a g.nodes.length cap] 27)).heap.size = w.heap.size + 1 by simp] at hY0
  cases hok : okG g with
  | false =>
    have hn : Hid (¬ AlikeP g g') := fun h => by rw [h.1] at hok; cases hok
    have hok1 : Hid _ := hok
    clear hok
    go_enter Try.func24, Try.ntmps24
    go_wp2
    have hB : Below ((w.alloc (.cells #[.int .i64 g.root.kind, .int .i64 g.root.num, .string g.root.text, .int .i64 g.root.node, .slice a g.nodes.length cap] 27)).alloc (.cells #[.int .i64 g'.root.kind, .int .i64 g'.root.num, .string g'.root.text, .int .i64 g'.root.node, .slice a' g'.nodes.length cap'] 27)).heap.size ((w.alloc (.cells #[.int .i64 g.root.kind, .int .i64 g.root.num, .string g.root.text, .int .i64 g.root.node, .slice a g.nodes.length cap] 27)).alloc (.cells #[.int .i64 g'.root.kind, .int .i64 g'.root.num, .string g'.root.text, .int .i64 g'.root.node, .slice a' g'.nodes.length cap'] 27)) ((w.alloc (.cells #[.int .i64 g.root.kind, .int .i64 g.root.num, .string g.root.text, .int .i64 g.root.node, .slice a g.nodes.length cap] 27)).alloc (.cells #[.int .i64 g'.root.kind, .int .i64 g'.root.num, .string g'.root.text, .int .i64 g'.root.node, .slice a' g'.nodes.length cap'] 27)).drew := gdr (gre _)
    obtain ⟨xz, x0, x1, x2, x3, x4⟩ := hX0.grow hB
    obtain ⟨yz, y0, y1, y2, y3, y4⟩ := hY0.grow hB
    refine wp_regionU (fun u => GBox u w.heap.size g a cap ∧ GBox u (w.heap.size + 1) g' a' cap') 13 (by kernel_rfl) ⟨hX0.grow hB, hY0.grow hB⟩ (fun _ => ?_)
    refine anyU_one (i := 0) (by kernel_rfl) rfl (fun K hK => ?_)
    go_simp
    refine hK.out _ _ ⟨hX0.grow hB, hY0.grow hB⟩ ?_
    clear hK
    refine anyU_one (i := 1) (by kernel_rfl) rfl (fun K hK => ?_)
    go_simp
    refine (specGraphOk_any a cap g _ hg (ha.grow (gca (gal (gal (gre _) _) _) hB))).mono ?_
    rintro e w1 ⟨rfl, hb1⟩
    have hB1 := gca hB hb1
    clear hB
    have hB := hB1
    clear hB1
    rw [hok1.out]
    obtain ⟨xz, x0, x1, x2, x3, x4⟩ := hX0.grow hB
    obtain ⟨yz, y0, y1, y2, y3, y4⟩ := hY0.grow hB
    refine hK.out _ _ ⟨hX0.grow hB, hY0.grow hB⟩ ?_
    clear hK
    refine anyU_one (i := 2) (by kernel_rfl) rfl (fun K hK => ?_)
    go_simp
    refine hK.out _ _ ⟨hX0.grow hB, hY0.grow hB⟩ ?_
    clear hK
    refine anyU_skip (i := 3) (by kernel_rfl) rfl (by rfl) ⟨hX0.grow hB, hY0.grow hB⟩ ?_
    simp only [Act.put, List.getElem_toArray, List.getElem_cons_zero, List.getElem_cons_succ, List.setIfInBounds_toArray, List.set_cons_zero, List.set_cons_succ]
    refine anyU_skip (i := 4) (by kernel_rfl) rfl (by rfl) ⟨hX0.grow hB, hY0.grow hB⟩ ?_
    simp only [Act.put, List.getElem_toArray, List.getElem_cons_zero, List.getElem_cons_succ, List.setIfInBounds_toArray, List.set_cons_zero, List.set_cons_succ]
    refine anyU_one (i := 5) (by kernel_rfl) rfl (fun K hK => ?_)
    go_simp
    refine hK.out _ _ ⟨hX0.grow hB, hY0.grow hB⟩ ?_
    clear hK
    refine anyU_one (i := 6) (by kernel_rfl) rfl (fun K hK => ?_)
    go_simp
    refine hK.out _ _ ⟨hX0.grow hB, hY0.grow hB⟩ ?_
    clear hK
    refine anyU_take (i := 7) (v := undef) rfl (by kernel_rfl) (by kernel_rfl) (by kernel_rfl) (by kernel_rfl) (fun _ _ _ h => h) (Or.inr ⟨by rfl, rfl⟩) ⟨hX0.grow hB, hY0.grow hB⟩ ?_
    simp only [Act.put, List.getElem_toArray, List.getElem_cons_zero, List.getElem_cons_succ, List.setIfInBounds_toArray, List.set_cons_zero, List.set_cons_succ]
    refine anyU_take (i := 9) (v := undef) rfl (by kernel_rfl) (by kernel_rfl) (by kernel_rfl) (by kernel_rfl) (fun _ _ _ h => h) (Or.inr ⟨by rfl, rfl⟩) ⟨hX0.grow hB, hY0.grow hB⟩ ?_
    simp only [Act.put, List.getElem_toArray, List.getElem_cons_zero, List.getElem_cons_succ, List.setIfInBounds_toArray, List.set_cons_zero, List.set_cons_succ]
    refine anyU_skip (i := 8) (by kernel_rfl) rfl (by rfl) ⟨hX0.grow hB, hY0.grow hB⟩ ?_
    simp only [Act.put, List.getElem_toArray, List.getElem_cons_zero, List.getElem_cons_succ, List.setIfInBounds_toArray, List.set_cons_zero, List.set_cons_succ]
    refine anyU_skip (i := 10) (by kernel_rfl) rfl (by rfl) ⟨hX0.grow hB, hY0.grow hB⟩ ?_
    simp only [Act.put, List.getElem_toArray, List.getElem_cons_zero, List.getElem_cons_succ, List.setIfInBounds_toArray, List.set_cons_zero, List.set_cons_succ]
    refine anyU_skip (i := 11) (by kernel_rfl) rfl (by rfl) ⟨hX0.grow hB, hY0.grow hB⟩ ?_
    simp only [Act.put, List.getElem_toArray, List.getElem_cons_zero, List.getElem_cons_succ, List.setIfInBounds_toArray, List.set_cons_zero, List.set_cons_succ]
    refine anyU_one (i := 12) (by kernel_rfl) rfl (fun K hK => ?_)
    go_simp
    refine hK.out _ _ ⟨hX0.grow hB, hY0.grow hB⟩ ?_
    clear hK
    refine anyU_last (by kernel_rfl) rfl (by kernel_rfl) (fun K hK => ?_)
    go_simp
    refine hK.out _ _ ?_
    clear hK
    go_wp2
    go_ret
    exact ⟨false, rfl, ⟨fun h => (by cases h), fun h => absurd h hn.out⟩, gca (gal (gal (gre _) _) _) hB⟩
  | true =>
    have hok1 : Hid _ := hok
    clear hok
    cases hok : okG g' with
    | false =>
      have hn : Hid (¬ AlikeP g g') := fun h => by rw [h.2.1] at hok; cases hok
      have hok2 : Hid _ := hok
      clear hok
      go_enter Try.func24, Try.ntmps24
      go_wp2
      have hB : Below ((w.alloc (.cells #[.int .i64 g.root.kind, .int .i64 g.root.num, .string g.root.text, .int .i64 g.root.node, .slice a g.nodes.length cap] 27)).alloc (.cells #[.int .i64 g'.root.kind, .int .i64 g'.root.num, .string g'.root.text, .int .i64 g'.root.node, .slice a' g'.nodes.length cap'] 27)).heap.size ((w.alloc (.cells #[.int .i64 g.root.kind, .int .i64 g.root.num, .string g.root.text, .int .i64 g.root.node, .slice a g.nodes.length cap] 27)).alloc (.cells #[.int .i64 g'.root.kind, .int .i64 g'.root.num, .string g'.root.text, .int .i64 g'.root.node, .slice a' g'.nodes.length cap'] 27)) ((w.alloc (.cells #[.int .i64 g.root.kind, .int .i64 g.root.num, .string g.root.text, .int .i64 g.root.node, .slice a g.nodes.length cap] 27)).alloc (.cells #[.int .i64 g'.root.kind, .int .i64 g'.root.num, .string g'.root.text, .int .i64 g'.root.node, .slice a' g'.nodes.length cap'] 27)).drew := gdr (gre _)
      obtain ⟨xz, x0, x1, x2, x3, x4⟩ := hX0.grow hB
      obtain ⟨yz, y0, y1, y2, y3, y4⟩ := hY0.grow hB
      refine wp_regionU (fun u => GBox u w.heap.size g a cap ∧ GBox u (w.heap.size + 1) g' a' cap') 13 (by kernel_rfl) ⟨hX0.grow hB, hY0.grow hB⟩ (fun _ => ?_)
      refine anyU_one (i := 0) (by kernel_rfl) rfl (fun K hK => ?_)
      go_simp
      refine hK.out _ _ ⟨hX0.grow hB, hY0.grow hB⟩ ?_
      clear hK
      refine anyU_one (i := 1) (by kernel_rfl) rfl (fun K hK => ?_)
      go_simp
      refine (specGraphOk_any a cap g _ hg (ha.grow (gca (gal (gal (gre _) _) _) hB))).mono ?_
      rintro e w1 ⟨rfl, hb1⟩
      have hB1 := gca hB hb1
      clear hB
      have hB := hB1
      clear hB1
      rw [hok1.out]
      obtain ⟨xz, x0, x1, x2, x3, x4⟩ := hX0.grow hB
      obtain ⟨yz, y0, y1, y2, y3, y4⟩ := hY0.grow hB
      refine hK.out _ _ ⟨hX0.grow hB, hY0.grow hB⟩ ?_
      clear hK
      refine anyU_one (i := 2) (by kernel_rfl) rfl (fun K hK => ?_)
      go_simp
      refine hK.out _ _ ⟨hX0.grow hB, hY0.grow hB⟩ ?_
      clear hK
      refine anyU_one (i := 3) (by kernel_rfl) rfl (fun K hK => ?_)
      go_simp
      refine hK.out _ _ ⟨hX0.grow hB, hY0.grow hB⟩ ?_
      clear hK
      refine anyU_one (i := 4) (by kernel_rfl) rfl (fun K hK => ?_)
      go_simp
      refine (specGraphOk_any a' cap' g' _ hg' (ha'.grow (gca (gal (gal (gre _) _) _) hB))).mono ?_
      rintro e w2 ⟨rfl, hb2⟩
      have hB2 := gca hB hb2
      clear hB
      have hB := hB2
      clear hB2
      rw [hok2.out]
      obtain ⟨xz, x0, x1, x2, x3, x4⟩ := hX0.grow hB
      obtain ⟨yz, y0, y1, y2, y3, y4⟩ := hY0.grow hB
      refine hK.out _ _ ⟨hX0.grow hB, hY0.grow hB⟩ ?_
      clear hK
      refine anyU_one (i := 5) (by kernel_rfl) rfl (fun K hK => ?_)
      go_simp
      refine hK.out _ _ ⟨hX0.grow hB, hY0.grow hB⟩ ?_
      clear hK
      refine anyU_one (i := 6) (by kernel_rfl) rfl (fun K hK => ?_)
      go_simp
      refine hK.out _ _ ⟨hX0.grow hB, hY0.grow hB⟩ ?_
      clear hK
      refine anyU_take (i := 7) (v := undef) rfl (by kernel_rfl) (by kernel_rfl) (by kernel_rfl) (by kernel_rfl) (fun _ _ _ h => h) (Or.inr ⟨by rfl, rfl⟩) ⟨hX0.grow hB, hY0.grow hB⟩ ?_
      simp only [Act.put, List.getElem_toArray, List.getElem_cons_zero, List.getElem_cons_succ, List.setIfInBounds_toArray, List.set_cons_zero, List.set_cons_succ]
      refine anyU_take (i := 9) (v := undef) rfl (by kernel_rfl) (by kernel_rfl) (by kernel_rfl) (by kernel_rfl) (fun _ _ _ h => h) (Or.inr ⟨by rfl, rfl⟩) ⟨hX0.grow hB, hY0.grow hB⟩ ?_
      simp only [Act.put, List.getElem_toArray, List.getElem_cons_zero, List.getElem_cons_succ, List.setIfInBounds_toArray, List.set_cons_zero, List.set_cons_succ]
      refine anyU_skip (i := 8) (by kernel_rfl) rfl (by rfl) ⟨hX0.grow hB, hY0.grow hB⟩ ?_
      simp only [Act.put, List.getElem_toArray, List.getElem_cons_zero, List.getElem_cons_succ, List.setIfInBounds_toArray, List.set_cons_zero, List.set_cons_succ]
      refine anyU_skip (i := 10) (by kernel_rfl) rfl (by rfl) ⟨hX0.grow hB, hY0.grow hB⟩ ?_
      simp only [Act.put, List.getElem_toArray, List.getElem_cons_zero, List.getElem_cons_succ, List.setIfInBounds_toArray, List.set_cons_zero, List.set_cons_succ]
      refine anyU_skip (i := 11) (by kernel_rfl) rfl (by rfl) ⟨hX0.grow hB, hY0.grow hB⟩ ?_
      simp only [Act.put, List.getElem_toArray, List.getElem_cons_zero, List.getElem_cons_succ, List.setIfInBounds_toArray, List.set_cons_zero, List.set_cons_succ]
      refine anyU_one (i := 12) (by kernel_rfl) rfl (fun K hK => ?_)
      go_simp
      refine hK.out _ _ ⟨hX0.grow hB, hY0.grow hB⟩ ?_
      clear hK
      refine anyU_last (by kernel_rfl) rfl (by kernel_rfl) (fun K hK => ?_)
      go_simp
      refine hK.out _ _ ?_
      clear hK
      go_wp2
      go_ret
      exact ⟨false, rfl, ⟨fun h => (by cases h), fun h => absurd h hn.out⟩, gca (gal (gal (gre _) _) _) hB⟩
    | true =>
      have hok2 : Hid _ := hok
      clear hok
      have hs1 := canon_small hok1.out
      have hs2 := canon_small hok2.out
      have hm1 : Hid ((canon g).nodes.length ≤ maxLen ∧ ∀ n, n ∈ (canon g).nodes → n.vals.length ≤ maxLen) := ⟨by unfold maxLen; omega, fun n hn => by have := hs1.2 n hn; unfold maxLen; omega⟩
      have hm2 : Hid ((canon g').nodes.length ≤ maxLen ∧ ∀ n, n ∈ (canon g').nodes → n.vals.length ≤ maxLen) := ⟨by unfold maxLen; omega, fun n hn => by have := hs2.2 n hn; unfold maxLen; omega⟩
      clear hs1 hs2
      go_enter Try.func24, Try.ntmps24
      go_wp2
      have hB : Below ((w.alloc (.cells #[.int .i64 g.root.kind, .int .i64 g.root.num, .string g.root.text, .int .i64 g.root.node, .slice a g.nodes.length cap] 27)).alloc (.cells #[.int .i64 g'.root.kind, .int .i64 g'.root.num, .string g'.root.text, .int .i64 g'.root.node, .slice a' g'.nodes.length cap'] 27)).heap.size ((w.alloc (.cells #[.int .i64 g.root.kind, .int .i64 g.root.num, .string g.root.text, .int .i64 g.root.node, .slice a g.nodes.length cap] 27)).alloc (.cells #[.int .i64 g'.root.kind, .int .i64 g'.root.num, .string g'.root.text, .int .i64 g'.root.node, .slice a' g'.nodes.length cap'] 27)) ((w.alloc (.cells #[.int .i64 g.root.kind, .int .i64 g.root.num, .string g.root.text, .int .i64 g.root.node, .slice a g.nodes.length cap] 27)).alloc (.cells #[.int .i64 g'.root.kind, .int .i64 g'.root.num, .string g'.root.text, .int .i64 g'.root.node, .slice a' g'.nodes.length cap'] 27)).drew := gdr (gre _)
      obtain ⟨xz, x0, x1, x2, x3, x4⟩ := hX0.grow hB
      obtain ⟨yz, y0, y1, y2, y3, y4⟩ := hY0.grow hB
      refine wp_regionU (fun u => GBox u w.heap.size g a cap ∧ GBox u (w.heap.size + 1) g' a' cap') 13 (by kernel_rfl) ⟨hX0.grow hB, hY0.grow hB⟩ (fun _ => ?_)
      refine anyU_one (i := 0) (by kernel_rfl) rfl (fun K hK => ?_)
      go_simp
      refine hK.out _ _ ⟨hX0.grow hB, hY0.grow hB⟩ ?_
      clear hK
      refine anyU_one (i := 1) (by kernel_rfl) rfl (fun K hK => ?_)
      go_simp
      refine (specGraphOk_any a cap g _ hg (ha.grow (gca (gal (gal (gre _) _) _) hB))).mono ?_
      rintro e w1 ⟨rfl, hb1⟩
      have hB1 := gca hB hb1
      clear hB
      have hB := hB1
      clear hB1
      rw [hok1.out]
      obtain ⟨xz, x0, x1, x2, x3, x4⟩ := hX0.grow hB
      obtain ⟨yz, y0, y1, y2, y3, y4⟩ := hY0.grow hB
      refine hK.out _ _ ⟨hX0.grow hB, hY0.grow hB⟩ ?_
      clear hK
      refine anyU_one (i := 2) (by kernel_rfl) rfl (fun K hK => ?_)
      go_simp
      refine hK.out _ _ ⟨hX0.grow hB, hY0.grow hB⟩ ?_
      clear hK
      refine anyU_one (i := 3) (by kernel_rfl) rfl (fun K hK => ?_)
      go_simp
      refine hK.out _ _ ⟨hX0.grow hB, hY0.grow hB⟩ ?_
      clear hK
      refine anyU_one (i := 4) (by kernel_rfl) rfl (fun K hK => ?_)
      go_simp
      refine (specGraphOk_any a' cap' g' _ hg' (ha'.grow (gca (gal (gal (gre _) _) _) hB))).mono ?_
      rintro e w2 ⟨rfl, hb2⟩
      have hB2 := gca hB hb2
      clear hB
      have hB := hB2
      clear hB2
      rw [hok2.out]
      obtain ⟨xz, x0, x1, x2, x3, x4⟩ := hX0.grow hB
      obtain ⟨yz, y0, y1, y2, y3, y4⟩ := hY0.grow hB
      refine hK.out _ _ ⟨hX0.grow hB, hY0.grow hB⟩ ?_
      clear hK
      refine anyU_one (i := 5) (by kernel_rfl) rfl (fun K hK => ?_)
      go_simp
      refine hK.out _ _ ⟨hX0.grow hB, hY0.grow hB⟩ ?_
      clear hK
      refine anyU_one (i := 6) (by kernel_rfl) rfl (fun K hK => ?_)
      go_simp
      refine hK.out _ _ ⟨hX0.grow hB, hY0.grow hB⟩ ?_
      clear hK
      refine anyU_take (i := 7) (v := ?_) rfl (by kernel_rfl) (by kernel_rfl) (by kernel_rfl) (by kernel_rfl) (fun _ _ _ h => h) (Or.inl ⟨by rfl, ?_⟩) ⟨hX0.grow hB, hY0.grow hB⟩ ?_
      rotate_left
      · intro u hSu; obtain ⟨⟨_, s0, s1, s2, s3, s4⟩, ⟨_, t0, t1, t2, t3, t4⟩⟩ := hSu; go_simp <;> with_reducible rfl
      simp only [Act.put, List.getElem_toArray, List.getElem_cons_zero, List.getElem_cons_succ, List.setIfInBounds_toArray, List.set_cons_zero, List.set_cons_succ]
      refine anyU_take (i := 9) (v := ?_) rfl (by kernel_rfl) (by kernel_rfl) (by kernel_rfl) (by kernel_rfl) (fun _ _ _ h => h) (Or.inl ⟨by rfl, ?_⟩) ⟨hX0.grow hB, hY0.grow hB⟩ ?_
      rotate_left
      · intro u hSu; obtain ⟨⟨_, s0, s1, s2, s3, s4⟩, ⟨_, t0, t1, t2, t3, t4⟩⟩ := hSu; go_simp <;> with_reducible rfl
      simp only [Act.put, List.getElem_toArray, List.getElem_cons_zero, List.getElem_cons_succ, List.setIfInBounds_toArray, List.set_cons_zero, List.set_cons_succ]
      refine anyU_one (i := 8) (by kernel_rfl) rfl (fun K hK => ?_)
      go_simp
      refine (specCanon_any a cap g _ hok1.out (ha.grow (gca (gal (gal (gre _) _) _) hB))).mono ?_
      rintro e w3 ⟨na, nc, rfl, hn3, hb3⟩
      have hB3 := gca hB hb3
      clear hB
      have hB := hB3
      clear hB3
      refine hK.out _ _ ⟨hX0.grow hB, hY0.grow hB⟩ ?_
      clear hK
      refine anyU_one (i := 10) (by kernel_rfl) rfl (fun K hK => ?_)
      go_simp
      refine (specCanon_any a' cap' g' _ hok2.out (ha'.grow (gca (gal (gal (gre _) _) _) hB))).mono ?_
      rintro e w4 ⟨na', nc', rfl, hn4, hb4⟩
      have hB4 := gca hB hb4
      clear hB
      have hB := hB4
      clear hB4
      refine hK.out _ _ ⟨hX0.grow hB, hY0.grow hB⟩ ?_
      clear hK
      refine anyU_one (i := 11) (by kernel_rfl) rfl (fun K hK => ?_)
      go_simp
      refine (l1same_any na na' nc nc' (canon g) (canon g') _ hm1.out.1 hm2.out.1 hm1.out.2 hm2.out.2 (hn3.grow hb4) hn4).mono ?_
      rintro e w5 ⟨bb, rfl, hbi0, hb5⟩
      have hB5 := gca hB hb5
      clear hB
      have hB := hB5
      clear hB5
      have hbi : Hid (bb = true ↔ canon g = canon g') := hbi0
      clear hbi0
      refine hK.out _ _ ⟨hX0.grow hB, hY0.grow hB⟩ ?_
      clear hK
      refine anyU_one (i := 12) (by kernel_rfl) rfl (fun K hK => ?_)
      go_simp
      refine hK.out _ _ ⟨hX0.grow hB, hY0.grow hB⟩ ?_
      clear hK
      refine anyU_last (by kernel_rfl) rfl (by kernel_rfl) (fun K hK => ?_)
      go_simp
      refine hK.out _ _ ?_
      clear hK
      go_wp2
      go_ret
      exact ⟨bb, rfl, hbi.out.trans ⟨fun h => ⟨hok1.out, hok2.out, h⟩, fun h => h.2.2⟩, gca (gal (gal (gre _) _) _) hB⟩

end Go.Proofs.Ythjddpkegooobaa
