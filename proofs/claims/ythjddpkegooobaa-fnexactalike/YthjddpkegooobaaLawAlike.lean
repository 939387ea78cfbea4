/-
  LAW: FnExactAlike, walked. Own work.
-/
import Derived.Test.YthjddpkegooobaaTo
import Derived.Test.YthjddpkegooobaaLawGraphOk
import Derived.Test.YthjddpkegooobaaAlikeI
import Derived.Test.YthjddpkegooobaaRegionV
namespace Go.Proofs.Ythjddpkegooobaa
open Go.RowKit

set_option maxRecDepth 100000 in
theorem GG.sz_nonneg (g : GG) : 0 ≤ g.sz := by have h1 := g.root.sz_nonneg; have h2 := szNodes_nonneg g.nodes; unfold GG.sz; omega

set_option maxHeartbeats 4000000 in
set_option maxRecDepth 100000 in
theorem lawAlike (a a' : Option Addr) (cap cap' : Nat) (g g' : GG) (w : World) (hg : g.Ok) (hg' : g'.Ok) (ha : NodesAt w.heap.size w a g.nodes) (ha' : NodesAt w.heap.size w a' g'.nodes) :
    Calls Try.prog 9 #[g.val a cap, g'.val a' cap'] w fun e w' => e = .returned (.bool true) ∧ Below w.heap.size w w' := by
  have hX0 := (GBox.new w g a cap 64).grow (gal (gre _) (.cells #[.int .i64 g'.root.kind, .int .i64 g'.root.num, .string g'.root.text, .int .i64 g'.root.node, .slice a' g'.nodes.length cap'] 64))
  have hY0 := GBox.new (w.alloc (.cells #[.int .i64 g.root.kind, .int .i64 g.root.num, .string g.root.text, .int .i64 g.root.node, .slice a g.nodes.length cap] 64)) g' a' cap' 64
  rw [show (w.alloc (.cells #[.int .i64 g.root.kind, .int .i64 g.root.num, .string g.root.text, .int .i64 g.root.node, .slice a g.nodes.length cap] 64)).heap.size = w.heap.size + 1 by simp] at hY0
  by_cases hs1 : g.sz ≤ 1048576
  · by_cases hs2 : g'.sz ≤ 1048576 - g.sz
    · obtain ⟨hl, hv⟩ := GG.small hs1
      have hs3 : g'.sz ≤ 1048576 := by have := g.sz_nonneg; omega
      obtain ⟨hl', hv'⟩ := GG.small hs3
      have hle1 : Hid (leftBy 1048576 g.sz = 1048576 - g.sz) := leftBy_pos (by omega)
      have hle2 : Hid (leftBy (1048576 - g.sz) g'.sz = 1048576 - g.sz - g'.sz) := leftBy_pos (by omega)
      have hnn := g.sz_nonneg
      have hd1 : ¬ (1048576 - g.sz < 0) := by omega
      have hd2 : ¬ (1048576 - g.sz - g'.sz < 0) := by omega
      go_enter Try.func9, Try.ntmps9
      go_wp2_with (first
        | (go_at_call_of 41 (g.root.kind); refine (szGraph_any a cap g _ _ hg (by decide) (by decide) (ha.grow (gal (gal (gre _) _) _))).mono ?_; rintro e w1 ⟨rfl, hb1⟩; rw [hle1.out]; obtain ⟨yz, y0, y1, y2, y3, y4⟩ := hY0.grow hb1)
        | (go_at_call_of 41 (g'.root.kind); refine (szGraph_any a' cap' g' _ _ hg' (by omega) (by omega) (ha'.grow (gca (gal (gal (gre _) _) _) hb1))).mono ?_; rintro e w2 ⟨rfl, hb2⟩; rw [hle2.out]))
      have hX := hX0.grow (gca hb1 hb2)
      have hY := hY0.grow (gca hb1 hb2)
      have hB0 : Below w.heap.size w w2 := gca (gca (gal (gal (gre _) _) _) hb1) hb2
      have ha2 := ha.grow hB0
      have ha2' := ha'.grow hB0
      clear hX0 hY0 hb1 hb2 yz y0 y1 y2 y3 y4
      have hB : Below w2.heap.size w2 w2.drew := gdr (gre _)
      refine wp_regionU (fun u => GBox u w.heap.size g a cap ∧ GBox u (w.heap.size + 1) g' a' cap') 5 (by kernel_rfl) ⟨hX.grow hB, hY.grow hB⟩ (fun _ => ?_)
      refine anyU_take (i := 0) (v := ?_) rfl (by kernel_rfl) (by kernel_rfl) (by kernel_rfl) (by kernel_rfl) (fun _ _ _ h => h) (Or.inl ⟨by rfl, ?_⟩) ⟨hX.grow hB, hY.grow hB⟩ ?_
      rotate_left
      · intro u hSu; obtain ⟨⟨_, s0, s1, s2, s3, s4⟩, ⟨_, t0, t1, t2, t3, t4⟩⟩ := hSu; go_simp <;> with_reducible rfl
      simp only [Act.put, List.getElem_toArray, List.getElem_cons_zero, List.setIfInBounds_toArray, List.set_cons_zero, List.set_cons_succ]
      refine anyU_take (i := 2) (v := ?_) rfl (by kernel_rfl) (by kernel_rfl) (by kernel_rfl) (by kernel_rfl) (fun _ _ _ h => h) (Or.inl ⟨by rfl, ?_⟩) ⟨hX.grow hB, hY.grow hB⟩ ?_
      rotate_left
      · intro u hSu; obtain ⟨⟨_, s0, s1, s2, s3, s4⟩, ⟨_, t0, t1, t2, t3, t4⟩⟩ := hSu; go_simp <;> with_reducible rfl
      simp only [Act.put, List.getElem_toArray, List.getElem_cons_zero, List.getElem_cons_succ, List.setIfInBounds_toArray, List.set_cons_zero, List.set_cons_succ]
      refine anyU_one (i := 1) (by kernel_rfl) rfl (fun K hK => ?_)
      go_simp
      refine (toGraph_any a cap g _ hl hv (ha2.grow hB)).mono ?_
      rintro e w3 ⟨b3, bs3, rfl, hbb3, hown3, hb3⟩
      have hB := gca hB hb3
      refine hK.out _ _ ⟨hX.grow hB, hY.grow hB⟩ ?_
      clear hK
      refine anyU_one (i := 3) (by kernel_rfl) rfl (fun K hK => ?_)
      go_simp
      refine (toGraph_any a' cap' g' _ hl' hv' (ha2'.grow hB)).mono ?_
      rintro e w4 ⟨b4, bs4, rfl, hbb4, hown4, hb4⟩
      have hB := gca hB hb4
      refine hK.out _ _ ⟨hX.grow hB, hY.grow hB⟩ ?_
      clear hK
      refine anyU_one (i := 4) (by kernel_rfl) rfl (fun K hK => ?_)
      go_simp
      refine (specAlike_any _ _ _ _ g g' _ hg hg' (hown3.at_.grow hb4) hown4.at_).mono ?_
      rintro e w5 ⟨bb, rfl, hbi0, hb5⟩
      have hbi : Hid (bb = true ↔ AlikeP g g') := hbi0
      clear hbi0
      have hB := gca hB hb5
      refine hK.out _ _ ⟨hX.grow hB, hY.grow hB⟩ ?_
      clear hK
      refine anyU_last (by kernel_rfl) rfl (by kernel_rfl) (fun K hK => ?_)
      go_simp
      refine hK.out _ _ ?_
      clear hK
      obtain ⟨xz, x0, x1, x2, x3, x4⟩ := hX.grow hB
      obtain ⟨yz, y0, y1, y2, y3, y4⟩ := hY.grow hB
      clear hown3 hown4 hb3 hb4 hb5
      have ha5 := ha2.grow hB
      have ha5' := ha2'.grow hB
      have hX5 := hX.grow hB
      have hY5 := hY.grow hB
      have hB5 : Below w.heap.size w w5 := gca hB0 hB
      clear hX hY ha2 ha2' hB hB0
      go_wp2_with fail
      refine (toGraph_any a cap g _ hl hv ha5).mono ?_
      rintro e w6 ⟨b6, bs6, rfl, hbb6, hown6, hb6⟩
      have hN6 := hown6.at_.grow (gal (gre w6) (.cells #[.int .i64 g.root.kind, .int .i64 g.root.num, .string g.root.text, .int .i64 g.root.node, .slice (some ⟨b6, 0, none⟩) g.nodes.length g.nodes.length] 27))
      have hx6 := GBox.new w6 g (some ⟨b6, 0, none⟩) g.nodes.length 27
      obtain ⟨yz, y0, y1, y2, y3, y4⟩ := hY5.grow (gal hb6 (.cells #[.int .i64 g.root.kind, .int .i64 g.root.num, .string g.root.text, .int .i64 g.root.node, .slice (some ⟨b6, 0, none⟩) g.nodes.length g.nodes.length] 27))
      clear xz x0 x1 x2 x3 x4
      go_wp2_with (go_at_call_of 43 (g'.root.kind); refine (toGraph_any a' cap' g' _ hl' hv' (ha5'.grow (gal hb6 _))).mono ?_; rintro e w7 ⟨b7, bs7, rfl, hbb7, hown7, hb7⟩; obtain ⟨xz, x0, x1, x2, x3, x4⟩ := hx6.grow (gal hb7 (.cells #[.int .i64 g'.root.kind, .int .i64 g'.root.num, .string g'.root.text, .int .i64 g'.root.node, .slice (some ⟨b7, 0, none⟩) g'.nodes.length g'.nodes.length] 27)))
      have hN7 := hown7.at_.grow (gal (gre w7) (.cells #[.int .i64 g'.root.kind, .int .i64 g'.root.num, .string g'.root.text, .int .i64 g'.root.node, .slice (some ⟨b7, 0, none⟩) g'.nodes.length g'.nodes.length] 27))
      have hN67 := hN6.grow (gal hb7 (.cells #[.int .i64 g'.root.kind, .int .i64 g'.root.num, .string g'.root.text, .int .i64 g'.root.node, .slice (some ⟨b7, 0, none⟩) g'.nodes.length g'.nodes.length] 27))
      have hy7 := GBox.new w7 g' (some ⟨b7, 0, none⟩) g'.nodes.length 27
      have hx7 := hx6.grow (gal hb7 (.cells #[.int .i64 g'.root.kind, .int .i64 g'.root.num, .string g'.root.text, .int .i64 g'.root.node, .slice (some ⟨b7, 0, none⟩) g'.nodes.length g'.nodes.length] 27))
      have hb57 := gal (gca (gal hb6 (.cells #[.int .i64 g.root.kind, .int .i64 g.root.num, .string g.root.text, .int .i64 g.root.node, .slice (some ⟨b6, 0, none⟩) g.nodes.length g.nodes.length] 27)) hb7) (.cells #[.int .i64 g'.root.kind, .int .i64 g'.root.num, .string g'.root.text, .int .i64 g'.root.node, .slice (some ⟨b7, 0, none⟩) g'.nodes.length g'.nodes.length] 27)
      have hX7 := hX5.grow hb57
      have hY7 := hY5.grow hb57
      have hB7 := gca hB5 hb57
      clear hX5 hY5 ha5 ha5' hB5 hb57 hb7 hb6 hx6 hN6 hown6 hown7 xz x0 x1 x2 x3 x4 yz y0 y1 y2 y3 y4
      refine (implAlike_any _ _ _ _ g g' _ hg hg' hN67 hN7).mono ?_
      rintro e w8 ⟨b2, rfl, hbi2, hb8⟩
      obtain rfl : b2 = bb := Bool.eq_iff_iff.2 (hbi2.trans hbi.out.symm)
      have hx8 := hx7.grow hb8
      have hy8 := hy7.grow hb8
      have hX8 := hX7.grow hb8
      have hY8 := hY7.grow hb8
      have hN8 := hN67.grow hb8
      have hN8' := hN7.grow hb8
      have hB8 := gca hB7 hb8
      clear hx7 hy7 hX7 hY7 hN67 hN7 hb8 hB7 hbi2 hbi
      go_wp2_with fail
      have hB : Below w8.heap.size w8 w8.drew := gdr (gre _)
      refine wp_regionU (fun u => GBox u w6.heap.size g (some ⟨b6, 0, none⟩) g.nodes.length ∧ GBox u w.heap.size g a cap) 99 (by kernel_rfl) ⟨hx8.grow hB, hX8.grow hB⟩ (fun _ => ?_)
      refine anyU_take (i := 0) (v := ?_) rfl (by kernel_rfl) (by kernel_rfl) (by kernel_rfl) (by kernel_rfl) (fun _ _ _ h => h) (Or.inl ⟨by rfl, ?_⟩) ⟨hx8.grow hB, hX8.grow hB⟩ ?_
      rotate_left
      · intro u hSu; obtain ⟨⟨_, s0, s1, s2, s3, s4⟩, ⟨_, t0, t1, t2, t3, t4⟩⟩ := hSu; go_simp <;> with_reducible rfl
      simp only [Act.put, List.getElem_toArray, List.getElem_cons_zero, List.setIfInBounds_toArray, List.set_cons_zero, List.set_cons_succ]
      refine anyU_take (i := 1) (v := ?_) rfl (by kernel_rfl) (by kernel_rfl) (by kernel_rfl) (by kernel_rfl) (fun _ _ _ h => h) (Or.inl ⟨by rfl, ?_⟩) ⟨hx8.grow hB, hX8.grow hB⟩ ?_
      rotate_left
      · intro u hSu; obtain ⟨⟨_, s0, s1, s2, s3, s4⟩, ⟨_, t0, t1, t2, t3, t4⟩⟩ := hSu; go_simp <;> with_reducible rfl
      simp only [Act.put, List.getElem_toArray, List.getElem_cons_zero, List.getElem_cons_succ, List.setIfInBounds_toArray, List.set_cons_zero, List.set_cons_succ]
      refine anyU_one (i := 2) (by kernel_rfl) rfl (fun K hK => ?_)
      go_simp
      refine (toGraph_any a cap g _ hl hv (ha.grow (gca hB8 hB))).mono ?_
      rintro e w9 ⟨b9, bs9, rfl, hbb9, hown9, hb9⟩
      have hB := gca hB hb9
      refine hK.out _ _ ⟨hx8.grow hB, hX8.grow hB⟩ ?_
      clear hK
      refine anyU_one (i := 3) (by kernel_rfl) rfl (fun K hK => ?_)
      go_simp
      refine (eqGraph_same _ _ _ _ g _ hg (hN8.grow hB) hown9.at_).mono ?_
      rintro e w10 ⟨rfl, hb10⟩
      have hB := gca hB hb10
      refine hK.out _ _ ⟨hx8.grow hB, hX8.grow hB⟩ ?_
      clear hK
      refine anyU_one (i := 4) (by kernel_rfl) rfl (fun K hK => ?_)
      go_simp
      refine hK.out _ _ ⟨hx8.grow hB, hX8.grow hB⟩ ?_
      clear hK
      refine anyU_done (by kernel_rfl) ?_
      have hx10 := hy8.grow hB
      have hX10 := hY8.grow hB
      have hB10 := gca hB8 hB
      have hN10 := hN8'.grow hB
      clear hx8 hy8 hX8 hY8 hB hB8 hN8 hN8' hown9 hb9 hb10
      go_wp2_with fail
      have hB : Below w10.heap.size w10 w10.drew := gdr (gre _)
      refine wp_regionU (fun u => GBox u w7.heap.size g' (some ⟨b7, 0, none⟩) g'.nodes.length ∧ GBox u (w.heap.size + 1) g' a' cap') 99 (by kernel_rfl) ⟨hx10.grow hB, hX10.grow hB⟩ (fun _ => ?_)
      refine anyU_take (i := 0) (v := ?_) rfl (by kernel_rfl) (by kernel_rfl) (by kernel_rfl) (by kernel_rfl) (fun _ _ _ h => h) (Or.inl ⟨by rfl, ?_⟩) ⟨hx10.grow hB, hX10.grow hB⟩ ?_
      rotate_left
      · intro u hSu; obtain ⟨⟨_, s0, s1, s2, s3, s4⟩, ⟨_, t0, t1, t2, t3, t4⟩⟩ := hSu; go_simp <;> with_reducible rfl
      simp only [Act.put, List.getElem_toArray, List.getElem_cons_zero, List.setIfInBounds_toArray, List.set_cons_zero, List.set_cons_succ]
      refine anyU_take (i := 1) (v := ?_) rfl (by kernel_rfl) (by kernel_rfl) (by kernel_rfl) (by kernel_rfl) (fun _ _ _ h => h) (Or.inl ⟨by rfl, ?_⟩) ⟨hx10.grow hB, hX10.grow hB⟩ ?_
      rotate_left
      · intro u hSu; obtain ⟨⟨_, s0, s1, s2, s3, s4⟩, ⟨_, t0, t1, t2, t3, t4⟩⟩ := hSu; go_simp <;> with_reducible rfl
      simp only [Act.put, List.getElem_toArray, List.getElem_cons_zero, List.getElem_cons_succ, List.setIfInBounds_toArray, List.set_cons_zero, List.set_cons_succ]
      refine anyU_one (i := 2) (by kernel_rfl) rfl (fun K hK => ?_)
      go_simp
      refine (toGraph_any a' cap' g' _ hl' hv' (ha'.grow (gca hB10 hB))).mono ?_
      rintro e w11 ⟨b11, bs11, rfl, hbb11, hown11, hb11⟩
      have hB := gca hB hb11
      refine hK.out _ _ ⟨hx10.grow hB, hX10.grow hB⟩ ?_
      clear hK
      refine anyU_one (i := 3) (by kernel_rfl) rfl (fun K hK => ?_)
      go_simp
      refine (eqGraph_same _ _ _ _ g' _ hg' (hN10.grow hB) hown11.at_).mono ?_
      rintro e w12 ⟨rfl, hb12⟩
      have hB := gca hB hb12
      refine hK.out _ _ ⟨hx10.grow hB, hX10.grow hB⟩ ?_
      clear hK
      refine anyU_one (i := 4) (by kernel_rfl) rfl (fun K hK => ?_)
      go_simp
      refine hK.out _ _ ⟨hx10.grow hB, hX10.grow hB⟩ ?_
      clear hK
      refine anyU_done (by kernel_rfl) ?_
      go_wp2_with fail
      go_ret
      exact ⟨rfl, gca hB10 hB⟩
    · have hle1 : Hid (leftBy 1048576 g.sz = 1048576 - g.sz) := leftBy_pos (by omega)
      have hle2 : Hid (leftBy (1048576 - g.sz) g'.sz = -1) := leftBy_neg (by omega)
      have hnn := g.sz_nonneg
      have hd1 : ¬ (1048576 - g.sz < 0) := by omega
      go_enter Try.func9, Try.ntmps9
      go_wp2_with (first
        | (go_at_call_of 41 (g.root.kind); refine (szGraph_any a cap g _ _ hg (by decide) (by decide) (ha.grow (gal (gal (gre _) _) _))).mono ?_; rintro e w1 ⟨rfl, hb1⟩; rw [hle1.out]; obtain ⟨yz, y0, y1, y2, y3, y4⟩ := hY0.grow hb1)
        | (go_at_call_of 41 (g'.root.kind); refine (szGraph_any a' cap' g' _ _ hg' (by omega) (by omega) (ha'.grow (gca (gal (gal (gre _) _) _) hb1))).mono ?_; rintro e w2 ⟨rfl, hb2⟩; rw [hle2.out]))
      go_ret
      exact ⟨rfl, gca (gca (gal (gal (gre _) _) _) hb1) hb2⟩
  · have hle1 : Hid (leftBy 1048576 g.sz = -1) := leftBy_neg (by omega)
    go_enter Try.func9, Try.ntmps9
    go_wp2_with (go_at_call_of 41 (g.root.kind); refine (szGraph_any a cap g _ _ hg (by decide) (by decide) (ha.grow (gal (gal (gre _) _) _))).mono ?_; rintro e w1 ⟨rfl, hb1⟩; rw [hle1.out])
    go_ret
    exact ⟨rfl, gca (gal (gal (gre _) _) _) hb1⟩

end Go.Proofs.Ythjddpkegooobaa
