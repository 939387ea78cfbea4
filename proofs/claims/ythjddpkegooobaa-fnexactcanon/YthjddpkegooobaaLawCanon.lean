/-
  LAW: FnExactCanon, walked. Own work.
-/
import Derived.Test.YthjddpkegooobaaTo
import Derived.Test.YthjddpkegooobaaLawGraphOk
import Derived.Test.YthjddpkegooobaaCanonS
import Derived.Test.YthjddpkegooobaaMarkNodes
import Derived.Test.YthjddpkegooobaaLater
import Derived.Test.YthjddpkegooobaaRegionV
namespace Go.Proofs.Ythjddpkegooobaa
open Go.RowKit

set_option maxHeartbeats 4000000 in
set_option maxRecDepth 100000 in
theorem lawCanon (a : Option Addr) (cap : Nat) (g : GG) (w : World) (hg : g.Ok) (ha : NodesAt w.heap.size w a g.nodes) :
    Calls Try.prog 8 #[g.val a cap] w fun e w' => e = .returned (.bool true) ∧ Below w.heap.size w w' := by
  have hX0 := GBox.new w g a cap 64
  by_cases hs1 : g.sz ≤ 1048576
  · obtain ⟨hl, hv⟩ := GG.small hs1
    have hle1 : Hid (leftBy 1048576 g.sz = 1048576 - g.sz) := leftBy_pos (by omega)
    have hd1 : ¬ (1048576 - g.sz < 0) := by omega
    obtain ⟨c, hc⟩ : ∃ c, Hid (c = canonZ g) := ⟨_, rfl⟩
    go_enter Try.func8, Try.ntmps8
    go_wp2_with (first
      | (go_at_call 41; refine (szGraph_any a cap g _ _ hg (by decide) (by decide) (ha.grow (gal (gre _) _))).mono ?_; rintro e w1 ⟨rfl, hb1⟩; rw [hle1.out]; obtain ⟨xz, x0, x1, x2, x3, x4⟩ := hX0.grow hb1)
      | (go_at_call 43; refine (toGraph_any a cap g _ hl hv (ha.grow (gca (gal (gre _) _) hb1))).mono ?_; rintro e w2 ⟨b2, bs2, rfl, hbb2, hown2, hb2⟩)
      | (go_at_call 14; refine (specCanonZ_any _ _ g _ hg hown2.at_).mono ?_; rintro e w3 ⟨pa, pc, rfl, hP3, hb3⟩; rw [← hc.out] at hP3 ⊢; obtain ⟨xz, x0, x1, x2, x3, x4⟩ := hX0.grow (gca (gca hb1 hb2) (gal hb3 (.cells #[.int .i64 c.root.kind, .int .i64 c.root.num, .string c.root.text, .int .i64 c.root.node, .slice pa c.nodes.length pc] 27)))))
    have hA : Below w.heap.size w (w3.alloc (.cells #[.int .i64 c.root.kind, .int .i64 c.root.num, .string c.root.text, .int .i64 c.root.node, .slice pa c.nodes.length pc] 27)) := gca (gca (gca (gal (gre _) _) hb1) hb2) (gal hb3 _)
    have hXA : GBox (w3.alloc (.cells #[.int .i64 c.root.kind, .int .i64 c.root.num, .string c.root.text, .int .i64 c.root.node, .slice pa c.nodes.length pc] 27)) w.heap.size g a cap := hX0.grow (gca (gca hb1 hb2) (gal hb3 _))
    have hWA := GBox.new w3 c pa pc 27
    have hPA := hP3.grow (gal (gre w3) (.cells #[.int .i64 c.root.kind, .int .i64 c.root.num, .string c.root.text, .int .i64 c.root.node, .slice pa c.nodes.length pc] 27))
    generalize w3.alloc (.cells #[.int .i64 c.root.kind, .int .i64 c.root.num, .string c.root.text, .int .i64 c.root.node, .slice pa c.nodes.length pc] 27) = wA at hA hXA hWA hPA x0 x1 x2 x3 x4 ⊢
    generalize w3.heap.size = pW at hWA ⊢
    clear hX0 hb1 hb2 hb3 hown2 hP3 xz x0 x1 x2 x3 x4
    refine (toGraph_any a cap g _ hl hv (ha.grow hA)).mono ?_
    rintro e w4 ⟨b4, bs4, rfl, hbb4, hown4, hb4⟩
    have hA2 : Below w.heap.size w (w4.alloc (.cells #[.int .i64 g.root.kind, .int .i64 g.root.num, .string g.root.text, .int .i64 g.root.node, .slice (some ⟨b4, 0, none⟩) g.nodes.length g.nodes.length] 27)) := gal (gca hA hb4) _
    have hXB := hXA.grow (gal hb4 (.cells #[.int .i64 g.root.kind, .int .i64 g.root.num, .string g.root.text, .int .i64 g.root.node, .slice (some ⟨b4, 0, none⟩) g.nodes.length g.nodes.length] 27))
    have hWB := hWA.grow (gal hb4 (.cells #[.int .i64 g.root.kind, .int .i64 g.root.num, .string g.root.text, .int .i64 g.root.node, .slice (some ⟨b4, 0, none⟩) g.nodes.length g.nodes.length] 27))
    have hPB := hPA.grow (gal hb4 (.cells #[.int .i64 g.root.kind, .int .i64 g.root.num, .string g.root.text, .int .i64 g.root.node, .slice (some ⟨b4, 0, none⟩) g.nodes.length g.nodes.length] 27))
    have hxB := GBox.new w4 g (some ⟨b4, 0, none⟩) g.nodes.length 27
    have hownB := hown4.below (gal (gre w4) (.cells #[.int .i64 g.root.kind, .int .i64 g.root.num, .string g.root.text, .int .i64 g.root.node, .slice (some ⟨b4, 0, none⟩) g.nodes.length g.nodes.length] 27))
    have hPlow := hPA.below (gal hb4 (.cells #[.int .i64 g.root.kind, .int .i64 g.root.num, .string g.root.text, .int .i64 g.root.node, .slice (some ⟨b4, 0, none⟩) g.nodes.length g.nodes.length] 27))
    obtain ⟨zz, z0, z1, z2, z3, z4⟩ := id hxB
    have hbx : ∀ b, Touch (some ⟨b4, 0, none⟩) g.nodes.length (fun i => some ⟨bs4 i, 0, none⟩) b → wA.heap.size ≤ b ∧ b < w4.heap.size := fun b hb => by have := hown4.touch hb; omega
    have hsA : wA.heap.size ≤ (w4.alloc (.cells #[.int .i64 g.root.kind, .int .i64 g.root.num, .string g.root.text, .int .i64 g.root.node, .slice (some ⟨b4, 0, none⟩) g.nodes.length g.nodes.length] 27)).heap.size := by have := hb4.size; simp; omega
    have hpW := hWA.lt
    have hpw := hXA.lt
    have hpX : wA.heap.size ≤ w4.heap.size := hb4.size
    clear hA hXA hWA hPA hb4 hown4
    go_wp2_with (go_at_call 12; refine (implCanon_any _ _ g _ hg hownB.at_).mono ?_; rintro e w5 ⟨na, nc, nl, rfl, hnl, hO5, hb5⟩; rw [← hc.out] at hnl ⊢; have hgc := GBox.new w5 c na nc 27; obtain ⟨gz, g0, g1, g2, g3, g4⟩ := id hgc; obtain ⟨vz, v0, v1, v2, v3, v4⟩ := hWB.grow (gal hb5 (.cells #[.int .i64 c.root.kind, .int .i64 c.root.num, .string c.root.text, .int .i64 c.root.node, .slice na c.nodes.length nc] 27)))
    have hcok : c.Ok := by rw [hc.out]; exact canonZ_ok hg
    have hBC := gal (gca hA2 hb5) (.cells #[.int .i64 c.root.kind, .int .i64 c.root.num, .string c.root.text, .int .i64 c.root.node, .slice na c.nodes.length nc] 27)
    have hXC := hXB.grow (gal hb5 (.cells #[.int .i64 c.root.kind, .int .i64 c.root.num, .string c.root.text, .int .i64 c.root.node, .slice na c.nodes.length nc] 27))
    have hWC := hWB.grow (gal hb5 (.cells #[.int .i64 c.root.kind, .int .i64 c.root.num, .string c.root.text, .int .i64 c.root.node, .slice na c.nodes.length nc] 27))
    have hxC := hxB.grow (gal hb5 (.cells #[.int .i64 c.root.kind, .int .i64 c.root.num, .string c.root.text, .int .i64 c.root.node, .slice na c.nodes.length nc] 27))
    have hownC := hownB.below (gal hb5 (.cells #[.int .i64 c.root.kind, .int .i64 c.root.num, .string c.root.text, .int .i64 c.root.node, .slice na c.nodes.length nc] 27))
    have hPC := hPlow.below ((gal hb5 (.cells #[.int .i64 c.root.kind, .int .i64 c.root.num, .string c.root.text, .int .i64 c.root.node, .slice na c.nodes.length nc] 27)).mono hsA)
    have hOC := hO5.later (gal (gre w5) (.cells #[.int .i64 c.root.kind, .int .i64 c.root.num, .string c.root.text, .int .i64 c.root.node, .slice na c.nodes.length nc] 27))
    have hbg : ∀ b, Touch na nl.length (fun i => nl[i]!.a) b → w4.heap.size + 1 ≤ b ∧ b < w5.heap.size := fun b hb => by have := hO5.touch hb; simpa using this
    have hpg : w4.heap.size < w5.heap.size := by have := hb5.size; simp at this; omega
    clear hA2 hb5 hXB hWB hxB hownB hPlow hO5 hPB zz z0 z1 z2 z3 z4 gz g0 g1 g2 g3 g4 vz v0 v1 v2 v3 v4
    generalize w5.alloc (.cells #[.int .i64 c.root.kind, .int .i64 c.root.num, .string c.root.text, .int .i64 c.root.node, .slice na c.nodes.length nc] 27) = wC at hBC hXC hWC hxC hownC hPC hOC hgc ⊢
    generalize w5.heap.size = pG at hgc hbg hpg ⊢
    generalize w4.heap.size = pX at hxC hbx hbg hpg hpX ⊢
    generalize wA.heap.size = sA at hPC hbx hsA hpW hpX hpw
    have hgN : NodesAt wC.heap.size wC na c.nodes := by rw [← hnl]; exact hOC.at_
    refine (eqGraph_same _ _ _ _ c _ hcok hgN (hPC.mono (by have := hgc.lt; omega))).mono ?_
    rintro e w6 ⟨rfl, hb6⟩
    have hx6 := hxC.grow hb6
    have hX6 := hXC.grow hb6
    have hW6 := hWC.grow hb6
    have hg6 := hgc.grow hb6
    have hown6 := hownC.below hb6
    have hP6 := hPC.below (hb6.mono (show sA ≤ wC.heap.size by have := hgc.lt; omega))
    have hO6 := hOC.later hb6
    have hB6 := gca hBC hb6
    clear hxC hXC hWC hgc hownC hPC hOC hgN hBC hb6 hsA
    go_wp2_with fail
    have hB : Below w6.heap.size w6 w6.drew := gdr (gre _)
    refine wp_regionU (fun u => GBox u pX g (some ⟨b4, 0, none⟩) g.nodes.length ∧ GBox u w.heap.size g a cap) 99 (by kernel_rfl) ⟨hx6.grow hB, hX6.grow hB⟩ (fun _ => ?_)
    refine anyU_take (i := 0) (v := ?_) rfl (by kernel_rfl) (by kernel_rfl) (by kernel_rfl) (by kernel_rfl) (fun _ _ _ h => h) (Or.inl ⟨by rfl, ?_⟩) ⟨hx6.grow hB, hX6.grow hB⟩ ?_
    rotate_left
    · intro u hSu; obtain ⟨⟨_, s0, s1, s2, s3, s4⟩, ⟨_, t0, t1, t2, t3, t4⟩⟩ := hSu; go_simp <;> with_reducible rfl
    simp only [Act.put, List.getElem_toArray, List.getElem_cons_zero, List.setIfInBounds_toArray, List.set_cons_zero, List.set_cons_succ]
    refine anyU_take (i := 1) (v := ?_) rfl (by kernel_rfl) (by kernel_rfl) (by kernel_rfl) (by kernel_rfl) (fun _ _ _ h => h) (Or.inl ⟨by rfl, ?_⟩) ⟨hx6.grow hB, hX6.grow hB⟩ ?_
    rotate_left
    · intro u hSu; obtain ⟨⟨_, s0, s1, s2, s3, s4⟩, ⟨_, t0, t1, t2, t3, t4⟩⟩ := hSu; go_simp <;> with_reducible rfl
    simp only [Act.put, List.getElem_toArray, List.getElem_cons_zero, List.getElem_cons_succ, List.setIfInBounds_toArray, List.set_cons_zero, List.set_cons_succ]
    refine anyU_one (i := 2) (by kernel_rfl) rfl (fun K hK => ?_)
    go_simp
    refine (toGraph_any a cap g _ hl hv (ha.grow (gca hB6 hB))).mono ?_
    rintro e w7 ⟨b7, bs7, rfl, hbb7, hown7, hb7⟩
    have hB := gca hB hb7
    refine hK.out _ _ ⟨hx6.grow hB, hX6.grow hB⟩ ?_
    clear hK
    refine anyU_one (i := 3) (by kernel_rfl) rfl (fun K hK => ?_)
    go_simp
    refine (eqGraph_same _ _ _ _ g _ hg (hown6.at_.grow hB) hown7.at_).mono ?_
    rintro e w8 ⟨rfl, hb8⟩
    have hB := gca hB hb8
    refine hK.out _ _ ⟨hx6.grow hB, hX6.grow hB⟩ ?_
    clear hK
    refine anyU_one (i := 4) (by kernel_rfl) rfl (fun K hK => ?_)
    go_simp
    refine hK.out _ _ ⟨hx6.grow hB, hX6.grow hB⟩ ?_
    clear hK
    refine anyU_done (by kernel_rfl) ?_
    have hx8 := hx6.grow hB
    have hX8 := hX6.grow hB
    have hW8 := hW6.grow hB
    have hg8 := hg6.grow hB
    have hown8 := hown6.below hB
    have hP8 := hP6.below (hB.mono (show sA ≤ w6.heap.size by have := hg6.lt; omega))
    have hO8 := hO6.later hB
    have hB8 := gca hB6 hB
    clear hx6 hX6 hW6 hg6 hown6 hP6 hO6 hB6 hB hown7 hb7 hb8
    obtain ⟨xz, x0, x1, x2, x3, x4⟩ := id hx8
    have hm1 : mEnd 1 g.nodes ≤ 1099511627776 := by have h9 := mEnd_sz g.nodes 1; have h8 := g.root.sz_nonneg; have h7 := hs1; unfold GG.sz at h7; omega
    have hd2 : ¬ (((mEnd 1 g.nodes : Nat) : Int) < 0) := by omega
    have hcs : c.nodes.length ≤ 300 ∧ mEnd 1 c.nodes ≤ 1099511627776 := by rw [hc.out]; exact canonZ_small g
    go_wp2_with (first
      | (go_at_call_of 46 (g.root.kind); rw [show (1 : Int) = ((1 : Nat) : Int) by rfl]; refine (markGraph_any g _ _ _ _ 1 _ (by omega) hm1 (by unfold maxLen; omega) hown8.mg).mono ?_; rintro e w9 ⟨rfl, hK9, hM9⟩; clear hM9; have hg9 := hg8.kept hK9 (fun hp => by have := hbx _ hp; omega); have hW9 := hW8.kept hK9 (fun hp => by have := hbx _ hp; omega); obtain ⟨gz, g0, g1, g2, g3, g4⟩ := id hg9; obtain ⟨vz, v0, v1, v2, v3, v4⟩ := id hW9; have hX9 := hX8.kept hK9 (fun hp => by have := hbx _ hp; omega); have hP9 := hP8.below (hK9.below (show sA ≤ w8.heap.size by have := hg8.lt; omega) (fun k hk hp => by have := hbx _ hp; omega)); have hO9 := hO8.kept hK9 (fun b hb hp => by have h1 := hbg b (Or.inl hb); have h2 := hbx b hp; omega) (fun x hx b hb hp => by obtain ⟨i, hi, e⟩ := List.getElem_of_mem hx; have h1 := hbg b (Or.inr ⟨i, hi, by simp only [getElem!_pos nl i hi, e]; exact hb⟩); have h2 := hbx b hp; omega); have hB9 := hB8.trans (hK9.below hB8.size (fun k hk hp => by have := hbx _ hp; omega)); have hgN : NodesAt w9.heap.size w9 na c.nodes := (by rw [← hnl]; exact hO9.at_))
      | (go_at_call 45; refine (eqGraph_same _ _ _ _ c _ hcok hgN (hP9.mono (by have := hg9.lt; omega))).mono ?_; rintro e w10 ⟨rfl, hb10⟩; have hg10 := hg9.grow hb10; obtain ⟨kz, k0, k1, k2, k3, k4⟩ := id hg10))
    have hX10 := hX9.grow hb10
    have hW10 := hW9.grow hb10
    have hP10 := hP9.below (hb10.mono (show sA ≤ w9.heap.size by have := hg9.lt; omega))
    have hO10 := hO9.later hb10
    have hB10 := gca hB9 hb10
    have hnlen : nl.length = c.nodes.length := by rw [← hnl]; simp
    rw [hnlen] at hbg
    have hmg : MG w10 na c.nodes (fun i => nl[i]!.a) (fun i => nl[i]!.cap) := by rw [← hnl]; exact hO10.mg
    clear hg8 hW8 hX8 hx8 hown8 hP8 hO8 hB8 hK9 hg9 hW9 hX9 hP9 hO9 hB9 hgN hO10 gz g0 g1 g2 g3 g4 vz v0 v1 v2 v3 v4 xz x0 x1 x2 x3 x4 hb10
    refine (markGraph_any c na nc _ _ 1 _ (by omega) hcs.2 (by unfold maxLen; omega) hmg).mono ?_
    rintro e w11 ⟨rfl, hK11, hM11⟩
    have hg11 := hg10.kept hK11 (fun hp => by have := hbg _ hp; omega)
    have hW11 := hW10.kept hK11 (fun hp => by have := hbg _ hp; omega)
    have hX11 := hX10.kept hK11 (fun hp => by have := hbg _ hp; omega)
    have hP11 := hP10.below (hK11.below (show sA ≤ w10.heap.size by have := hg10.lt; omega) (fun k hk hp => by have := hbg _ hp; omega))
    have hB11 := hB10.trans (hK11.below hB10.size (fun k hk hp => by have := hbg _ hp; omega))
    obtain ⟨gz, g0, g1, g2, g3, g4⟩ := id hg11
    clear hX10 hW10 hP10 hB10 hg10 hK11 hmg kz k0 k1 k2 k3 k4
    have hd3 : ¬ (((mEnd 1 c.nodes : Nat) : Int) < 0) := by omega
    go_wp2_with (go_at_call 47; rw [show (1 : Int) = ((1 : Nat) : Int) by rfl]; refine (heldGraph_any c na nc 1 _ (by omega) hcs.2 (by unfold maxLen; omega) hM11).mono ?_; rintro e w12 ⟨rfl, hb12⟩; obtain ⟨yz, y0, y1, y2, y3, y4⟩ := hX11.grow hb12)
    have hX12 := hX11.grow hb12
    have hW12 := hW11.grow hb12
    have hg12 := hg11.grow hb12
    have hP12 := hP11.below (hb12.mono (show sA ≤ w11.heap.size by have := hg11.lt; omega))
    have hB12 := gca hB11 hb12
    have hM12 := hM11.grow hb12
    clear hX11 hW11 hg11 hP11 hB11 hM11 hb12 gz g0 g1 g2 g3 g4 yz y0 y1 y2 y3 y4
    refine (toGraph_any a cap g _ hl hv (ha.grow hB12)).mono ?_
    rintro e w13 ⟨b13, bs13, rfl, hbb13, hown13, hb13⟩
    go_wp2_with (first
      | (go_at_call 12; refine (implCanon_any _ _ g _ hg hown13.at_).mono ?_; rintro e w14 ⟨ra, rc, rl, rfl, hrl, hO14, hb14⟩; rw [← hc.out] at hrl ⊢; have hbz := gal (gca hb13 hb14) (.cells #[.int .i64 c.root.kind, .int .i64 c.root.num, .string c.root.text, .int .i64 c.root.node, .slice ra c.nodes.length rc] 27); have hh := GBox.new w14 c ra rc 27; obtain ⟨gz, g0, g1, g2, g3, g4⟩ := id hh; obtain ⟨vz, v0, v1, v2, v3, v4⟩ := hW12.grow hbz; have hgN : NodesAt (w14.alloc (.cells #[.int .i64 c.root.kind, .int .i64 c.root.num, .string c.root.text, .int .i64 c.root.node, .slice ra c.nodes.length rc] 27)).heap.size (w14.alloc (.cells #[.int .i64 c.root.kind, .int .i64 c.root.num, .string c.root.text, .int .i64 c.root.node, .slice ra c.nodes.length rc] 27)) ra c.nodes := (by have h1 := hO14.at_; rw [hrl] at h1; exact h1.grow (gal (gre _) _)); have hP14 := hP12.below (hbz.mono (show sA ≤ w12.heap.size by have := hg12.lt; omega)))
      | (go_at_call 45; refine (eqGraph_same _ _ _ _ c _ hcok hgN (hP14.mono (by have h1 := hg12.lt; have h2 := hbz.size; omega))).mono ?_; rintro e w15 ⟨rfl, hb15⟩; have hbq := gca hbz hb15; obtain ⟨kz, k0, k1, k2, k3, k4⟩ := hg12.grow hbq)
      | (go_at_call 47; rw [show (1 : Int) = ((1 : Nat) : Int) by rfl]; refine (heldGraph_any c na nc 1 _ (by omega) hcs.2 (by unfold maxLen; omega) (hM12.grow hbq)).mono ?_; rintro e w16 ⟨rfl, hb16⟩))
    go_ret
    exact ⟨rfl, gca (gca hB12 hbq) hb16⟩
  · have hle1 : Hid (leftBy 1048576 g.sz = -1) := leftBy_neg (by omega)
    go_enter Try.func8, Try.ntmps8
    go_wp2_with (go_at_call 41; refine (szGraph_any a cap g _ _ hg (by decide) (by decide) (ha.grow (gal (gre _) _))).mono ?_; rintro e w1 ⟨rfl, hb1⟩; rw [hle1.out])
    go_ret
    exact ⟨rfl, gca (gal (gre _) _) hb1⟩

end Go.Proofs.Ythjddpkegooobaa
