/-
  LAW: FnExactSync, walked. Own work.
-/
import Derived.Test.YthjddpkegooobabTameB
import Derived.Test.YthjddpkegooobabISync
import Derived.Test.YthjddpkegooobabLawBlank
namespace Go.Proofs.Ythjddpkegooobab
open Go.RowKit

set_option maxHeartbeats 4000000 in
set_option maxRecDepth 100000 in
theorem lawSync (d : DD) (l : DL) (w : World) (hd : d.Ok) (ha : DAt w l d) :
    Calls Try.prog 8 #[d.val l] w fun e w' => e = .returned (.bool true) ∧ Below w.heap.size w w' := by
  have hX0 := DBox.new w d l 57
  have hA0 := gal (gre w) (.cells #[.slice l.ba d.blocks.length l.bc, .slice l.wa d.waiting.length l.wc] 57)
  by_cases hs1 : d.sz ≤ 1048576
  · have hs := DD.small hs1
    have hm1 := DD.small_mend hs1
    have hle1 : Hid (leftBy 1048576 d.sz = 1048576 - d.sz) := leftBy_pos (by omega)
    have hd1 : ¬ (1048576 - d.sz < 0) := by omega
    obtain ⟨c, hc⟩ := hid_ex (d.settle keepAll)
    have hct : c.Tame := by rw [hc.out]; exact settle_tame hd _
    have hmc := hct.mend
    obtain ⟨mx, hmx⟩ := hid_ex (d.mend 1)
    have hmxn : ¬ ((mx : Int) < 0) := by omega
    obtain ⟨m, hme⟩ := hid_ex (c.mend 1)
    have hmn : ¬ ((m : Int) < 0) := by omega
    have hmm : ((m : Int) != (m : Int)) = false := by simp
    clear hs1
    go_enter Try.func8, Try.ntmps8
    go_upto_region 6 with (first
      | (go_at_call 35; refine (szDisk_any d l _ _ hd (by decide) (by decide) (ha.grow hA0)).mono ?_; rintro e w1 ⟨rfl, hb1⟩; rw [hle1.out]; obtain ⟨_, x0, x1⟩ := hX0.grow hb1)
      | (go_at_call 37; refine (toDisk_any d l _ hs (ha.grow (gca hA0 hb1))).mono ?_; rintro e w2 ⟨l2, bs2, xs2, rfl, hown2, hb2⟩)
      | (go_at_call 41; refine (specSync_any d l2 _ hd hown2.at_).mono ?_; rw [← hc.out]; rintro e w3 h3; obtain ⟨l0, rfl, hat0, hb3⟩ := h3.at_))
    have hA := gal (gca (gca (gca hA0 hb1) hb2) hb3) (.cells #[.slice l0.ba c.blocks.length l0.bc, .slice l0.wa c.waiting.length l0.wc] 50)
    have hXA := hX0.grow (gal (gca (gca hb1 hb2) hb3) (.cells #[.slice l0.ba c.blocks.length l0.bc, .slice l0.wa c.waiting.length l0.wc] 50))
    have hWA := DBox.new w3 c l0 50
    have hat := hat0.grow (gal (gre w3) (.cells #[.slice l0.ba c.blocks.length l0.bc, .slice l0.wa c.waiting.length l0.wc] 50))
    generalize w3.alloc (.cells #[.slice l0.ba c.blocks.length l0.bc, .slice l0.wa c.waiting.length l0.wc] 50) = wA at hA hXA hWA hat ⊢
    generalize w3.heap.size = P0 at hWA ⊢
    obtain ⟨PA, hPA⟩ := hid_ex w.heap.size
    rw [← hPA.out] at hXA ⊢
    clear x0 x1 hb1 hb2 hb3 hown2 hat0 hX0 hA0
    obtain ⟨_, x0, x1⟩ := id hXA
    go_upto_region 7 with (go_at_call 37; refine (toDisk_any d l _ hs (ha.grow hA)).mono ?_; rintro e w4 ⟨l4, bs4, xs4, rfl, hown4, hb4⟩)
    have hxB := DBox.new w4 d l4 50
    have hbB := gal hb4 (.cells #[.slice l4.ba d.blocks.length l4.bc, .slice l4.wa d.waiting.length l4.wc] 50)
    have hmx0 := hown4.md.grow (gal (gre w4) (.cells #[.slice l4.ba d.blocks.length l4.bc, .slice l4.wa d.waiting.length l4.wc] 50))
    have hs4 : (w4.alloc (.cells #[.slice l4.ba d.blocks.length l4.bc, .slice l4.wa d.waiting.length l4.wc] 50)).heap.size = w4.heap.size + 1 := by simp
    have hs4A := hb4.size
    generalize w4.alloc (.cells #[.slice l4.ba d.blocks.length l4.bc, .slice l4.wa d.waiting.length l4.wc] 50) = wB at hxB hbB hmx0 hs4 ⊢
    generalize w4.heap.size = PX at hxB hmx0 hs4 hs4A ⊢
    have hPAl := hXA.lt
    have hP0l := hWA.lt
    have hXB := hXA.grow hbB
    have hWB := hWA.grow hbB
    generalize hsAe : wA.heap.size = sA at hmx0 hbB hs4A hPAl hP0l
    clear x0 x1 hb4 hown4 hXA hWA
    obtain ⟨_, x0, x1⟩ := id hxB
    go_upto_region 8 with (go_at_call 42; refine (implSync_any d l4 _ hd hmx0.at_).mono ?_; rw [← hc.out]; rintro e w5 ⟨lg, fa, ga, fc, gc, rfl, hmd0, hb5⟩)
    have hGC := DBox.new w5 c lg 50
    have hbC := gal hb5 (.cells #[.slice lg.ba c.blocks.length lg.bc, .slice lg.wa c.waiting.length lg.wc] 50)
    have hmdC := hmd0.grow (gal (gre w5) (.cells #[.slice lg.ba c.blocks.length lg.bc, .slice lg.wa c.waiting.length lg.wc] 50))
    have hs5 : (w5.alloc (.cells #[.slice lg.ba c.blocks.length lg.bc, .slice lg.wa c.waiting.length lg.wc] 50)).heap.size = w5.heap.size + 1 := by simp
    have hs5B := hb5.size
    generalize w5.alloc (.cells #[.slice lg.ba c.blocks.length lg.bc, .slice lg.wa c.waiting.length lg.wc] 50) = wC at hGC hbC hmdC hs5 ⊢
    generalize w5.heap.size = PG at hGC hmdC hs5 hs5B ⊢
    have hxC := hxB.grow hbC
    have hXC := hXB.grow hbC
    have hWC := hWB.grow hbC
    have hmxC := hmx0.grow hbC
    have hAC : Below sA wA wC := by rw [hs4] at hbC; exact hbB.trans (hbC.mono (by omega))
    have hBwC : Below w.heap.size w wC := hA.trans (hAC.mono (by rw [← hsAe]; exact hA.size))
    generalize hsBe : wB.heap.size = sB at hmdC hs4 hs5B
    clear x0 x1 hmd0 hb5 hxB hXB hWB hmx0 hbB hbC
    obtain ⟨_, x0, x1⟩ := id hGC
    obtain ⟨_, g0, g1⟩ := id hWC
    go_upto_region 10 with (go_at_call 32; refine (eqDisk_same c lg l0 _ hct.ok hmdC.at_ (hat.grow (by rw [hsAe]; exact hAC))).mono ?_; rintro e w6 ⟨rfl, hb6⟩)
    have hx6 := hxC.grow hb6
    have hX6 := hXC.grow hb6
    have hW6 := hWC.grow hb6
    have hG6 := hGC.grow hb6
    have hmx6 := hmxC.grow hb6
    have hmd6 := hmdC.grow hb6
    have hA6 := hAC.trans (hb6.mono (by have := hAC.size; omega))
    have hBw6 := gca hBwC hb6
    have hs6 := hb6.size
    clear x0 x1 g0 g1 hxC hXC hWC hGC hmxC hmdC hAC hBwC
    have hB : Below w6.heap.size w6 w6.drew := gdr (gre _)
    refine wp_regionU (fun u => DBox u PX d l4 ∧ DBox u PA d l) 99 (by kernel_rfl) ⟨hx6.grow hB, hX6.grow hB⟩ (fun _ => ?_)
    refine anyU_take (i := 0) (v := ?_) rfl (by kernel_rfl) (by kernel_rfl) (by kernel_rfl) (by kernel_rfl) (fun _ _ _ h => h) (Or.inl ⟨by rfl, ?_⟩) ⟨hx6.grow hB, hX6.grow hB⟩ ?_
    rotate_left
    · intro u hSu; obtain ⟨⟨_, s0, s1⟩, ⟨_, t0, t1⟩⟩ := hSu; go_simp <;> with_reducible rfl
    simp only [Act.put, List.getElem_toArray, List.getElem_cons_zero, List.setIfInBounds_toArray, List.set_cons_zero, List.set_cons_succ]
    refine anyU_take (i := 1) (v := ?_) rfl (by kernel_rfl) (by kernel_rfl) (by kernel_rfl) (by kernel_rfl) (fun _ _ _ h => h) (Or.inl ⟨by rfl, ?_⟩) ⟨hx6.grow hB, hX6.grow hB⟩ ?_
    rotate_left
    · intro u hSu; obtain ⟨⟨_, s0, s1⟩, ⟨_, t0, t1⟩⟩ := hSu; go_simp <;> with_reducible rfl
    simp only [Act.put, List.getElem_toArray, List.getElem_cons_zero, List.getElem_cons_succ, List.setIfInBounds_toArray, List.set_cons_zero, List.set_cons_succ]
    refine anyU_one (i := 2) (by kernel_rfl) rfl (fun K hK => ?_)
    go_simp
    refine (toDisk_any d l _ hs (ha.grow (gca hBw6 hB))).mono ?_
    rintro e w7 ⟨l7, bs7, xs7, rfl, hown7, hb7⟩
    have hB := gca hB hb7
    refine hK.out _ _ ⟨hx6.grow hB, hX6.grow hB⟩ ?_
    clear hK
    refine anyU_one (i := 3) (by kernel_rfl) rfl (fun K hK => ?_)
    go_simp
    refine (eqDisk_same d _ _ _ hd (hmx6.at_.grow hB) hown7.at_).mono ?_
    rintro e w8 ⟨rfl, hb8⟩
    have hB := gca hB hb8
    refine hK.out _ _ ⟨hx6.grow hB, hX6.grow hB⟩ ?_
    clear hK
    refine anyU_one (i := 4) (by kernel_rfl) rfl (fun K hK => ?_)
    go_simp
    refine hK.out _ _ ⟨hx6.grow hB, hX6.grow hB⟩ ?_
    clear hK
    refine anyU_done (by kernel_rfl) ?_
    have hx8 := hx6.grow hB
    have hX8 := hX6.grow hB
    have hW8 := hW6.grow hB
    have hG8 := hG6.grow hB
    have hmx8 := hmx6.grow hB
    have hmd8 := hmd6.grow hB
    have hA8 := hA6.trans (hB.mono (by have := hA6.size; omega))
    have hBw8 := gca hBw6 hB
    have hs8 := hB.size
    clear hx6 hX6 hW6 hG6 hmx6 hmd6 hA6 hBw6 hB hown7 hb7 hb8
    obtain ⟨_, x0, x1⟩ := id hx8
    go_upto_region 14 with (go_at_call 33; rw [show (1 : Int) = ((1 : Nat) : Int) by rfl]; refine (markDisk_any d l4 1 sA PX _ _ _ _ _ hs hm1 (by omega) hmx8).mono ?_; rintro e w9 ⟨rfl, _, hK9⟩; rw [← hmx.out])
    have hX9 := hX8.kept hK9 (fun e => by omega)
    have hW9 := hW8.kept hK9 (fun e => by omega)
    have hG9 := hG8.kept hK9 (fun e => by omega)
    have hmd9 := hmd8.out hK9 (fun b hb _ e => by omega)
    have hA9 := hA8.trans (hK9.below (B := sA) (by have := hA8.size; omega) (fun z hz e => by omega))
    have hBw9 := hBw8.trans (hK9.below (B := w.heap.size) hBw8.size (fun z hz e => by have := hPA.out; omega))
    have hs9 := hK9.size
    clear x0 x1 hx8 hX8 hW8 hG8 hmx8 hmd8 hA8 hBw8 hK9
    obtain ⟨_, x0, x1⟩ := id hG9
    obtain ⟨_, g0, g1⟩ := id hW9
    go_upto_region 16 with (go_at_call 32; refine (eqDisk_same c lg l0 _ hct.ok hmd9.at_ (hat.grow (by rw [hsAe]; exact hA9))).mono ?_; rintro e w10 ⟨rfl, hb10⟩)
    have hX10 := hX9.grow hb10
    have hW10 := hW9.grow hb10
    have hG10 := hG9.grow hb10
    have hmd10 := hmd9.grow hb10
    have hA10 := hA9.trans (hb10.mono (by have := hA9.size; omega))
    have hBw10 := gca hBw9 hb10
    have hs10 := hb10.size
    clear x0 x1 g0 g1 hX9 hW9 hG9 hmd9 hA9 hBw9
    obtain ⟨_, x0, x1⟩ := id hG10
    go_upto_region 18 with (go_at_call 33; rw [show (1 : Int) = ((1 : Nat) : Int) by rfl]; refine (markDisk_any c lg 1 sB PG fa ga fc gc _ hct.small hmc (by omega) hmd10).mono ?_; rintro e w11 ⟨rfl, hM11, hK11⟩; rw [← hme.out])
    have hX11 := hX10.kept hK11 (fun e => by omega)
    have hW11 := hW10.kept hK11 (fun e => by omega)
    have hG11 := hG10.kept hK11 (fun e => by omega)
    have hA11 := hA10.trans (hK11.below (B := sA) (by have := hA10.size; omega) (fun z hz e => by omega))
    have hBw11 := hBw10.trans (hK11.below (B := w.heap.size) hBw10.size (fun z hz e => by have := hPA.out; omega))
    clear x0 x1 hX10 hW10 hG10 hmd10 hA10 hBw10 hK11
    obtain ⟨_, x0, x1⟩ := id hG11
    go_upto_region 24 with (go_at_call 34; rw [show (1 : Int) = ((1 : Nat) : Int) by rfl]; refine (heldDisk_any c lg 1 sB PG fa ga fc gc _ hct.small hmc hM11).mono ?_; rintro e w12 ⟨rfl, hb12⟩; rw [← hme.out])
    have hX12 := hX11.grow hb12
    have hW12 := hW11.grow hb12
    have hG12 := hG11.grow hb12
    have hM12 := hM11.grow hb12
    have hA12 := hA11.trans (hb12.mono (by have := hA11.size; omega))
    have hBw12 := gca hBw11 hb12
    clear x0 x1 hX11 hW11 hG11 hM11 hA11 hBw11
    obtain ⟨_, x0, x1⟩ := id hX12
    go_upto_region 25 with (first
      | (go_at_call 37; refine (toDisk_any d l _ hs (ha.grow hBw12)).mono ?_; rintro e w13 ⟨l13, bs13, xs13, rfl, hown13, hb13⟩)
      | (go_at_call 42; refine (implSync_any d l13 _ hd hown13.at_).mono ?_; rw [← hc.out]; rintro e w14 ⟨lh, fa14, ga14, fc14, gc14, rfl, hmd14, hb14⟩))
    have hHD := DBox.new w14 c lh 50
    have hbD := gal (gca hb13 hb14) (.cells #[.slice lh.ba c.blocks.length lh.bc, .slice lh.wa c.waiting.length lh.wc] 50)
    have hmdD := hmd14.grow (gal (gre w14) (.cells #[.slice lh.ba c.blocks.length lh.bc, .slice lh.wa c.waiting.length lh.wc] 50))
    generalize w14.alloc (.cells #[.slice lh.ba c.blocks.length lh.bc, .slice lh.wa c.waiting.length lh.wc] 50) = wD at hHD hbD hmdD ⊢
    generalize w14.heap.size = PH at hHD hmdD ⊢
    have hWD := hW12.grow hbD
    have hGD := hG12.grow hbD
    have hMD := hM12.grow hbD
    have hAD := hA12.trans (hbD.mono (by have := hA12.size; omega))
    have hBwD := gca hBw12 hbD
    clear x0 x1 hX12 hW12 hG12 hM12 hA12 hBw12 hb13 hb14 hmd14 hown13
    obtain ⟨_, x0, x1⟩ := id hHD
    obtain ⟨_, g0, g1⟩ := id hWD
    go_upto_region 27 with (go_at_call 32; refine (eqDisk_same c lh l0 _ hct.ok hmdD.at_ (hat.grow (by rw [hsAe]; exact hAD))).mono ?_; rintro e w15 ⟨rfl, hb15⟩)
    have hG15 := hGD.grow hb15
    have hM15 := hMD.grow hb15
    have hBw15 := gca hBwD hb15
    clear x0 x1 g0 g1 hWD hGD hMD hAD hBwD hmdD hHD
    obtain ⟨_, x0, x1⟩ := id hG15
    go_wp2_with (go_at_call 34; rw [show (1 : Int) = ((1 : Nat) : Int) by rfl]; refine (heldDisk_any c lg 1 sB PG fa ga fc gc _ hct.small hmc hM15).mono ?_; rintro e w16 ⟨rfl, hb16⟩; rw [← hme.out])
    go_ret
    exact ⟨rfl, gca hBw15 hb16⟩
  · have hle1 : Hid (leftBy 1048576 d.sz = -1) := leftBy_neg (by omega)
    go_enter Try.func8, Try.ntmps8
    go_wp2_with (go_at_call 35; refine (szDisk_any d l _ _ hd (by decide) (by decide) (ha.grow hA0)).mono ?_; rintro e w1 ⟨rfl, hb1⟩; rw [hle1.out])
    go_ret
    exact ⟨rfl, gca hA0 hb1⟩

end Go.Proofs.Ythjddpkegooobab
