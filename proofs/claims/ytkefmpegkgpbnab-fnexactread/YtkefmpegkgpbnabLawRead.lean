/-
  LAW: FnExactRead, walked. Own work.
-/
import Derived.Test.YtkefmpegkgpbnabIRead
import Derived.Test.YtkefmpegkgpbnabLawSync
namespace Go.Proofs.Ytkefmpegkgpbnab
open Go.RowKit

theorem read_len (d : DD) (b : Int) : (d.read b).length ≤ 64 := by
  cases hok : d.ok with
  | false => rw [read_no1 hok]; exact Nat.zero_le _
  | true =>
    cases hbk : (decide (0 ≤ b) && decide (b < 130)) with
    | false => rw [read_no2 hbk]; exact Nat.zero_le _
    | true =>
      have hb2 : 0 ≤ b ∧ b < 130 := by simpa using hbk
      obtain ⟨m, rfl⟩ : ∃ m : Nat, b = (m : Int) := ⟨b.toNat, by omega⟩
      have hf := DD.fit hok
      rw [read_yes hok (by omega)]
      have := readN_mem (p := fun x => x.length = 64) (b := (m : Int)) hf.bb (fun x hx => (hf.wb x hx).2.2) (by rw [hf.bl]; simp; omega) _ (Nat.le_refl _)
      omega

set_option maxHeartbeats 4000000 in
set_option maxRecDepth 100000 in
theorem lawRead (d : DD) (l : DL) (b : Int) (w : World) (hd : d.Ok) (ha : DAt w l d) (hbi : I64 b) :
    Calls Try.prog 9 #[d.val l, .int .i64 b] w fun e w' => e = .returned (.bool true) ∧ Below w.heap.size w w' := by
  have hX0 := DBox.new w d l 57
  have hA0 := gal (gre w) (.cells #[.slice l.ba d.blocks.length l.bc, .slice l.wa d.waiting.length l.wc] 57)
  by_cases hs1 : d.sz ≤ 1048576
  · have hs := DD.small hs1
    have hm1 := DD.small_mend hs1
    have hle1 : Hid (leftBy 1048576 d.sz = 1048576 - d.sz) := leftBy_pos (by omega)
    have hd1 : ¬ (1048576 - d.sz < 0) := by omega
    obtain ⟨ys, hc⟩ := hid_ex (d.read b)
    have hyl : ys.length ≤ 64 := by rw [hc.out]; exact read_len d b
    have hym : ys.length ≤ maxLen := by unfold maxLen; omega
    have hyk : ys.length ≤ 1048576 := by omega
    obtain ⟨mx, hmx⟩ := hid_ex (d.mend 1)
    have hmxn : ¬ ((mx : Int) < 0) := by omega
    have hmn : ¬ ((1 : Int) + (ys.length : Int) < 0) := by omega
    have hmn2 : ¬ (((1 + ys.length : Nat) : Int) < 0) := by omega
    have hmm : (((1 : Int) + (ys.length : Int)) != ((1 : Int) + (ys.length : Int))) = false := by simp
    have hmm2 : (((1 + ys.length : Nat) : Int) != ((1 + ys.length : Nat) : Int)) = false := by simp
    clear hs1
    go_enter Try.func9, Try.ntmps9
    go_upto_region 6 with (first
      | (go_at_call 34; refine (szDisk_any d l _ _ hd (by decide) (by decide) (ha.grow hA0)).mono ?_; rintro e w1 ⟨rfl, hb1⟩; rw [hle1.out]; obtain ⟨_, x0, x1⟩ := hX0.grow hb1)
      | (go_at_call 36; refine (toDisk_any d l _ hs (ha.grow (gca hA0 hb1))).mono ?_; rintro e w2 ⟨l2, bs2, xs2, rfl, hown2, hb2⟩)
      | (go_at_call 42; refine (specRead_any d l2 b _ hd hown2.at_ hbi).mono ?_; rw [← hc.out]; rintro e wA ⟨oa0, oc0, rfl, hat, hb3⟩))
    have hA := gca (gca (gca hA0 hb1) hb2) hb3
    have hXA := hX0.grow (gca (gca hb1 hb2) hb3)
    obtain ⟨PA, hPA⟩ := hid_ex w.heap.size
    rw [← hPA.out] at hXA ⊢
    clear x0 x1 hb1 hb2 hb3 hown2 hX0 hA0
    obtain ⟨_, x0, x1⟩ := id hXA
    go_upto_region 7 with (go_at_call 36; refine (toDisk_any d l _ hs (ha.grow hA)).mono ?_; rintro e w4 ⟨l4, bs4, xs4, rfl, hown4, hb4⟩)
    have hxB := DBox.new w4 d l4 50
    have hbB := gal hb4 (.cells #[.slice l4.ba d.blocks.length l4.bc, .slice l4.wa d.waiting.length l4.wc] 50)
    have hmx0 := hown4.md.grow (gal (gre w4) (.cells #[.slice l4.ba d.blocks.length l4.bc, .slice l4.wa d.waiting.length l4.wc] 50))
    have hs4 : (w4.alloc (.cells #[.slice l4.ba d.blocks.length l4.bc, .slice l4.wa d.waiting.length l4.wc] 50)).heap.size = w4.heap.size + 1 := by simp
    have hs4A := hb4.size
    generalize w4.alloc (.cells #[.slice l4.ba d.blocks.length l4.bc, .slice l4.wa d.waiting.length l4.wc] 50) = wB at hxB hbB hmx0 hs4 ⊢
    generalize w4.heap.size = PX at hxB hmx0 hs4 hs4A ⊢
    have hPAl := hXA.lt
    have hXB := hXA.grow hbB
    generalize hsAe : wA.heap.size = sA at hmx0 hbB hs4A hPAl
    clear x0 x1 hb4 hown4 hXA
    obtain ⟨_, x0, x1⟩ := id hxB
    go_upto_region 8 with (go_at_call 43; refine (implRead_any d l4 b _ hd hmx0.at_ hbi).mono ?_; rw [← hc.out]; rintro e wC ⟨oag, ocg, rfl, hmdC, hbC⟩)
    have hs5B := hbC.size
    have hxC := hxB.grow hbC
    have hXC := hXB.grow hbC
    have hmxC := hmx0.grow hbC
    have hAC : Below sA wA wC := by rw [hs4] at hbC; exact hbB.trans (hbC.mono (by omega))
    have hBwC : Below w.heap.size w wC := hA.trans (hAC.mono (by rw [← hsAe]; exact hA.size))
    generalize hsBe : wB.heap.size = sB at hmdC hs4 hs5B
    generalize hsCe : wC.heap.size = sC at hmdC hs5B
    clear x0 x1 hxB hXB hmx0 hbB hbC
    go_upto_region 10 with (go_at_call 18; refine (eqByteS_same oag oa0 ys ocg oc0 _ hym hmdC.at_ (hat.grow (by rw [hsAe]; exact hAC))).mono ?_; rintro e w6 ⟨rfl, hb6⟩)
    have hx6 := hxC.grow hb6
    have hX6 := hXC.grow hb6
    have hmx6 := hmxC.grow hb6
    have hmd6 := hmdC.grow hb6
    have hA6 := hAC.trans (hb6.mono (by have := hAC.size; omega))
    have hBw6 := gca hBwC hb6
    have hs6 := hb6.size
    clear hxC hXC hmxC hmdC hAC hBwC
    have hB : Below w6.heap.size w6 w6.drew := gdr (gre _)
    refine wp_regionU (fun u => DBox u PX d l4 ∧ DBox u PA d l) 99 (by kernel_rfl) ⟨hx6.grow hB, hX6.grow hB⟩ (fun _ => ?_)
    refine anyU_take (i := 0) (v := ?_) rfl (by kernel_rfl) (by kernel_rfl) (by kernel_rfl) (by kernel_rfl) (fun _ _ _ h => h) (Or.inl ⟨by rfl, ?_⟩) ⟨hx6.grow hB, hX6.grow hB⟩ ?_
    rotate_left
    · intro u hSu; obtain ⟨⟨_, s0, s1⟩, ⟨_, t0, t1⟩⟩ := hSu; go_simp <;> with_reducible rfl
    simp only [Act.put, List.getElem_toArray, List.getElem_cons_zero, List.setIfInBounds_toArray, List.set_cons_zero, List.set_cons_succ]
    refine anyU_take (i := 1) (v := ?_) rfl (by kernel_rfl) (by kernel_rfl) (by kernel_rfl) (by kernel_rfl) (fun _ _ _ h => h) (Or.inl ⟨by rfl, ?_⟩) ⟨hx6.grow hB, hX6.grow hB⟩ ?_
    rotate_left
    · intro u hSu; obtain ⟨⟨_, s0, s1⟩, ⟨_, t0, t1⟩⟩ := hSu; go_simp <;> with_reducible rfl
    simp only [Act.put, List.getElem_toArray, List.getElem_cons_zero, List.getElem_cons_succ, List.setIfInBounds_toArray, List.set_cons_zero, List.set_cons_succ]
    refine anyU_one (i := 2) (by kernel_rfl) rfl (fun K hK => ?_)
    go_simp
    refine (toDisk_any d l _ hs (ha.grow (gca hBw6 hB))).mono ?_
    rintro e w7 ⟨l7, bs7, xs7, rfl, hown7, hb7⟩
    have hB := gca hB hb7
    refine hK.out _ _ ⟨hx6.grow hB, hX6.grow hB⟩ ?_
    clear hK
    refine anyU_one (i := 3) (by kernel_rfl) rfl (fun K hK => ?_)
    go_simp
    refine (eqDisk_same d _ _ _ hd (hmx6.at_.grow hB) hown7.at_).mono ?_
    rintro e w8 ⟨rfl, hb8⟩
    have hB := gca hB hb8
    refine hK.out _ _ ⟨hx6.grow hB, hX6.grow hB⟩ ?_
    clear hK
    refine anyU_one (i := 4) (by kernel_rfl) rfl (fun K hK => ?_)
    go_simp
    refine hK.out _ _ ⟨hx6.grow hB, hX6.grow hB⟩ ?_
    clear hK
    refine anyU_done (by kernel_rfl) ?_
    have hx8 := hx6.grow hB
    have hX8 := hX6.grow hB
    have hmx8 := hmx6.grow hB
    have hmd8 := hmd6.grow hB
    have hA8 := hA6.trans (hB.mono (by have := hA6.size; omega))
    have hBw8 := gca hBw6 hB
    have hs8 := hB.size
    clear hx6 hX6 hmx6 hmd6 hA6 hBw6 hB hown7 hb7 hb8
    obtain ⟨_, x0, x1⟩ := id hx8
    go_upto_region 14 with (go_at_call 32; rw [show (1 : Int) = ((1 : Nat) : Int) by rfl]; refine (markDisk_any d l4 1 sA PX _ _ _ _ _ hs hm1 (by omega) hmx8).mono ?_; rintro e w9 ⟨rfl, _, hK9⟩; rw [← hmx.out])
    have hX9 := hX8.kept hK9 (fun e => by omega)
    have hmd9 := hmd8.kept hK9 (fun b hb _ e => by omega)
    have hA9 := hA8.trans (hK9.below (B := sA) (by have := hA8.size; omega) (fun z hz e => by omega))
    have hBw9 := hBw8.trans (hK9.below (B := w.heap.size) hBw8.size (fun z hz e => by have := hPA.out; omega))
    have hs9 := hK9.size
    clear x0 x1 hx8 hX8 hmx8 hmd8 hA8 hBw8 hK9
    go_upto_region 16 with (go_at_call 18; refine (eqByteS_same oag oa0 ys ocg oc0 _ hym hmd9.at_ (hat.grow (by rw [hsAe]; exact hA9))).mono ?_; rintro e w10 ⟨rfl, hb10⟩)
    have hX10 := hX9.grow hb10
    have hmd10 := hmd9.grow hb10
    have hA10 := hA9.trans (hb10.mono (by have := hA9.size; omega))
    have hBw10 := gca hBw9 hb10
    have hs10 := hb10.size
    clear hX9 hmd9 hA9 hBw9
    go_upto_region 18 with (go_at_call 21; rw [show (1 : Int) = ((1 : Nat) : Int) by rfl]; refine (markByteT_any oag ys ocg 1 sB sC _ hyk (by decide) hmd10).mono ?_; rintro e w11 ⟨rfl, hM11, hK11⟩)
    have hX11 := hX10.kept hK11 (fun e => by omega)
    have hA11 := hA10.trans (hK11.below (B := sA) (by have := hA10.size; omega) (fun z hz e => by omega))
    have hBw11 := hBw10.trans (hK11.below (B := w.heap.size) hBw10.size (fun z hz e => by have := hPA.out; omega))
    clear hX10 hmd10 hA10 hBw10 hK11
    go_upto_region 24 with (go_at_call 22; rw [show (1 : Int) = ((1 : Nat) : Int) by rfl]; refine (heldByteS_any oag ys.length ocg 1 _ hyk (by decide) hM11.at_).mono ?_; rintro e w12 ⟨rfl, hb12⟩)
    have hX12 := hX11.grow hb12
    have hM12 := hM11.grow hb12
    have hA12 := hA11.trans (hb12.mono (by have := hA11.size; omega))
    have hBw12 := gca hBw11 hb12
    clear hX11 hM11 hA11 hBw11
    obtain ⟨_, x0, x1⟩ := id hX12
    go_upto_region 25 with (first
      | (go_at_call 36; refine (toDisk_any d l _ hs (ha.grow hBw12)).mono ?_; rintro e w13 ⟨l13, bs13, xs13, rfl, hown13, hb13⟩)
      | (go_at_call 43; refine (implRead_any d l13 b _ hd hown13.at_ hbi).mono ?_; rw [← hc.out]; rintro e wD ⟨oah, och, rfl, hmdD, hb14⟩))
    have hbD := gca hb13 hb14
    have hMD := hM12.grow hbD
    have hAD := hA12.trans (hbD.mono (by have := hA12.size; omega))
    have hBwD := gca hBw12 hbD
    clear x0 x1 hX12 hM12 hA12 hBw12 hb13 hb14 hown13
    go_upto_region 27 with (go_at_call 18; refine (eqByteS_same oah oa0 ys och oc0 _ hym hmdD.at_ (hat.grow (by rw [hsAe]; exact hAD))).mono ?_; rintro e w15 ⟨rfl, hb15⟩)
    have hM15 := hMD.grow hb15
    have hBw15 := gca hBwD hb15
    clear hMD hAD hBwD hmdD
    go_wp2_with (go_at_call 22; rw [show (1 : Int) = ((1 : Nat) : Int) by rfl]; refine (heldByteS_any oag ys.length ocg 1 _ hyk (by decide) hM15.at_).mono ?_; rintro e w16 ⟨rfl, hb16⟩)
    go_ret
    exact ⟨rfl, gca hBw15 hb16⟩
  · have hle1 : Hid (leftBy 1048576 d.sz = -1) := leftBy_neg (by omega)
    go_enter Try.func9, Try.ntmps9
    go_wp2_with (go_at_call 34; refine (szDisk_any d l _ _ hd (by decide) (by decide) (ha.grow hA0)).mono ?_; rintro e w1 ⟨rfl, hb1⟩; rw [hle1.out])
    go_ret
    exact ⟨rfl, gca hA0 hb1⟩

end Go.Proofs.Ytkefmpegkgpbnab
