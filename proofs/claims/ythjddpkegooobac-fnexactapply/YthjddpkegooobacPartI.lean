import Derived.ProofKit
import Derived.OpenShut
import Derived.Deep.Slices
import Derived.ChangeArms
import Derived.ShutString
import Derived.ChangeOld
import Derived.Test.YthjddpkegooobacPartH

/-
  LAW: FnExactApply, walked. Own work.
-/
namespace Go.Proofs.Ythjddpkegooobac
open Go.RowKit

theorem applyN_fit {d : DD} {ops : List OP} (hd : d.Ok) (hok : OpsOk ops) (hk : d.ok = true) : ∀ j e, j ≤ ops.length → applyN d ops j = some e → e.Ok ∧ e.ok = true
  | 0, e, _, h => by cases h; exact ⟨hd, hk⟩
  | j + 1, e, hj, h => by
    cases h2 : applyN d ops j with
    | none => rw [applyN_none h2 1] at h; cases h
    | some f =>
      obtain ⟨h3, h4⟩ := applyN_fit hd hok hk j f (by omega) h2
      have hm : ops[j]! ∈ ops := mem_at (by omega)
      cases h5 : (f.step ops[j]!).ok with
      | false => rw [applyN_no h2 h5] at h; cases h
      | true =>
        rw [applyN_yes h2 h5] at h
        cases h
        exact ⟨step_ok h3 h4 (hok.bl _ hm) (hok.by_ _ hm), h5⟩
theorem apply_tame {d : DD} {ops : List OP} {n : Int} (hd : d.Ok) (hok : OpsOk ops) : (d.apply ops n).Tame := by
  unfold DD.apply
  split
  · rename_i h
    cases h2 : applyN d ops n.toNat with
    | none => exact zero_tame
    | some e =>
      obtain ⟨h3, h4⟩ := applyN_fit hd hok h.1 _ _ (by omega) h2
      exact (DD.fit h4).tame h3
  · exact zero_tame

set_option maxHeartbeats 8000000 in
set_option maxRecDepth 100000 in
theorem lawApply (d : DD) (l : DL) (oa : Option Addr) (ops : List OP) (oc : Nat) (n : Int) (w : World) (hd : d.Ok) (ha : DAt w l d) (hok : OpsOk ops) (hoa : OpsAt w oa ops) (hn : I64 n) :
    Calls Try.prog 3 #[d.val l, .slice oa ops.length oc, .int .i64 n] w fun e w' => e = .returned (.bool true) ∧ Below w.heap.size w w' := by
  have hX0 := DBox.new w d l 25
  have hA0 := gal (gre w) (.cells #[.slice l.ba d.blocks.length l.bc, .slice l.wa d.waiting.length l.wc] 25)
  have hnn := szOs_nonneg ops
  have hlm := hok.len
  unfold maxLen at hlm
  have hdz : 0 ≤ d.sz := by have := d.mend_sz 0; omega
  by_cases hs1 : d.sz ≤ 1048576
  · have hd1 : ¬ (1048576 - d.sz < 0) := by omega
    have hle1 : Hid (leftBy 1048576 d.sz = 1048576 - d.sz) := leftBy_pos (by omega)
    by_cases hs2 : (ops.length : Int) + szOs ops ≤ 1048576 - d.sz
    · have hs := DD.small hs1
      have hm1 := DD.small_mend hs1
      have hle2 : Hid (leftBy (1048576 - d.sz) ((ops.length : Int) + szOs ops) = 1048576 - d.sz - ((ops.length : Int) + szOs ops)) := leftBy_pos (by omega)
      have hd2 : ¬ (1048576 - d.sz - ((ops.length : Int) + szOs ops) < 0) := by omega
      have hol : ops.length ≤ 1048576 := by omega
      have hob : ∀ o, o ∈ ops → o.bytes.length ≤ 1048576 := fun o ho => by have := szOs_mem ho; omega
      obtain ⟨c, hc⟩ := hid_ex (d.apply ops n)
      have hct : c.Tame := by rw [hc.out]; exact apply_tame hd hok
      have hmc := hct.mend
      obtain ⟨mx, hmx⟩ := hid_ex (d.mend 1)
      have hmx2 : mx ≤ 549755813888 := by rw [hmx.out]; have := d.mend_sz 1; omega
      obtain ⟨my, hmy⟩ := hid_ex (oE (fun i => ops[i]!.bytes) mx ops.length)
      have hmy2 : my ≤ 1099511627776 := by
        have h1 := oE_sz ops mx ops.length (Nat.le_refl _)
        rw [List.take_length, ← hmy.out] at h1
        omega
      have hmyn : ¬ ((my : Int) < 0) := by omega
      obtain ⟨m, hme⟩ := hid_ex (c.mend 1)
      have hmn : ¬ ((m : Int) < 0) := by omega
      have hmm : ((m : Int) != (m : Int)) = false := by simp
      clear hs1
      go_enter Try.func3, Try.ntmps3
      go_upto_region 9 with (first
        | (go_at_call 4; refine (szDisk_any d l _ _ hd (by decide) (by decide) (ha.grow hA0)).mono ?_; rintro e w1 ⟨rfl, hb1⟩; rw [hle1.out])
        | (go_at_call 5; refine (szOpS_any oa oc ops _ _ hok.len (fun v hv => (hok.by_ v hv).len) (by omega) (by omega) (hoa.grow (gca hA0 hb1))).mono ?_; rintro e w1b ⟨rfl, hb1b⟩; rw [hle2.out]; have hb1 := gca hb1 hb1b; obtain ⟨_, x0, x1⟩ := hX0.grow hb1)
        | (go_at_call 7; refine (toDisk_any d l _ hs (ha.grow (gca hA0 hb1))).mono ?_; rintro e w2 ⟨l2, bs2, xs2, rfl, hown2, hb2⟩)
        | (go_at_call 8; refine (toOpS_any oa oc ops _ hol hob (hoa.grow (gca (gca hA0 hb1) hb2))).mono ?_; rintro e w2b ⟨b2, bs2b, rfl, _, hk2, hb2b⟩)
        | (go_at_call 6; refine (specApply_any d l2 _ ops _ n _ hd (hown2.at_.grow hb2b) hk2.mo.at_ hol hok hn).mono ?_; rw [← hc.out]; rintro e w3 h3; obtain ⟨l0, rfl, hat0, hb3⟩ := h3.at_))
      have hA := gal (gca (gca (gca (gca hA0 hb1) hb2) hb2b) hb3) (.cells #[.slice l0.ba c.blocks.length l0.bc, .slice l0.wa c.waiting.length l0.wc] 31)
      have hXA := hX0.grow (gal (gca (gca (gca hb1 hb2) hb2b) hb3) (.cells #[.slice l0.ba c.blocks.length l0.bc, .slice l0.wa c.waiting.length l0.wc] 31))
      have hWA := DBox.new w3 c l0 31
      have hat := hat0.grow (gal (gre w3) (.cells #[.slice l0.ba c.blocks.length l0.bc, .slice l0.wa c.waiting.length l0.wc] 31))
      generalize w3.alloc (.cells #[.slice l0.ba c.blocks.length l0.bc, .slice l0.wa c.waiting.length l0.wc] 31) = wA at hA hXA hWA hat ⊢
      generalize w3.heap.size = P0 at hWA ⊢
      obtain ⟨PA, hPA⟩ := hid_ex w.heap.size
      rw [← hPA.out] at hXA ⊢
      clear x0 x1 hb1 hb2 hb3 hb2b hk2 hown2 hat0 hX0 hA0
      obtain ⟨_, x0, x1⟩ := id hXA
      go_upto_region 10 with (go_at_call 7; refine (toDisk_any d l _ hs (ha.grow hA)).mono ?_; rintro e w4 ⟨l4, bs4, xs4, rfl, hown4, hb4⟩)
      have hxB := DBox.new w4 d l4 31
      have hbB := gal hb4 (.cells #[.slice l4.ba d.blocks.length l4.bc, .slice l4.wa d.waiting.length l4.wc] 31)
      have hmx0 := hown4.md.grow (gal (gre w4) (.cells #[.slice l4.ba d.blocks.length l4.bc, .slice l4.wa d.waiting.length l4.wc] 31))
      have hs4 : (w4.alloc (.cells #[.slice l4.ba d.blocks.length l4.bc, .slice l4.wa d.waiting.length l4.wc] 31)).heap.size = w4.heap.size + 1 := by simp
      have hs4A := hb4.size
      generalize w4.alloc (.cells #[.slice l4.ba d.blocks.length l4.bc, .slice l4.wa d.waiting.length l4.wc] 31) = wB at hxB hbB hmx0 hs4 ⊢
      generalize w4.heap.size = PX at hxB hmx0 hs4 hs4A ⊢
      have hPAl := hXA.lt
      have hP0l := hWA.lt
      have hXB := hXA.grow hbB
      have hWB := hWA.grow hbB
      generalize hsAe : wA.heap.size = sA at hmx0 hbB hs4A hPAl hP0l
      have hBwB : Below w.heap.size w wB := hA.trans (hbB.mono (by rw [← hsAe]; exact hA.size))
      clear x0 x1 hb4 hown4 hXA hWA
      go_upto_region 11 with (go_at_call 8; refine (toOpS_any oa oc ops _ hol hob (hoa.grow hBwB)).mono ?_; rintro e w4b ⟨BX, bsX, rfl, hBX, hkx0, hb4b⟩; have hkx := hkx0.mo)
      have hx4 := hxB.grow hb4b
      have hX4 := hXB.grow hb4b
      have hW4 := hWB.grow hb4b
      have hmx4 := hmx0.grow hb4b
      have hA4 : Below sA wA w4b := by rw [hs4] at hb4b; exact hbB.trans (hb4b.mono (by omega))
      have hBw4 := gca hBwB hb4b
      have hs4b := hb4b.size
      clear hxB hXB hWB hmx0 hbB hBwB hb4b
      obtain ⟨_, x0, x1⟩ := id hx4
      go_upto_region 12 with (go_at_call 9; refine (implApply_any d l4 _ ops _ n _ hd hmx4.at_ hkx.at_ (Nat.le_refl _) hol hok hn).mono ?_; rw [← hc.out]; rintro e w5 ⟨lg, fa, ga, fc, gc, rfl, hmd0, hb5⟩)
      have hGC := DBox.new w5 c lg 31
      have hbC := gal hb5 (.cells #[.slice lg.ba c.blocks.length lg.bc, .slice lg.wa c.waiting.length lg.wc] 31)
      have hmdC := hmd0.grow (gal (gre w5) (.cells #[.slice lg.ba c.blocks.length lg.bc, .slice lg.wa c.waiting.length lg.wc] 31))
      have hs5 : (w5.alloc (.cells #[.slice lg.ba c.blocks.length lg.bc, .slice lg.wa c.waiting.length lg.wc] 31)).heap.size = w5.heap.size + 1 := by simp
      have hs5B := hb5.size
      generalize w5.alloc (.cells #[.slice lg.ba c.blocks.length lg.bc, .slice lg.wa c.waiting.length lg.wc] 31) = wC at hGC hbC hmdC hs5 ⊢
      generalize w5.heap.size = PG at hGC hmdC hs5 hs5B ⊢
      have hxC := hx4.grow hbC
      have hXC := hX4.grow hbC
      have hWC := hW4.grow hbC
      have hmxC := hmx4.grow hbC
      have hkxC := hkx.grow hbC
      have hAC : Below sA wA wC := hA4.trans (hbC.mono (by omega))
      have hBwC : Below w.heap.size w wC := gca hBw4 hbC
      generalize hsBe : w4b.heap.size = sB at hmdC hs4b hs5B hkxC
      clear x0 x1 hmd0 hb5 hx4 hX4 hW4 hmx4 hbC hkx hA4 hBw4
      obtain ⟨_, x0, x1⟩ := id hGC
      obtain ⟨_, g0, g1⟩ := id hWC
      go_upto_region 14 with (go_at_call 10; refine (eqDisk_same c lg l0 _ hct.ok hmdC.at_ (hat.grow (by rw [hsAe]; exact hAC))).mono ?_; rintro e w6 ⟨rfl, hb6⟩)
      have hx6 := hxC.grow hb6
      have hX6 := hXC.grow hb6
      have hW6 := hWC.grow hb6
      have hG6 := hGC.grow hb6
      have hmx6 := hmxC.grow hb6
      have hmd6 := hmdC.grow hb6
      have hkx6 := hkxC.grow hb6
      have hA6 := hAC.trans (hb6.mono (by have := hAC.size; omega))
      have hBw6 := gca hBwC hb6
      have hs6 := hb6.size
      clear x0 x1 g0 g1 hxC hXC hWC hGC hmxC hmdC hAC hBwC hkxC
      have hB : Below w6.heap.size w6 w6.drew := gdr (gre _)
      refine wp_regionU (fun u => DBox u PX d l4 ∧ DBox u PA d l) 99 (by kernel_rfl) ⟨hx6.grow hB, hX6.grow hB⟩ (fun _ => ?_)
      refine anyU_take (i := 0) (v := ?_) rfl (by kernel_rfl) (by kernel_rfl) (by kernel_rfl) (by kernel_rfl) (fun _ _ _ h => h) (Or.inl ⟨by rfl, ?_⟩) ⟨hx6.grow hB, hX6.grow hB⟩ ?_
      rotate_left
      · intro u hSu; obtain ⟨⟨_, s0, s1⟩, ⟨_, t0, t1⟩⟩ := hSu; go_simp <;> with_reducible rfl
      simp only [Act.put, List.getElem_toArray, List.getElem_cons_zero, List.setIfInBounds_toArray, List.set_cons_zero, List.set_cons_succ]
      refine anyU_take (i := 1) (v := ?_) rfl (by kernel_rfl) (by kernel_rfl) (by kernel_rfl) (by kernel_rfl) (fun _ _ _ h => h) (Or.inl ⟨by rfl, ?_⟩) ⟨hx6.grow hB, hX6.grow hB⟩ ?_
      rotate_left
      · intro u hSu; obtain ⟨⟨_, s0, s1⟩, ⟨_, t0, t1⟩⟩ := hSu; go_simp <;> with_reducible rfl
      simp only [Act.put, List.getElem_toArray, List.getElem_cons_zero, List.getElem_cons_succ, List.setIfInBounds_toArray, List.set_cons_zero, List.set_cons_succ]
      refine anyU_one (i := 2) (by kernel_rfl) rfl (fun K hK => ?_)
      go_simp
      refine (toDisk_any d l _ hs (ha.grow (gca hBw6 hB))).mono ?_
      rintro e w7 ⟨l7, bs7, xs7, rfl, hown7, hb7⟩
      have hB := gca hB hb7
      refine hK.out _ _ ⟨hx6.grow hB, hX6.grow hB⟩ ?_
      clear hK
      refine anyU_one (i := 3) (by kernel_rfl) rfl (fun K hK => ?_)
      go_simp
      refine (eqDisk_same d _ _ _ hd (hmx6.at_.grow hB) hown7.at_).mono ?_
      rintro e w8 ⟨rfl, hb8⟩
      have hB := gca hB hb8
      refine hK.out _ _ ⟨hx6.grow hB, hX6.grow hB⟩ ?_
      clear hK
      refine anyU_one (i := 4) (by kernel_rfl) rfl (fun K hK => ?_)
      go_simp
      refine hK.out _ _ ⟨hx6.grow hB, hX6.grow hB⟩ ?_
      clear hK
      refine anyU_done (by kernel_rfl) ?_
      have hx8 := hx6.grow hB
      have hX8 := hX6.grow hB
      have hW8 := hW6.grow hB
      have hG8 := hG6.grow hB
      have hmx8 := hmx6.grow hB
      have hmd8 := hmd6.grow hB
      have hkx8 := hkx6.grow hB
      have hA8 := hA6.trans (hB.mono (by have := hA6.size; omega))
      have hBw8 := gca hBw6 hB
      have hs8 := hB.size
      clear hx6 hX6 hW6 hG6 hmx6 hmd6 hA6 hBw6 hB hown7 hb7 hb8 hkx6
      go_upto_region 18 with (first
        | (go_at_call 8; refine (toOpS_any oa oc ops _ hol hob (hoa.grow hBw8)).mono ?_; rintro e w8b ⟨b8, bs8, rfl, _, hk8, hb8b⟩)
        | (go_at_call 11; refine (eqOpS_same _ _ _ _ ops _ hok.len (fun o ho => (hok.by_ o ho).len) (hkx8.grow hb8b).at_ hk8.mo.at_).mono ?_; rintro e w8c ⟨rfl, hb8c⟩))
      have hb8d := gca hb8b hb8c
      have hxm := hx8.grow hb8d
      have hXm := hX8.grow hb8d
      have hWm := hW8.grow hb8d
      have hGm := hG8.grow hb8d
      have hmxm := hmx8.grow hb8d
      have hmdm := hmd8.grow hb8d
      have hkxm := hkx8.grow hb8d
      have hAm := hA8.trans (hb8d.mono (by have := hA8.size; omega))
      have hBwm := gca hBw8 hb8d
      have hsm := hb8d.size
      clear hx8 hX8 hW8 hG8 hmx8 hmd8 hkx8 hA8 hBw8 hb8b hb8c hb8d hk8
      obtain ⟨_, x0, x1⟩ := id hxm
      go_upto_region 20 with (go_at_call 12; rw [show (1 : Int) = ((1 : Nat) : Int) by rfl]; refine (markDisk_any d l4 1 sA PX _ _ _ _ _ hs hm1 (by omega) hmxm).mono ?_; rintro e w9 ⟨rfl, _, hK9⟩; rw [← hmx.out])
      have hX9 := hXm.kept hK9 (fun e => by omega)
      have hW9 := hWm.kept hK9 (fun e => by omega)
      have hG9 := hGm.kept hK9 (fun e => by omega)
      have hmd9 := hmdm.out hK9 (fun b hb _ e => by omega)
      have hkx9 := hkxm.out hK9 (fun b hb _ e => by omega)
      have hA9 := hAm.trans (hK9.below (B := sA) (by have := hAm.size; omega) (fun z hz e => by omega))
      have hBw9 := hBwm.trans (hK9.below (B := w.heap.size) hBwm.size (fun z hz e => by have := hPA.out; omega))
      have hs9 := hK9.size
      clear x0 x1 hxm hXm hWm hGm hmxm hmdm hAm hBwm hK9 hkxm
      go_upto_region 21 with (go_at_call 13; refine (markOpS_any (some ⟨BX, 0, none⟩) ops.length _ mx BX sB _ _ _ _ _ _ hol (fun i hi => hob _ (mem_at hi)) (by rw [← hmy.out]; exact hmy2) hkx9).mono ?_; rintro e w9b ⟨rfl, _, hK9b⟩; rw [← hmy.out])
      have hX9b := hX9.kept hK9b (fun e => by omega)
      have hW9b := hW9.kept hK9b (fun e => by omega)
      have hG9b := hG9.kept hK9b (fun e => by omega)
      have hmd9b := hmd9.out hK9b (fun b hb _ e => by omega)
      have hA9b := hA9.trans (hK9b.below (B := sA) (by have := hA9.size; omega) (fun z hz e => by omega))
      have hBw9b := hBw9.trans (hK9b.below (B := w.heap.size) hBw9.size (fun z hz e => by have := hPA.out; omega))
      have hs9b := hK9b.size
      clear hX9 hW9 hG9 hmd9 hA9 hBw9 hK9b hkx9
      obtain ⟨_, x0, x1⟩ := id hG9b
      obtain ⟨_, g0, g1⟩ := id hW9b
      go_upto_region 23 with (go_at_call 10; refine (eqDisk_same c lg l0 _ hct.ok hmd9b.at_ (hat.grow (by rw [hsAe]; exact hA9b))).mono ?_; rintro e w10 ⟨rfl, hb10⟩)
      have hX10 := hX9b.grow hb10
      have hW10 := hW9b.grow hb10
      have hG10 := hG9b.grow hb10
      have hmd10 := hmd9b.grow hb10
      have hA10 := hA9b.trans (hb10.mono (by have := hA9b.size; omega))
      have hBw10 := gca hBw9b hb10
      have hs10 := hb10.size
      clear x0 x1 g0 g1 hX9b hW9b hG9b hmd9b hA9b hBw9b
      obtain ⟨_, x0, x1⟩ := id hG10
      go_upto_region 25 with (go_at_call 12; rw [show (1 : Int) = ((1 : Nat) : Int) by rfl]; refine (markDisk_any c lg 1 sB PG fa ga fc gc _ hct.small hmc (by omega) hmd10).mono ?_; rintro e w11 ⟨rfl, hM11, hK11⟩; rw [← hme.out])
      have hX11 := hX10.kept hK11 (fun e => by omega)
      have hW11 := hW10.kept hK11 (fun e => by omega)
      have hG11 := hG10.kept hK11 (fun e => by omega)
      have hA11 := hA10.trans (hK11.below (B := sA) (by have := hA10.size; omega) (fun z hz e => by omega))
      have hBw11 := hBw10.trans (hK11.below (B := w.heap.size) hBw10.size (fun z hz e => by have := hPA.out; omega))
      clear x0 x1 hX10 hW10 hG10 hmd10 hA10 hBw10 hK11
      obtain ⟨_, x0, x1⟩ := id hG11
      go_upto_region 31 with (go_at_call 14; rw [show (1 : Int) = ((1 : Nat) : Int) by rfl]; refine (heldDisk_any c lg 1 sB PG fa ga fc gc _ hct.small hmc hM11).mono ?_; rintro e w12 ⟨rfl, hb12⟩; rw [← hme.out])
      have hX12 := hX11.grow hb12
      have hW12 := hW11.grow hb12
      have hG12 := hG11.grow hb12
      have hM12 := hM11.grow hb12
      have hA12 := hA11.trans (hb12.mono (by have := hA11.size; omega))
      have hBw12 := gca hBw11 hb12
      clear x0 x1 hX11 hW11 hG11 hM11 hA11 hBw11
      obtain ⟨_, x0, x1⟩ := id hX12
      go_upto_region 32 with (first
        | (go_at_call 7; refine (toDisk_any d l _ hs (ha.grow hBw12)).mono ?_; rintro e w13 ⟨l13, bs13, xs13, rfl, hown13, hb13⟩)
        | (go_at_call 8; refine (toOpS_any oa oc ops _ hol hob (hoa.grow (gca hBw12 hb13))).mono ?_; rintro e w13b ⟨b13, bs13b, rfl, _, hk13, hb13b⟩)
        | (go_at_call 9; refine (implApply_any d l13 _ ops _ n _ hd (hown13.at_.grow hb13b) hk13.mo.at_ (Nat.le_refl _) hol hok hn).mono ?_; rw [← hc.out]; rintro e w14 ⟨lh, fa14, ga14, fc14, gc14, rfl, hmd14, hb14⟩))
      have hHD := DBox.new w14 c lh 31
      have hbD := gal (gca (gca hb13 hb13b) hb14) (.cells #[.slice lh.ba c.blocks.length lh.bc, .slice lh.wa c.waiting.length lh.wc] 31)
      have hmdD := hmd14.grow (gal (gre w14) (.cells #[.slice lh.ba c.blocks.length lh.bc, .slice lh.wa c.waiting.length lh.wc] 31))
      generalize w14.alloc (.cells #[.slice lh.ba c.blocks.length lh.bc, .slice lh.wa c.waiting.length lh.wc] 31) = wD at hHD hbD hmdD ⊢
      generalize w14.heap.size = PH at hHD hmdD ⊢
      have hWD := hW12.grow hbD
      have hGD := hG12.grow hbD
      have hMD := hM12.grow hbD
      have hAD := hA12.trans (hbD.mono (by have := hA12.size; omega))
      have hBwD := gca hBw12 hbD
      clear x0 x1 hX12 hW12 hG12 hM12 hA12 hBw12 hb13 hb13b hb14 hmd14 hown13 hk13
      obtain ⟨_, x0, x1⟩ := id hHD
      obtain ⟨_, g0, g1⟩ := id hWD
      go_upto_region 34 with (go_at_call 10; refine (eqDisk_same c lh l0 _ hct.ok hmdD.at_ (hat.grow (by rw [hsAe]; exact hAD))).mono ?_; rintro e w15 ⟨rfl, hb15⟩)
      have hG15 := hGD.grow hb15
      have hM15 := hMD.grow hb15
      have hBw15 := gca hBwD hb15
      clear x0 x1 g0 g1 hWD hGD hMD hAD hBwD hmdD hHD
      obtain ⟨_, x0, x1⟩ := id hG15
      go_wp2_with (go_at_call 14; rw [show (1 : Int) = ((1 : Nat) : Int) by rfl]; refine (heldDisk_any c lg 1 sB PG fa ga fc gc _ hct.small hmc hM15).mono ?_; rintro e w16 ⟨rfl, hb16⟩; rw [← hme.out])
      go_ret
      exact ⟨rfl, gca hBw15 hb16⟩
    · have hle2 : Hid (leftBy (1048576 - d.sz) ((ops.length : Int) + szOs ops) = -1) := leftBy_neg (by omega)
      go_enter Try.func3, Try.ntmps3
      go_wp2_with (first
        | (go_at_call 4; refine (szDisk_any d l _ _ hd (by decide) (by decide) (ha.grow hA0)).mono ?_; rintro e w1 ⟨rfl, hb1⟩; rw [hle1.out])
        | (go_at_call 5; refine (szOpS_any oa oc ops _ _ hok.len (fun v hv => (hok.by_ v hv).len) (by omega) (by omega) (hoa.grow (gca hA0 hb1))).mono ?_; rintro e w1b ⟨rfl, hb1b⟩; rw [hle2.out]))
      go_ret
      exact ⟨rfl, gca (gca hA0 hb1) hb1b⟩
  · have hle1 : Hid (leftBy 1048576 d.sz = -1) := leftBy_neg (by omega)
    go_enter Try.func3, Try.ntmps3
    go_wp2_with (go_at_call 4; refine (szDisk_any d l _ _ hd (by decide) (by decide) (ha.grow hA0)).mono ?_; rintro e w1 ⟨rfl, hb1⟩; rw [hle1.out])
    go_ret
    exact ⟨rfl, gca hA0 hb1⟩

end Go.Proofs.Ythjddpkegooobac

/-
  OPEND: what disks that come in read as. Own work.
-/
namespace Go.Proofs.Ythjddpkegooobac
open Go.RowKit Go.ChangeShapes Go.WideShapes Go.Deep

set_option maxRecDepth 100000 in
theorem dcellsInt : Try.prog.cellsOf 3 = 1 := by kernel_rfl
theorem dcellsU8 : Try.prog.cellsOf 5 = 1 := by kernel_rfl
theorem dcellsBytes : Try.prog.cellsOf 44 = 1 := by kernel_rfl
theorem dcellsWrite : Try.prog.cellsOf 69 = 2 := by kernel_rfl
theorem dcellsBlks : Try.prog.cellsOf 22 = 1 := by kernel_rfl
theorem dcellsWrites : Try.prog.cellsOf 23 = 1 := by kernel_rfl
theorem dcellsDisk : Try.prog.cellsOf 25 = 2 := by kernel_rfl

set_option maxRecDepth 100000 in
theorem di64_of_wf {n : Int} (h : (Lit.int .i64 n).wf = true) : I64 n := by
  have h := bounds_i64 h
  unfold I64
  omega
theorem dbyte_of_wf {x : Int} (h : (Lit.int .u8 x).wf = true) : 0 ≤ x ∧ x < 256 := by
  simp [Lit.wf, IntKind.min, IntKind.max, IntKind.signed, IntKind.bits] at h
  omega

section
variable {H : Type} {enc : TypeId × Value → H} {w : World} {base : Nat} {spare : Nat → Bool} {held : Bool}

set_option maxRecDepth 100000 in
/-- a list out of a family -/
theorem dlist_of {α : Type} [Inhabited α] {n : Nat} {p : Nat → α → Prop} (h : ∀ i, i < n → ∃ x, p i x) : ∃ l : List α, l.length = n ∧ ∀ i, i < n → p i l[i]! := by
  obtain ⟨f, hf⟩ := choose_lt h
  refine ⟨(List.range n).map f, by simp, fun i hi => ?_⟩
  have e : ((List.range n).map f)[i]! = f i := by
    rw [getElem!_pos _ i (by simpa using hi)]; simp
  rw [e]; exact hf i hi

set_option maxRecDepth 100000 in
theorem dall_of_at {α : Type} [Inhabited α] {p : α → Prop} {l : List α} (h : ∀ i, i < l.length → p l[i]!) : ∀ x, x ∈ l → p x := fun x hx => by
  obtain ⟨i, hi, e⟩ := List.getElem_of_mem hx
  have := h i hi
  rwa [getElem!_pos l i hi, e] at this

set_option maxRecDepth 100000 in
/-- an address at which elements lie is a plain one -/
theorem dplain_addr {a : Addr} {k : Nat} {cs : List Value} (hk : 0 < k) (h : w.cells? base (a.add (0 * k)) k = some cs) : a = ⟨a.block, a.off, none⟩ := by
  obtain ⟨_, hlen, hc⟩ := World.cells?_some h
  have h0 := hc 0 hk
  obtain ⟨b, off, spot⟩ := a
  match cs, hlen with
  | c :: _, _ =>
    have hspot : spot = none := by
      have h0' : w.cell? ((Addr.add ⟨b, off, spot⟩ (0 * k)).add 0) = some c := by simpa using h0
      simpa [Addr.add] using World.cell?_spot h0'
    rw [hspot]
  | [], h => simp at h; omega

set_option maxRecDepth 100000 in
theorem dcells_plain {b off n : Nat} {cs : List Value} (h : w.cells? base ⟨b, off, none⟩ n = some cs) : cs.length = n ∧ ∀ i, i < n → w.cell? ⟨b, off + i, none⟩ = cs[i]? := by
  obtain ⟨_, hlen, hc⟩ := World.cells?_some h
  exact ⟨hlen, fun i hi => by rw [← add_plain]; exact hc i hi⟩

set_option maxRecDepth 100000 in
theorem openByts {fuel : Nat} {cs : List Value} {x : DataW H × List MemPlace} (h : DataW.trod enc Try.prog w base spare held fuel 44 cs = some x) :
    ∃ (a : Option Addr) (cap : Nat) (bs : List Nat), cs = [.slice a bs.length cap] ∧ BOk bs ∧ BytesAt w a bs := by
  rcases open_slice Try.underlying44 h with ⟨rfl, _⟩ | ⟨a, len, cap, m, n, D, Pl, rfl, hb, hl, hm, hmm, _, hx⟩
  · exact ⟨none, 0, [], rfl, ⟨Nat.zero_le _, fun v hv => (by cases hv)⟩, fun i hi => absurd hi (Nat.not_lt_zero _)⟩
  · rw [dcellsU8] at hx
    have hle : len ≤ m := by rw [hmm]; split <;> omega
    obtain ⟨bs, hvl, hvs⟩ := dlist_of (α := Nat) (n := len) (p := fun i v => v < 256 ∧ w.cells? base (a.add (i * 1)) 1 = some [.int .u8 (v : Int)]) (fun i hi => by
      obtain ⟨cs', h1, h2⟩ := hx i (by omega)
      obtain ⟨z, e, _, hw⟩ := DataW.trod_int Try.underlying5 h2
      have hz := dbyte_of_wf hw
      refine ⟨z.toNat, by omega, ?_⟩
      rw [h1, e, Int.toNat_of_nonneg hz.1])
    subst hvl
    refine ⟨some a, cap, bs, rfl, ⟨by omega, dall_of_at fun i hi => (hvs i hi).1⟩, fun i hi => ?_⟩
    have hp := dplain_addr (by decide) (hvs 0 (by omega)).2
    have h1 := (hvs i hi).2
    rw [hp, add_plain] at h1
    obtain ⟨_, h2⟩ := dcells_plain h1
    have h3 := h2 0 (by decide)
    simp only [Nat.add_zero, Nat.mul_one] at h3
    exact ⟨a.block, a.off, by rw [← hp], h3⟩

set_option maxRecDepth 100000 in
theorem openBlks {fuel : Nat} {cs : List Value} {x : DataW H × List MemPlace} (h : DataW.trod enc Try.prog w base spare held fuel 22 cs = some x) :
    ∃ (a : Option Addr) (cap : Nat) (ls : List (List Nat)), cs = [.slice a ls.length cap] ∧ ls.length ≤ maxLen ∧ (∀ b, b ∈ ls → BOk b) ∧ BlksAt w a ls := by
  rcases open_slice Try.underlying22 h with ⟨rfl, _⟩ | ⟨a, len, cap, m, n, D, Pl, rfl, hb, hl, hm, hmm, _, hx⟩
  · exact ⟨none, 0, [], rfl, Nat.zero_le _, fun v hv => (by cases hv), fun i hi => absurd hi (Nat.not_lt_zero _)⟩
  · rw [dcellsBytes] at hx
    have hle : len ≤ m := by rw [hmm]; split <;> omega
    obtain ⟨ls, hvl, hvs⟩ := dlist_of (α := List Nat) (n := len) (p := fun i b => BOk b ∧ ∃ a' cap', w.cells? base (a.add (i * 1)) 1 = some [.slice a' b.length cap'] ∧ BytesAt w a' b) (fun i hi => by
      obtain ⟨cs', h1, h2⟩ := hx i (by omega)
      obtain ⟨a', cap', b, e, hok, hva⟩ := openByts h2
      exact ⟨b, hok, a', cap', by rw [h1, e], hva⟩)
    subst hvl
    refine ⟨some a, cap, ls, rfl, by omega, dall_of_at fun i hi => (hvs i hi).1, fun i hi => ?_⟩
    obtain ⟨_, _, _, hp0, _⟩ := hvs 0 (by omega)
    have hp := dplain_addr (by decide) hp0
    obtain ⟨_, a', cap', h1, hva⟩ := hvs i hi
    rw [hp, add_plain] at h1
    obtain ⟨_, h2⟩ := dcells_plain h1
    have h3 := h2 0 (by decide)
    simp only [Nat.add_zero, Nat.mul_one] at h3
    exact ⟨a.block, a.off, a', cap', by rw [← hp], h3, hva⟩

set_option maxRecDepth 100000 in
theorem openWrite {fuel : Nat} {cs : List Value} {x : DataW H × List MemPlace} (h : DataW.trod enc Try.prog w base spare held fuel 69 cs = some x) :
    ∃ (n : DW) (a : Option Addr) (cap : Nat), I64 n.block ∧ BOk n.bytes ∧ cs = [.int .i64 n.block, .slice a n.bytes.length cap] ∧ BytesAt w a n.bytes := by
  obtain ⟨xs, n, _, rfl, hl, hlen, hf⟩ := DataW.trod_struct Try.underlying69 h
  rw [dcellsWrite] at hl
  match xs, hlen, cs, hl with
  | [y0, y1], _, [c0, c1], _ =>
    have h0 := hf 0 _ rfl
    have h1 := hf 1 _ rfl
    simp [dcellsInt, dcellsBytes] at h0 h1
    obtain ⟨k, e0, rfl, w0⟩ := DataW.trod_int Try.underlying3 h0
    obtain ⟨a, cap, vs, e1, hok1, ha1⟩ := openByts h1
    simp at e0 e1
    subst e0 e1
    exact ⟨⟨k, vs⟩, a, cap, di64_of_wf w0, hok1, rfl, ha1⟩

set_option maxRecDepth 100000 in
theorem openWrites {fuel : Nat} {cs : List Value} {x : DataW H × List MemPlace} (h : DataW.trod enc Try.prog w base spare held fuel 23 cs = some x) :
    ∃ (a : Option Addr) (cap : Nat) (ls : List DW), cs = [.slice a ls.length cap] ∧ ls.length ≤ maxLen ∧ (∀ b, b ∈ ls → I64 b.block ∧ BOk b.bytes) ∧ WrsAt w a ls := by
  rcases open_slice Try.underlying23 h with ⟨rfl, _⟩ | ⟨a, len, cap, m, n, D, Pl, rfl, hb, hl, hm, hmm, _, hx⟩
  · exact ⟨none, 0, [], rfl, Nat.zero_le _, fun v hv => (by cases hv), fun i hi => absurd hi (Nat.not_lt_zero _)⟩
  · rw [dcellsWrite] at hx
    have hle : len ≤ m := by rw [hmm]; split <;> omega
    obtain ⟨ls, hvl, hvs⟩ := dlist_of (α := DW) (n := len) (p := fun i b => (I64 b.block ∧ BOk b.bytes) ∧ ∃ a' cap', w.cells? base (a.add (i * 2)) 2 = some [.int .i64 b.block, .slice a' b.bytes.length cap'] ∧ BytesAt w a' b.bytes) (fun i hi => by
      obtain ⟨cs', h1, h2⟩ := hx i (by omega)
      obtain ⟨b, a', cap', hi1, hok, e, hva⟩ := openWrite h2
      exact ⟨b, ⟨hi1, hok⟩, a', cap', by rw [h1, e], hva⟩)
    subst hvl
    refine ⟨some a, cap, ls, rfl, by omega, dall_of_at fun i hi => (hvs i hi).1, fun i hi => ?_⟩
    obtain ⟨_, _, _, hp0, _⟩ := hvs 0 (by omega)
    have hp := dplain_addr (by decide) hp0
    obtain ⟨_, a', cap', h1, hva⟩ := hvs i hi
    rw [hp, add_plain] at h1
    obtain ⟨_, h2⟩ := dcells_plain h1
    exact ⟨a.block, a.off, a', cap', by rw [← hp], h2 0 (by decide), h2 1 (by decide), hva⟩

set_option maxRecDepth 100000 in
theorem openDisk {v : Value} {d : DataW H} {ps : List MemPlace} {r : Reach} {bs : Nat} (hv : Value.okWide Try.prog w r bs 25 v) (h : DataW.Trod enc Try.prog w base spare held 25 v d ps) :
    ∃ (g : DD) (l : DL), g.Ok ∧ v = g.val l ∧ DAt w l g := by
  unfold Value.okWide at hv
  rw [Try.underlying25] at hv
  obtain ⟨cs, rfl, hsz, _⟩ := hv
  obtain ⟨fuel, h⟩ := h
  obtain ⟨xs, n, _, _, hl, hlen, hf⟩ := DataW.trod_struct Try.underlying25 h
  rw [dcellsDisk] at hsz
  obtain ⟨l⟩ := cs
  match xs, hlen, l, hsz with
  | [y0, y1], _, [c0, c1], _ =>
    have h0 := hf 0 _ rfl
    have h1 := hf 1 _ rfl
    simp [dcellsBlks, dcellsWrites, Value.cells] at h0 h1
    obtain ⟨a, cap, ls, e0, hl0, hb0, ha0⟩ := openBlks h0
    obtain ⟨a', cap', ws, e1, hl1, hw1, ha1⟩ := openWrites h1
    simp at e0 e1
    subst e0 e1
    exact ⟨⟨ls, ws⟩, ⟨a, cap, a', cap'⟩, ⟨hl0, hb0, hl1, fun x hx => (hw1 x hx).1, fun x hx => (hw1 x hx).2⟩, rfl, ha0, ha1⟩

end
end Go.Proofs.Ythjddpkegooobac

/-
  OPENO: what ops that come in read as. Own work.
-/
namespace Go.Proofs.Ythjddpkegooobac
open Go.RowKit Go.ChangeShapes Go.WideShapes Go.Deep

set_option maxRecDepth 100000 in
theorem ocellsBool : Try.prog.cellsOf 4 = 1 := by kernel_rfl
theorem ocellsOp : Try.prog.cellsOf 46 = 3 := by kernel_rfl

section
variable {H : Type} {enc : TypeId × Value → H} {w : World} {base : Nat} {spare : Nat → Bool} {held : Bool}

set_option maxRecDepth 100000 in
theorem openOp {fuel : Nat} {cs : List Value} {x : DataW H × List MemPlace} (h : DataW.trod enc Try.prog w base spare held fuel 46 cs = some x) :
    ∃ (n : OP) (a : Option Addr) (cap : Nat), I64 n.block ∧ BOk n.bytes ∧ cs = [.bool n.sync, .int .i64 n.block, .slice a n.bytes.length cap] ∧ BytesAt w a n.bytes := by
  obtain ⟨xs, n, _, rfl, hl, hlen, hf⟩ := DataW.trod_struct Try.underlying46 h
  rw [ocellsOp] at hl
  match xs, hlen, cs, hl with
  | [y0, y1, y2], _, [c0, c1, c2], _ =>
    have h0 := hf 0 _ rfl
    have h1 := hf 1 _ rfl
    have h2 := hf 2 _ rfl
    simp [dcellsInt, dcellsBytes, ocellsBool] at h0 h1 h2
    obtain ⟨z, e0, _⟩ := DataW.trod_bool Try.underlying4 h0
    obtain ⟨k, e1, rfl, w0⟩ := DataW.trod_int Try.underlying3 h1
    obtain ⟨a, cap, vs, e2, hok2, ha2⟩ := openByts h2
    simp at e0 e1 e2
    subst e0 e1 e2
    exact ⟨⟨z, k, vs⟩, a, cap, di64_of_wf w0, hok2, rfl, ha2⟩

set_option maxRecDepth 100000 in
theorem openOps {v : Value} {d : DataW H} {ps : List MemPlace} {r : Reach} {bd : Nat} (hv : Value.okWide Try.prog w r bd 26 v) (h : DataW.Trod enc Try.prog w base spare held 26 v d ps) :
    ∃ (ls : List OP) (a : Option Addr) (cap : Nat), v = .slice a ls.length cap ∧ OpsOk ls ∧ OpsAt w a ls := by
  obtain ⟨fuel, h⟩ := h
  have hcs : v.cells.toList = [v] := by
    cases v <;> first | rfl | (exfalso; simp [Value.okWide, Cell.okWide, Cell.ok, Try.underlying26] at hv)
  rw [hcs] at h
  rcases open_slice Try.underlying26 h with ⟨e, _⟩ | ⟨a, len, cap, m, n, D, Pl, e, hb, hl, hm, hmm, _, hx⟩
  · simp at e
    exact ⟨[], none, 0, e, ⟨Nat.zero_le _, fun x hx => (by cases hx), fun x hx => (by cases hx)⟩, fun i hi => absurd hi (Nat.not_lt_zero _)⟩
  · simp at e
    rw [ocellsOp] at hx
    have hle : len ≤ m := by rw [hmm]; split <;> omega
    obtain ⟨ls, hvl, hvs⟩ := dlist_of (α := OP) (n := len) (p := fun i b => (I64 b.block ∧ BOk b.bytes) ∧ ∃ a' cap', w.cells? base (a.add (i * 3)) 3 = some [.bool b.sync, .int .i64 b.block, .slice a' b.bytes.length cap'] ∧ BytesAt w a' b.bytes) (fun i hi => by
      obtain ⟨cs', h1, h2⟩ := hx i (by omega)
      obtain ⟨b, a', cap', hi1, hok, e, hva⟩ := openOp h2
      exact ⟨b, ⟨hi1, hok⟩, a', cap', by rw [h1, e], hva⟩)
    subst hvl
    refine ⟨ls, some a, cap, e, ⟨by omega, dall_of_at fun i hi => (hvs i hi).1.1, dall_of_at fun i hi => (hvs i hi).1.2⟩, fun i hi => ?_⟩
    obtain ⟨_, _, _, hp0, _⟩ := hvs 0 (by omega)
    have hp := dplain_addr (by decide) hp0
    obtain ⟨_, a', cap', h1, hva⟩ := hvs i hi
    rw [hp, add_plain] at h1
    obtain ⟨_, h2⟩ := dcells_plain h1
    exact ⟨a.block, a.off, a', cap', by rw [← hp], h2 0 (by decide), h2 1 (by decide), h2 2 (by decide), hva⟩

set_option maxRecDepth 100000 in
theorem openIntO {v : Value} {d : DataW H} {ps : List MemPlace} {r : Reach} {bd : Nat} (hv : Value.okWide Try.prog w r bd 3 v) (h : DataW.Trod enc Try.prog w base spare held 3 v d ps) :
    ∃ k : Int, v = .int .i64 k ∧ I64 k := by
  obtain ⟨fuel, h⟩ := h
  have hcs : v.cells.toList = [v] := by
    cases v <;> first | rfl | (exfalso; simp [Value.okWide, Cell.okWide, Cell.ok, Try.underlying3] at hv)
  rw [hcs] at h
  obtain ⟨k, e, _, hw⟩ := DataW.trod_int Try.underlying3 h
  simp at e
  exact ⟨k, e, di64_of_wf hw⟩

end
end Go.Proofs.Ythjddpkegooobac

/-
  DONE: the row of FnExactApply, proved. Own work.
-/
namespace Go.Proofs.Ythjddpkegooobac
open Go.ChangeShapes Go.WideShapes Go.ChangeAt Go.RowKit

set_option maxRecDepth 100000 in
theorem ownApply : ownKnob Try.prog.godebug = none := by kernel_rfl
theorem laidOutApply : laidOutB Try.prog = true := by kernel_rfl

set_option maxRecDepth 100000 in
theorem liftedApply (os : Os) (started : os.Started) (H : Type) (enc : TypeId × Value → H) :
    ReturnsInHanded {} Try.checked os 3 .any (Rows.fnExactApplySpec.pre6 enc Try.prog Try.f3 Rows.fnExactApplyRow.domain false) (Rows.fnExactApplySpec.post enc Try.prog Try.f3 false true false false) := by
  refine returnsInHanded_of_change (C := Try.checked) ownApply started (by kernel_rfl) Try.func3
    (ChangeSpec.witness6 (enc := enc) (C := Try.checked) false ⟨#[], #[.agg #[.slice none 0 0, .slice none 0 0], .slice none 0 0, .int .i64 0], []⟩ 8 (by kernel_rfl) (by kernel_rfl) (by kernel_rfl) (by kernel_rfl)) ?_
  intro W base args ds gs before hval0 hW hcnd _
  have hval : ∀ (j : Nat) t v, Try.f3.params[j]? = some t → args[j]? = some v → Value.okWide Try.prog W .any base t v := hval0
  have hW' := hW
  obtain ⟨p, q, hA0, hV, rfl, hfz, hnd⟩ := hW
  have hA : DataW.TrodAll enc Try.prog W 0 (fun _ => true) true Try.f3.params.toList args.toList ds p := hA0
  rw [Try.params3] at hA hval
  obtain ⟨v0, vs0, d0, ds0, p0, q0, hargs, rfl, rfl, h0, r0⟩ := trodAll_cons hA
  obtain ⟨v1, vs1, d1, ds1, p1, q1, hargs1, rfl, rfl, h1, r1⟩ := trodAll_cons r0
  obtain ⟨v2, vs2, d2, ds2, p2, q2, hargs2, rfl, rfl, h2, r2⟩ := trodAll_cons r1
  obtain ⟨rfl, rfl, rfl⟩ := trodAll_nil r2
  subst hargs2
  subst hargs1
  obtain rfl : args = #[v0, v1, v2] := by cases args; simp_all
  obtain ⟨rfl, rfl⟩ := trodVars_none hV
  have k0 := h0
  have k1 := h1
  have k2 := h2
  have lt0 : ∀ x ∈ p0, x.block < W.heap.size := by obtain ⟨m, hm⟩ := k0; exact DataW.trod_lt m _ _ _ hm
  have lt1 : ∀ x ∈ p1, x.block < W.heap.size := by obtain ⟨m, hm⟩ := k1; exact DataW.trod_lt m _ _ _ hm
  have lt2 : ∀ x ∈ p2, x.block < W.heap.size := by obtain ⟨m, hm⟩ := k2; exact DataW.trod_lt m _ _ _ hm
  obtain ⟨g, l, hg, rfl, ha⟩ := openDisk (hval 0 25 v0 rfl rfl) h0
  obtain ⟨ops, oa, oc, rfl, hok, hoa⟩ := openOps (hval 1 26 v1 rfl rfl) h1
  obtain ⟨b, rfl, hbi⟩ := openIntO (hval 2 3 v2 rfl rfl) h2
  clear hA0 hval0
  refine (lawApply g l oa ops oc b W hg ha hok hoa hbi).mono fun e W' ⟨he, bel⟩ => ?_
  subst he
  exact ⟨_, rfl, _, _, _, [], _, [], hW', trodAll_mk1 (shut_bool Try.underlying4 _), (trodAll_cons_mk (Below.trod laidOutApply (by kernel_rfl) (of_decide_eq_true (by kernel_rfl)) k0 bel lt0) (trodAll_cons_mk (Below.trod laidOutApply (by kernel_rfl) (of_decide_eq_true (by kernel_rfl)) k1 bel lt1) (trodAll_cons_mk (Below.trod laidOutApply (by kernel_rfl) (of_decide_eq_true (by kernel_rfl)) k2 bel lt2) trodAll_mk0))), rfl, bel.frame _, fun h => by cases h⟩

set_option maxRecDepth 100000 in
theorem apply_holds : Rows.FnExactApplySaid :=
  OpenClaim.holds_of_wide 3 Try.f3 rfl rfl rfl rfl rfl rfl rfl ⟨rfl, rfl, rfl, rfl, rfl⟩ rfl rfl rfl rfl rfl (by kernel_rfl) Try.func3 (by kernel_rfl)
    (of_decide_eq_true (by kernel_rfl)) (by unfold Func.isWrapper; first | (rw [if_pos (by decide +kernel)]; kernel_rfl) | (rw [if_neg (by decide +kernel)]; exact ⟨rfl, rfl⟩))
    (fun os started H enc _ => liftedApply os started H enc)

end Go.Proofs.Ythjddpkegooobac
