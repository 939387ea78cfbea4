import Derived.Test.YthjddpkegooobacGreatDoorPartZ
namespace Go.Proofs.YthjddpkegooobacGreatDoor
open Go.RowKit
set_option maxRecDepth 100000
set_option maxHeartbeats 8000000
theorem do_lay1 (base : Nat) (d : DD) (l : DL) (lb : List LB) (lw : List LW) (x : AC) (ga : Option Addr) (gc : Nat) (ka : Option Addr) (kc : Nat) (w : World) (hbw : base ≤ w.heap.size) (hG : GoodD d) (hS : SD base w l d lb lw) (hg : x.graph.Ok) (hga : NodesAt w.heap.size w ga x.graph.nodes) (_hka : BoolsAt w ka x.kept) (_hkl : x.kept.length ≤ maxLen) (hok : x.okA = true) (ho : Hid (x.op = 1)) (hp0 : Hid (packB x.graph ≠ [])) : Calls Tryz.prog 41 #[d.val l, x.val ga gc ka kc] w (SDo base (d.laidC x, ⟨0, (d.laidC x).newestOf.gen, zeroG⟩) w) := by
 have hf := DD.fit hG.ok
 have hr := newest_rng hf
 obtain ⟨f0, hf1, hf2, hf3, hf4⟩ := laid_some hG x
 have hCG := laidC_good hG x
 obtain ⟨c, hc⟩ := hid_ex (d.laidC x)
 rw [← hc.out] at hCG ⊢
 obtain ⟨p, hp⟩ := hid_ex (packB x.graph)
 have hpl : p.length ≤ 4096 := by rw [hp.out]; exact packB_lenK x.graph
 have hpb : ∀ z, z ∈ p → z < 256 := by rw [hp.out]; exact packB_bytesK x.graph
 have hpne : ((p.length : Int) == 0) = false := by
  rw [beq_eq_false_iff_ne]
  intro e
  exact hp0.out (by rw [← hp.out]; exact List.eq_nil_of_length_eq_zero (by omega))
 have hoo := lay_opsOk d ⟨hr.g.2, hr.g.1⟩ hpb hpl
 rw [← hp.out] at hf1
 obtain ⟨ops, hops⟩ := hid_ex (d.lay p)
 rw [← hops.out] at hoo hf1
 obtain ⟨n, hn⟩ := hid_ex (x.cutN ops.length)
 have hnl : n ≤ ops.length := by rw [hn.out]; exact x.cutN_le _
 rw [← hn.out] at hf1
 have hf1' : Hid _ := hf1
 have hce : Hid (c = f0) := by show _ = _; rw [hc.out]; unfold DD.laidC; rw [hf2, if_neg (by rw [ho.out]; decide)]
 clear hf1 hf2
 have hok' : Hid _ := hok
 clear hok
 have hB := do_boxes d l x ga gc ka kc w
 go_enter Tryz.func41, Tryz.ntmps41
 go_upto_region 1 with fail
 generalize (((w.alloc (.cells #[.slice l.ba d.blocks.length l.bc, .slice l.wa d.waiting.length l.wc] 37)).alloc (.cells #[.int .i64 x.op, .int .i64 x.graph.root.kind, .int .i64 x.graph.root.num, .string x.graph.root.text, .int .i64 x.graph.root.node, .slice ga x.graph.nodes.length gc, .int .i64 x.steps, .slice ka x.kept.length kc, .int .i64 x.block, .int .i64 x.byte, .int .i64 x.xor] 87)).alloc (.cells #[.slice none 0 0, .slice none 0 0] 37)).alloc (.cells #[.int .i64 0, .int .i64 0, .int .i64 0, .int .i64 0, .string ⟨#[]⟩, .int .i64 0, .slice none 0 0] 33) = w1 at hB ⊢
 obtain ⟨hX, hY, hR, hT, hRd, hTd, hA, hs1⟩ := hB
 obtain ⟨p0, p1, p2, p3, p4, p5, p6, p7, p8, p9, p10⟩ := id hY
 simp only [Nat.zero_add] at p1 p2 p3 p4 p5 p6 p7 p8 p9 p10
 go_upto_region 3 with (go_at_call 71; refine (l5actOk_any x ga gc ka kc _).mono ?_; rintro e w2 ⟨rfl, hb2⟩; rw [hok'.out])
 have hX2 := hX.grow hb2
 have hY2 := hY.grow hb2
 have hR2 := hR.grow hb2
 have hT2 := hT.grow hb2
 have hRd2 := hRd.grow hb2
 have hTd2 := hTd.grow hb2
 have hA2 := gca hA hb2
 have hs2 := hb2.size
 clear p0 p1 p2 p3 p4 p5 p6 p7 p8 p9 p10 hX hY hR hT hRd hTd hA hb2
 obtain ⟨_, x0, x1⟩ := id hX2
 obtain ⟨p0, p1, p2, p3, p4, p5, p6, p7, p8, p9, p10⟩ := id hY2
 simp only [Nat.zero_add] at p1 p2 p3 p4 p5 p6 p7 p8 p9 p10
 have b3 : (x.op == 3) = false := by rw [ho.out]; rfl
 have b4 : (x.op == 4) = false := by rw [ho.out]; rfl
 have b2 : (x.op == 2) = false := by rw [ho.out]; rfl
 go_upto_region 14 with (first
  | (go_at_call 73; refine (specPack_any ga gc x.graph _ hg (hga.grow hA2)).mono ?_; rw [← hp.out]; rintro e w3 ⟨oa, oc, rfl, hM3, hb3⟩; obtain ⟨_, x0, x1⟩ := hX2.grow hb3)
  | (go_at_call 74; refine (l4ops_any d l oa p oc _ hf hG.o (hS.grow (gca hA2 hb3)).at_ (owns_bytesO hM3) hpb hpl).mono ?_; rw [← hops.out]; rintro e w4 ⟨pa, pc, lo, rfl, hlo, hSO, hb4⟩))
 have hB4 := gca hb3 hb4
 have hoat := hSO.at_
 rw [hlo] at hoat
 clear p0 p1 p2 p3 p4 p5 p6 p7 p8 p9 p10 x0 x1 hM3 hSO
 obtain ⟨p0, p1, p2, p3, p4, p5, p6, p7, p8, p9, p10⟩ := hY2.grow hB4
 simp only [Nat.zero_add] at p1 p2 p3 p4 p5 p6 p7 p8 p9 p10
 have hno : n = ops.length := by rw [hn.out]; exact if_neg (fun h => by have := h.1; rw [ho.out] at this; cases this)
 obtain ⟨_, x0, x1⟩ := hX2.grow hB4
 go_upto_region 17 with (go_at_call 75; refine (l4apply_any d l pa ops pc n _ _ (by rw [hno]) hG.ok hG.o (hS.grow (gca hA2 hB4)).at_ hoo hoat hnl).mono ?_; rintro e w5 ⟨lb5, lw5, ba5, bc5, wa5, wc5, f, b, rfl, hap, hfo, hmb, hmw, hsb, hsw, hb5⟩)
 have hbf : b = true ∧ f = f0 := by
  have h1 := hap.out
  rw [hf1'.out] at h1
  cases b with
  | true => exact ⟨rfl, (Option.some.inj h1).symm⟩
  | false => cases h1
 obtain ⟨rfl, rfl⟩ := hbf
 have hs4 := hB4.size
 have hSD5 : SD w2.heap.size w5 ⟨ba5, bc5, wa5, wc5⟩ f lb5 lw5 := ⟨hmb, hmw, hsb.le hs4, hsw.le hs4⟩
 have hV6 := VB.new w5 (.slice ba5 f.blocks.length bc5) (.slice wa5 f.waiting.length wc5) 37
 have hVd6 : IsD (w5.alloc (.cells #[.slice ba5 f.blocks.length bc5, .slice wa5 f.waiting.length wc5] 37)) w5.heap.size := ⟨_, blk_new_at _ _ _ rfl⟩
 have hSD6 := hSD5.grow (gal (gre w5) (.cells #[.slice ba5 f.blocks.length bc5, .slice wa5 f.waiting.length wc5] 37))
 have hB6 := gal (gca hB4 hb5) (.cells #[.slice ba5 f.blocks.length bc5, .slice wa5 f.waiting.length wc5] 37)
 have hV2 : w2.heap.size ≤ w5.heap.size := (gca hB4 hb5).size
 generalize w5.alloc (.cells #[.slice ba5 f.blocks.length bc5, .slice wa5 f.waiting.length wc5] 37) = w6 at hV6 hVd6 hSD6 hB6 ⊢
 generalize w5.heap.size = V at hV6 hVd6 hV2 ⊢
 clear hSD5 hmb hmw hsb hsw hb5 x0 x1 hap hfo hB4 hoat hb3 hb4 p0 p1 p2 p3 p4 p5 p6 p7 p8 p9 p10
 obtain ⟨p0, p1, p2, p3, p4, p5, p6, p7, p8, p9, p10⟩ := hY2.grow hB6
 simp only [Nat.zero_add] at p1 p2 p3 p4 p5 p6 p7 p8 p9 p10
 obtain ⟨v0, v1, vf⟩ := id hV6
 obtain rfl : c = f := hce.out
 go_upto_region 19 with fail
 have hV8 := hV6
 have hSD8 := hSD6
 have hB8 := hB6
 clear hV6 hVd6 hSD6 hB6 v0 v1 vf p0 p1 p2 p3 p4 p5 p6 p7 p8 p9 p10
 obtain ⟨k, hk⟩ := hid_ex c.newestOf
 rw [← hk.out]
 obtain ⟨v0, v1, vf⟩ := id hV8
 go_upto_region 20 with (go_at_call 26; refine (l4newest_any c ⟨ba5, bc5, wa5, wc5⟩ _ (DD.fit hCG.ok) hCG.o hSD8.at_).mono ?_; rw [← hk.out]; rintro e w9 ⟨oa9, oc9, rfl, hcp9, hbt9, hlo9, hb9⟩)
 have hQ := V4.new_at w9 (.bool k.ok) (.int .i64 k.gen) (.int .i64 k.slot) (.slice oa9 k.bytes.length oc9) 60 w9.heap.size rfl
 have hbA := gal hb9 (.cells #[.bool k.ok, .int .i64 k.gen, .int .i64 k.slot, .slice oa9 k.bytes.length oc9] 60)
 have hQs := (gca hB8 hb9).size
 generalize w9.alloc (.cells #[.bool k.ok, .int .i64 k.gen, .int .i64 k.slot, .slice oa9 k.bytes.length oc9] 60) = wA at hQ hbA ⊢
 generalize w9.heap.size = Q at hQ hQs ⊢
 have hdr : Below wA.heap.size wA wA.drew := gdr (gre _)
 have hBA := gdr (gca hB8 hbA)
 have hVA := (hV8.grow hbA).grow hdr
 have hQA := hQ.grow hdr
 have hSDA := (hSD8.grow hbA).grow hdr
 have hRA := hR2.grow hBA
 have hTA := hT2.grow hBA
 have hRdA := hRd2.grow hBA
 have hTdA := hTd2.grow hBA
 have hAA := gca hA2 hBA
 have hQV : w.heap.size + 1 + 1 < Q ∧ w.heap.size + 1 + 1 + 1 < Q := by omega
 clear v0 v1 vf
 refine wp_regionU (fun u => u.cell? ⟨V, 0, none⟩ = some (.slice ba5 c.blocks.length bc5) ∧ u.cell? ⟨V, 1, none⟩ = some (.slice wa5 c.waiting.length wc5) ∧ u.cell? ⟨Q, 1, none⟩ = some (.int .i64 k.gen)) 99 (by kernel_rfl) ⟨hVA.v0, hVA.v1, hQA.c1⟩ (fun hS0 => ?_)
 generalize wA.drew = wD at hBA hVA hQA hSDA hRA hTA hRdA hTdA hAA hS0 ⊢
 refine anyU_tk (i := 0) rfl hS0 (fun u hSu => by obtain ⟨s0, s1, s2⟩ := hSu; go_simp <;> with_reducible rfl) ?_
 refine anyU_tk (i := 1) rfl hS0 (fun u hSu => by obtain ⟨s0, s1, s2⟩ := hSu; go_simp <;> with_reducible rfl) ?_
 refine anyU_tk (i := 2) rfl hS0 (fun u hSu => by obtain ⟨s0, s1, s2⟩ := hSu; go_simp <;> with_reducible rfl) ?_
 refine anyU_tk (i := 3) rfl hS0 (fun u hSu => by obtain ⟨s0, s1, s2⟩ := hSu; go_simp <;> with_reducible rfl) ?_
 simp only [Act.put, List.getElem_toArray, List.getElem_cons_zero, List.getElem_cons_succ, List.setIfInBounds_toArray, List.set_cons_zero, List.set_cons_succ]
 obtain ⟨z0, z1, zf⟩ := id hRA
 obtain ⟨_, _, K2⟩ := ret2 (A := .slice ba5 c.blocks.length bc5) (B := .slice wa5 c.waiting.length wc5) z0 z1
 refine anyU_one (i := 4) (by kernel_rfl) rfl (fun K hK => ?_)
 go_simp
 refine hK.out _ _ ⟨K2.cell hS0.1 (by omega), K2.cell hS0.2.1 (by omega), K2.cell hS0.2.2 (by omega)⟩ ?_
 clear hK
 obtain ⟨c0, c1, hV9, hK9⟩ := do_ret hRA hTA (by omega) (.slice ba5 c.blocks.length bc5) (.slice wa5 c.waiting.length wc5) (.int .i64 0) (.int .i64 k.gen) (.int .i64 0) (.int .i64 0) (.string ⟨#[]⟩) (.int .i64 0) (.slice none 0 0)
 have hT4 := hTA.kept K2 (by omega)
 obtain ⟨_, u0, u1, u2, u3, u4, u5, u6, uf_⟩ := id hT4
 refine anyU_one (i := 5) (by kernel_rfl) rfl (fun K hK => ?_)
 go_simp
 refine hK.out _ _ ⟨hK9.cell hS0.1 (by omega), hK9.cell hS0.2.1 (by omega), hK9.cell hS0.2.2 (by omega)⟩ ?_
 clear hK u0 u1 u2 u3 u4 u5 u6 hT4 K2
 generalize (((((((((wD.setCell ⟨w.heap.size + 1 + 1, 0, none⟩ (.slice ba5 c.blocks.length bc5)).setCell ⟨w.heap.size + 1 + 1, 1, none⟩ (.slice wa5 c.waiting.length wc5)).setCell ⟨w.heap.size + 1 + 1 + 1, 0, none⟩ (.int .i64 0)).setCell ⟨w.heap.size + 1 + 1 + 1, 1, none⟩ (.int .i64 k.gen)).setCell ⟨w.heap.size + 1 + 1 + 1, 2, none⟩ (.int .i64 0)).setCell ⟨w.heap.size + 1 + 1 + 1, 3, none⟩ (.int .i64 0)).setCell ⟨w.heap.size + 1 + 1 + 1, 4, none⟩ (.string ⟨#[]⟩)).setCell ⟨w.heap.size + 1 + 1 + 1, 5, none⟩ (.int .i64 0)).setCell ⟨w.heap.size + 1 + 1 + 1, 6, none⟩ (.slice none 0 0)) = wE at c0 c1 hV9 hK9 ⊢
 refine anyU_done (by kernel_rfl) ?_
 go_wp2
 obtain ⟨_, q0, q1, q2, q3, q4, q5, q6, _⟩ := id hV9
 exact bodyPost_ret (v := .tuple #[c.val ⟨ba5, bc5, wa5, wc5⟩, (TK.mk 0 k.gen zeroG).val none 0]) (by simp [results, Tryz.results41, go_sem, c0, c1, q0, q1, q2, q3, q4, q5, q6, zeroG]) rfl ⟨lb5, lw5, ⟨ba5, bc5, wa5, wc5⟩, none, 0, by rw [hk.out], do_after (hSDA.le (by have := hA2.size; omega)) hK9 hRdA hTdA, fun _ _ i hi => absurd hi (Nat.not_lt_zero _), hAA.trans (hK9.below hAA.size (fun z hz e => by omega))⟩
theorem do_lay2 (base : Nat) (d : DD) (l : DL) (lb : List LB) (lw : List LW) (x : AC) (ga : Option Addr) (gc : Nat) (ka : Option Addr) (kc : Nat) (w : World) (hbw : base ≤ w.heap.size) (hG : GoodD d) (hS : SD base w l d lb lw) (hg : x.graph.Ok) (hga : NodesAt w.heap.size w ga x.graph.nodes) (hka : BoolsAt w ka x.kept) (hkl : x.kept.length ≤ maxLen) (hok : x.okA = true) (ho : Hid (x.op = 2)) (hp0 : Hid (packB x.graph ≠ [])) : Calls Tryz.prog 41 #[d.val l, x.val ga gc ka kc] w (SDo base (d.laidC x, ⟨0, (d.laidC x).newestOf.gen, zeroG⟩) w) := by
 have hf := DD.fit hG.ok
 have hr := newest_rng hf
 obtain ⟨f0, hf1, hf2, hf3, hf4⟩ := laid_some hG x
 have hCG := laidC_good hG x
 obtain ⟨c, hc⟩ := hid_ex (d.laidC x)
 rw [← hc.out] at hCG ⊢
 obtain ⟨p, hp⟩ := hid_ex (packB x.graph)
 have hpl : p.length ≤ 4096 := by rw [hp.out]; exact packB_lenK x.graph
 have hpb : ∀ z, z ∈ p → z < 256 := by rw [hp.out]; exact packB_bytesK x.graph
 have hpne : ((p.length : Int) == 0) = false := by
  rw [beq_eq_false_iff_ne]
  intro e
  exact hp0.out (by rw [← hp.out]; exact List.eq_nil_of_length_eq_zero (by omega))
 have hoo := lay_opsOk d ⟨hr.g.2, hr.g.1⟩ hpb hpl
 rw [← hp.out] at hf1
 obtain ⟨ops, hops⟩ := hid_ex (d.lay p)
 rw [← hops.out] at hoo hf1
 obtain ⟨n, hn⟩ := hid_ex (x.cutN ops.length)
 have hnl : n ≤ ops.length := by rw [hn.out]; exact x.cutN_le _
 rw [← hn.out] at hf1
 have hf1' : Hid _ := hf1
 have hce : Hid (c = f0.settle (keepOf x.kept)) := by show _ = _; rw [hc.out]; unfold DD.laidC; rw [hf2, if_pos ho.out]
 clear hf1 hf2
 have hok' : Hid _ := hok
 clear hok
 have hB := do_boxes d l x ga gc ka kc w
 go_enter Tryz.func41, Tryz.ntmps41
 go_upto_region 1 with fail
 generalize (((w.alloc (.cells #[.slice l.ba d.blocks.length l.bc, .slice l.wa d.waiting.length l.wc] 37)).alloc (.cells #[.int .i64 x.op, .int .i64 x.graph.root.kind, .int .i64 x.graph.root.num, .string x.graph.root.text, .int .i64 x.graph.root.node, .slice ga x.graph.nodes.length gc, .int .i64 x.steps, .slice ka x.kept.length kc, .int .i64 x.block, .int .i64 x.byte, .int .i64 x.xor] 87)).alloc (.cells #[.slice none 0 0, .slice none 0 0] 37)).alloc (.cells #[.int .i64 0, .int .i64 0, .int .i64 0, .int .i64 0, .string ⟨#[]⟩, .int .i64 0, .slice none 0 0] 33) = w1 at hB ⊢
 obtain ⟨hX, hY, hR, hT, hRd, hTd, hA, hs1⟩ := hB
 obtain ⟨p0, p1, p2, p3, p4, p5, p6, p7, p8, p9, p10⟩ := id hY
 simp only [Nat.zero_add] at p1 p2 p3 p4 p5 p6 p7 p8 p9 p10
 go_upto_region 3 with (go_at_call 71; refine (l5actOk_any x ga gc ka kc _).mono ?_; rintro e w2 ⟨rfl, hb2⟩; rw [hok'.out])
 have hX2 := hX.grow hb2
 have hY2 := hY.grow hb2
 have hR2 := hR.grow hb2
 have hT2 := hT.grow hb2
 have hRd2 := hRd.grow hb2
 have hTd2 := hTd.grow hb2
 have hA2 := gca hA hb2
 have hs2 := hb2.size
 clear p0 p1 p2 p3 p4 p5 p6 p7 p8 p9 p10 hX hY hR hT hRd hTd hA hb2
 obtain ⟨_, x0, x1⟩ := id hX2
 obtain ⟨p0, p1, p2, p3, p4, p5, p6, p7, p8, p9, p10⟩ := id hY2
 simp only [Nat.zero_add] at p1 p2 p3 p4 p5 p6 p7 p8 p9 p10
 have b3 : (x.op == 3) = false := by rw [ho.out]; rfl
 have b4 : (x.op == 4) = false := by rw [ho.out]; rfl
 have b2 : (x.op == 2) = true := by rw [ho.out]; rfl
 go_upto_region 14 with (first
  | (go_at_call 73; refine (specPack_any ga gc x.graph _ hg (hga.grow hA2)).mono ?_; rw [← hp.out]; rintro e w3 ⟨oa, oc, rfl, hM3, hb3⟩; obtain ⟨_, x0, x1⟩ := hX2.grow hb3)
  | (go_at_call 74; refine (l4ops_any d l oa p oc _ hf hG.o (hS.grow (gca hA2 hb3)).at_ (owns_bytesO hM3) hpb hpl).mono ?_; rw [← hops.out]; rintro e w4 ⟨pa, pc, lo, rfl, hlo, hSO, hb4⟩))
 have hB4 := gca hb3 hb4
 have hoat := hSO.at_
 rw [hlo] at hoat
 clear p0 p1 p2 p3 p4 p5 p6 p7 p8 p9 p10 x0 x1 hM3 hSO
 obtain ⟨p0, p1, p2, p3, p4, p5, p6, p7, p8, p9, p10⟩ := hY2.grow hB4
 simp only [Nat.zero_add] at p1 p2 p3 p4 p5 p6 p7 p8 p9 p10
 go_upto_if 75 with fail
 go_cut [9] from 67 (fun v wc => v = .int .i64 (n : Int) ∧ wc = w4)
 case first =>
  by_cases e3 : x.steps < (ops.length : Int)
  ·
   go_wp2
   go_meet
   case rel => exact ⟨by rw [hn.out]; unfold AC.cutN; rw [if_pos ⟨ho.out, e3⟩, Int.toNat_of_nonneg (okA_op2 hok'.out ho.out).1], rfl⟩
  ·
   go_wp2
   go_meet
   case rel => exact ⟨by rw [hn.out]; unfold AC.cutN; rw [if_neg (fun h => by have := h.2; omega)], rfl⟩
 case rest =>
  obtain ⟨rfl, rfl⟩ := hcut
  clear p0 p1 p2 p3 p4 p5 p6 p7 p8 p9 p10
  obtain ⟨_, x0, x1⟩ := hX2.grow hB4
  go_upto_region 17 with (go_at_call 75; refine (l4apply_any d l pa ops pc n _ _ (rfl) hG.ok hG.o (hS.grow (gca hA2 hB4)).at_ hoo hoat hnl).mono ?_; rintro e w5 ⟨lb5, lw5, ba5, bc5, wa5, wc5, f, b, rfl, hap, hfo, hmb, hmw, hsb, hsw, hb5⟩)
  have hbf : b = true ∧ f = f0 := by
   have h1 := hap.out
   rw [hf1'.out] at h1
   cases b with
   | true => exact ⟨rfl, (Option.some.inj h1).symm⟩
   | false => cases h1
  obtain ⟨rfl, rfl⟩ := hbf
  have hs4 := hB4.size
  have hSD5 : SD w2.heap.size w5 ⟨ba5, bc5, wa5, wc5⟩ f lb5 lw5 := ⟨hmb, hmw, hsb.le hs4, hsw.le hs4⟩
  have hV6 := VB.new w5 (.slice ba5 f.blocks.length bc5) (.slice wa5 f.waiting.length wc5) 37
  have hVd6 : IsD (w5.alloc (.cells #[.slice ba5 f.blocks.length bc5, .slice wa5 f.waiting.length wc5] 37)) w5.heap.size := ⟨_, blk_new_at _ _ _ rfl⟩
  have hSD6 := hSD5.grow (gal (gre w5) (.cells #[.slice ba5 f.blocks.length bc5, .slice wa5 f.waiting.length wc5] 37))
  have hB6 := gal (gca hB4 hb5) (.cells #[.slice ba5 f.blocks.length bc5, .slice wa5 f.waiting.length wc5] 37)
  have hV2 : w2.heap.size ≤ w5.heap.size := (gca hB4 hb5).size
  generalize w5.alloc (.cells #[.slice ba5 f.blocks.length bc5, .slice wa5 f.waiting.length wc5] 37) = w6 at hV6 hVd6 hSD6 hB6 ⊢
  generalize w5.heap.size = V at hV6 hVd6 hV2 ⊢
  clear hSD5 hmb hmw hsb hsw hb5 x0 x1 hap hfo hB4 hoat hb3 hb4
  obtain ⟨p0, p1, p2, p3, p4, p5, p6, p7, p8, p9, p10⟩ := hY2.grow hB6
  simp only [Nat.zero_add] at p1 p2 p3 p4 p5 p6 p7 p8 p9 p10
  obtain ⟨v0, v1, vf⟩ := id hV6
  have hcs : Hid (c = ⟨settleN (keepOf x.kept) f.blocks f.waiting f.waiting.length, []⟩) := by show _ = _; rw [hce.out, settle_yes hf3]
  go_upto_region 19 with (go_at_call 76; refine (l3settle_any f ⟨ba5, bc5, wa5, wc5⟩ ka x.kept kc _ (DD.fit hf3) hSD6.at_ hkl (hka.grow (gca hA2 hB6))).mono ?_; rw [← hcs.out]; rintro e w7 ⟨lb7, lw7, ba7, bc7, wa7, wc7, rfl, mb7, mw7, sb7, sw7, hb7⟩; obtain ⟨v0, v1, vf⟩ := hV6.grow hb7)
  have hs6 := hB6.size
  have hSD7 : SD w2.heap.size w7 ⟨ba7, bc7, wa7, wc7⟩ c lb7 lw7 := ⟨mb7, mw7, sb7.le hs6, sw7.le hs6⟩
  have hVd7 := hVd6.grow hb7
  have K7 := (Kept.one w7 V 0 (.slice ba7 c.blocks.length bc7)).trans (Kept.one _ V 1 (.slice wa7 c.waiting.length wc7)) (fun _ _ e => e)
  have hB7 := gca hB6 hb7
  have hV8 := ((hV6.grow hb7).set0 (.slice ba7 c.blocks.length bc7)).set1 (.slice wa7 c.waiting.length wc7)
  have hSD8 := hSD7.kept K7 (fun z e _ => by rw [e]; exact hVd7.noDisk)
  have hB8 := hB7.trans (K7.below hB7.size (fun z hz e => by omega))
  generalize (w7.setCell ⟨V, 0, none⟩ (.slice ba7 c.blocks.length bc7)).setCell ⟨V, 1, none⟩ (.slice wa7 c.waiting.length wc7) = w8 at hV8 hSD8 hB8 ⊢
  clear hSD6 hSD7 hB6 hB7 hb7 K7 hV6 hVd6 hVd7 sb7 sw7 v0 v1 vf p0 p1 p2 p3 p4 p5 p6 p7 p8 p9 p10
  obtain ⟨k, hk⟩ := hid_ex c.newestOf
  rw [← hk.out]
  obtain ⟨v0, v1, vf⟩ := id hV8
  go_upto_region 20 with (go_at_call 26; refine (l4newest_any c ⟨ba7, bc7, wa7, wc7⟩ _ (DD.fit hCG.ok) hCG.o hSD8.at_).mono ?_; rw [← hk.out]; rintro e w9 ⟨oa9, oc9, rfl, hcp9, hbt9, hlo9, hb9⟩)
  have hQ := V4.new_at w9 (.bool k.ok) (.int .i64 k.gen) (.int .i64 k.slot) (.slice oa9 k.bytes.length oc9) 60 w9.heap.size rfl
  have hbA := gal hb9 (.cells #[.bool k.ok, .int .i64 k.gen, .int .i64 k.slot, .slice oa9 k.bytes.length oc9] 60)
  have hQs := (gca hB8 hb9).size
  generalize w9.alloc (.cells #[.bool k.ok, .int .i64 k.gen, .int .i64 k.slot, .slice oa9 k.bytes.length oc9] 60) = wA at hQ hbA ⊢
  generalize w9.heap.size = Q at hQ hQs ⊢
  have hdr : Below wA.heap.size wA wA.drew := gdr (gre _)
  have hBA := gdr (gca hB8 hbA)
  have hVA := (hV8.grow hbA).grow hdr
  have hQA := hQ.grow hdr
  have hSDA := (hSD8.grow hbA).grow hdr
  have hRA := hR2.grow hBA
  have hTA := hT2.grow hBA
  have hRdA := hRd2.grow hBA
  have hTdA := hTd2.grow hBA
  have hAA := gca hA2 hBA
  have hQV : w.heap.size + 1 + 1 < Q ∧ w.heap.size + 1 + 1 + 1 < Q := by omega
  clear v0 v1 vf
  refine wp_regionU (fun u => u.cell? ⟨V, 0, none⟩ = some (.slice ba7 c.blocks.length bc7) ∧ u.cell? ⟨V, 1, none⟩ = some (.slice wa7 c.waiting.length wc7) ∧ u.cell? ⟨Q, 1, none⟩ = some (.int .i64 k.gen)) 99 (by kernel_rfl) ⟨hVA.v0, hVA.v1, hQA.c1⟩ (fun hS0 => ?_)
  generalize wA.drew = wD at hBA hVA hQA hSDA hRA hTA hRdA hTdA hAA hS0 ⊢
  refine anyU_tk (i := 0) rfl hS0 (fun u hSu => by obtain ⟨s0, s1, s2⟩ := hSu; go_simp <;> with_reducible rfl) ?_
  refine anyU_tk (i := 1) rfl hS0 (fun u hSu => by obtain ⟨s0, s1, s2⟩ := hSu; go_simp <;> with_reducible rfl) ?_
  refine anyU_tk (i := 2) rfl hS0 (fun u hSu => by obtain ⟨s0, s1, s2⟩ := hSu; go_simp <;> with_reducible rfl) ?_
  refine anyU_tk (i := 3) rfl hS0 (fun u hSu => by obtain ⟨s0, s1, s2⟩ := hSu; go_simp <;> with_reducible rfl) ?_
  simp only [Act.put, List.getElem_toArray, List.getElem_cons_zero, List.getElem_cons_succ, List.setIfInBounds_toArray, List.set_cons_zero, List.set_cons_succ]
  obtain ⟨z0, z1, zf⟩ := id hRA
  obtain ⟨_, _, K2⟩ := ret2 (A := .slice ba7 c.blocks.length bc7) (B := .slice wa7 c.waiting.length wc7) z0 z1
  refine anyU_one (i := 4) (by kernel_rfl) rfl (fun K hK => ?_)
  go_simp
  refine hK.out _ _ ⟨K2.cell hS0.1 (by omega), K2.cell hS0.2.1 (by omega), K2.cell hS0.2.2 (by omega)⟩ ?_
  clear hK
  obtain ⟨c0, c1, hV9, hK9⟩ := do_ret hRA hTA (by omega) (.slice ba7 c.blocks.length bc7) (.slice wa7 c.waiting.length wc7) (.int .i64 0) (.int .i64 k.gen) (.int .i64 0) (.int .i64 0) (.string ⟨#[]⟩) (.int .i64 0) (.slice none 0 0)
  have hT4 := hTA.kept K2 (by omega)
  obtain ⟨_, u0, u1, u2, u3, u4, u5, u6, uf_⟩ := id hT4
  refine anyU_one (i := 5) (by kernel_rfl) rfl (fun K hK => ?_)
  go_simp
  refine hK.out _ _ ⟨hK9.cell hS0.1 (by omega), hK9.cell hS0.2.1 (by omega), hK9.cell hS0.2.2 (by omega)⟩ ?_
  clear hK u0 u1 u2 u3 u4 u5 u6 hT4 K2
  generalize (((((((((wD.setCell ⟨w.heap.size + 1 + 1, 0, none⟩ (.slice ba7 c.blocks.length bc7)).setCell ⟨w.heap.size + 1 + 1, 1, none⟩ (.slice wa7 c.waiting.length wc7)).setCell ⟨w.heap.size + 1 + 1 + 1, 0, none⟩ (.int .i64 0)).setCell ⟨w.heap.size + 1 + 1 + 1, 1, none⟩ (.int .i64 k.gen)).setCell ⟨w.heap.size + 1 + 1 + 1, 2, none⟩ (.int .i64 0)).setCell ⟨w.heap.size + 1 + 1 + 1, 3, none⟩ (.int .i64 0)).setCell ⟨w.heap.size + 1 + 1 + 1, 4, none⟩ (.string ⟨#[]⟩)).setCell ⟨w.heap.size + 1 + 1 + 1, 5, none⟩ (.int .i64 0)).setCell ⟨w.heap.size + 1 + 1 + 1, 6, none⟩ (.slice none 0 0)) = wE at c0 c1 hV9 hK9 ⊢
  refine anyU_done (by kernel_rfl) ?_
  go_wp2
  obtain ⟨_, q0, q1, q2, q3, q4, q5, q6, _⟩ := id hV9
  exact bodyPost_ret (v := .tuple #[c.val ⟨ba7, bc7, wa7, wc7⟩, (TK.mk 0 k.gen zeroG).val none 0]) (by simp [results, Tryz.results41, go_sem, c0, c1, q0, q1, q2, q3, q4, q5, q6, zeroG]) rfl ⟨lb7, lw7, ⟨ba7, bc7, wa7, wc7⟩, none, 0, by rw [hk.out], do_after (hSDA.le (by have := hA2.size; omega)) hK9 hRdA hTdA, fun _ _ i hi => absurd hi (Nat.not_lt_zero _), hAA.trans (hK9.below hAA.size (fun z hz e => by omega))⟩
theorem l5do_any (base : Nat) (d : DD) (l : DL) (lb : List LB) (lw : List LW) (x : AC) (ga : Option Addr) (gc : Nat) (ka : Option Addr) (kc : Nat) (w : World) (hbw : base ≤ w.heap.size) (hG : GoodD d) (hS : SD base w l d lb lw) (hx : x.Ok) (hga : NodesAt w.heap.size w ga x.graph.nodes) (hka : BoolsAt w ka x.kept) : Calls Tryz.prog 41 #[d.val l, x.val ga gc ka kc] w (SDo base (d.doA x) w) := by
 unfold DD.doA
 cases hok : x.okA with
 | false =>
  rw [if_pos rfl]
  exact do_no base d l lb lw x ga gc ka kc w hbw hG hS hok
 | true =>
  rw [if_neg (by decide)]
  by_cases o3 : x.op = 3
  ·
   rw [if_pos o3]
   exact do_take base d l lb lw x ga gc ka kc w hbw hG hS hok o3
  ·
   rw [if_neg o3]
   by_cases o4 : x.op = 4
   ·
    rw [if_pos o4]
    exact do_spoil base d l lb lw x ga gc ka kc w hbw hG hS hok o4
   ·
    rw [if_neg o4]
    by_cases hp : packB x.graph = []
    ·
     rw [if_pos hp]
     exact do_none base d l lb lw x ga gc ka kc w hbw hG hS hx.graph hga hok o3 o4 hp
    ·
     rw [if_neg hp]
     rcases okA_op12 hok o3 o4 with o | o
     · exact do_lay1 base d l lb lw x ga gc ka kc w hbw hG hS hx.graph hga hka hx.kept hok o hp
     · exact do_lay2 base d l lb lw x ga gc ka kc w hbw hG hS hx.graph hga hka hx.kept hok o hp
def SPl (ts : List TK) (w : World) (e : Ending) (w' : World) : Prop := ∃ oa oc lt, e = .returned (.slice oa ts.length oc) ∧ lt.map LT.t = ts ∧ ST w.heap.size w' oa oc lt ∧ Below w.heap.size w w'
theorem do_retV {w : World} {R T : Nat} {a b x0 x1 x2 x3 x4 x5 x6 : Value} (hR : VB w R a b) (hT : V7 w T x0 x1 x2 x3 x4 x5 x6) (hne : R ≠ T) (A B y0 y1 y2 y3 y4 y5 y6 : Value) : VB ((((((((((w.setCell ⟨R, 0, none⟩ (A)).setCell ⟨R, 1, none⟩ (B)).setCell ⟨T, 0, none⟩ (y0)).setCell ⟨T, 1, none⟩ (y1)).setCell ⟨T, 2, none⟩ (y2)).setCell ⟨T, 3, none⟩ (y3)).setCell ⟨T, 4, none⟩ (y4)).setCell ⟨T, 5, none⟩ (y5)).setCell ⟨T, 6, none⟩ (y6))) R A B := by
 have hK1 := (Kept.one w R 0 A).trans (Kept.one _ R 1 B) (fun _ _ e => e)
 exact ((hR.set0 A).set1 B).kept ((hT.kept hK1 (fun e => hne e.symm)).put y0 y1 y2 y3 y4 y5 y6).2 hne
theorem do_retD {w : World} {R T : Nat} {x0 x1 x2 x3 x4 x5 x6 : Value} (hR : IsD w R) (hT : V7 w T x0 x1 x2 x3 x4 x5 x6) (hne : R ≠ T) (A B y0 y1 y2 y3 y4 y5 y6 : Value) : IsD ((((((((((w.setCell ⟨R, 0, none⟩ (A)).setCell ⟨R, 1, none⟩ (B)).setCell ⟨T, 0, none⟩ (y0)).setCell ⟨T, 1, none⟩ (y1)).setCell ⟨T, 2, none⟩ (y2)).setCell ⟨T, 3, none⟩ (y3)).setCell ⟨T, 4, none⟩ (y4)).setCell ⟨T, 5, none⟩ (y5)).setCell ⟨T, 6, none⟩ (y6))) R := by
 have hK1 := (Kept.one w R 0 A).trans (Kept.one _ R 1 B) (fun _ _ e => e)
 exact IsD.kept (w := (w.setCell ⟨R, 0, none⟩ A).setCell ⟨R, 1, none⟩ B) (blk_setType (blk_setType hR)) ((hT.kept hK1 (fun e => hne e.symm)).put y0 y1 y2 y3 y4 y5 y6).2 hne
theorem ST.le {base base' : Nat} {w : World} {oa : Option Addr} {oc : Nat} {lt : List LT} (h : ST base w oa oc lt) (hb : base' ≤ base) : ST base' w oa oc lt := ⟨owns_le h.own hb, fun y hy => ⟨Nat.le_trans hb (h.rng y hy).1, (h.rng y hy).2⟩, h.row, h.nod⟩
theorem specPlay_any (a : Option Addr) (cap : Nat) (ls : List AC) (w : World) (hl : ls.length ≤ maxLen) (hv : ∀ v, v ∈ ls → v.Ok) (ha : ActsAt w a ls) :
  Calls Tryz.prog 15 #[.slice a ls.length cap] w (SPl (playA ls) w) := by
 unfold maxLen at hl
 by_cases h60 : ls.length ≤ 60
 ·
  have e : Hid (playA ls = ansN ls ls.length) := if_pos h60
  rw [e.out]
  have hg : ¬ ((60 : Int) < (ls.length : Int)) := by omega
  obtain ⟨i0, hi, hz0, hz1, hz2⟩ := info_parts info_taken
  go_enter Tryz.func15, Tryz.ntmps15
  go_upto_region 4 with (go_at_call 40; refine (specBlank_own _).mono ?_; rintro e w1 ⟨lb0, ba0, bc0, rfl, hm0, hS0, hb0⟩)
  have hV0 := VB.new w1 (.slice ba0 blankD.blocks.length bc0) (.slice none blankD.waiting.length 0) 37
  have hVd0 : IsD (w1.alloc (.cells #[.slice ba0 blankD.blocks.length bc0, .slice none blankD.waiting.length 0] 37)) w1.heap.size := ⟨_, blk_new_at _ _ _ rfl⟩
  have hSD0 : SD w.heap.size (w1.alloc (.cells #[.slice ba0 blankD.blocks.length bc0, .slice none blankD.waiting.length 0] 37)) ⟨ba0, bc0, none, 0⟩ blankD lb0 [] := ⟨hm0, rfl, hS0.grow (gal (gre w1) _), SW.nil _ _⟩
  have hA0 := gal hb0 (.cells #[.slice ba0 blankD.blocks.length bc0, .slice none blankD.waiting.length 0] 37)
  have hVw := hb0.size
  generalize w1.alloc (.cells #[.slice ba0 blankD.blocks.length bc0, .slice none blankD.waiting.length 0] 37) = w2 at hV0 hVd0 hSD0 hA0 ⊢
  generalize w1.heap.size = V at hV0 hVd0 hVw ⊢
  clear hm0 hS0 hb0
  go_wp2
  go_loopw [4, 14] (fun o i wr => ∃ (k : Nat) (oa : Option Addr) (oc : Nat) (lt : List LT) (l : DL) (lb : List LB) (lw : List LW), k ≤ ls.length ∧ i = .int .i64 k ∧ o = .slice oa lt.length oc ∧ Hid (lt.map LT.t = ansN ls k) ∧ Hid (lt.length = k) ∧ ST (V + 1) wr oa oc lt ∧ VB wr V (.slice l.ba (diskN ls k).blocks.length l.bc) (.slice l.wa (diskN ls k).waiting.length l.wc) ∧ IsD wr V ∧ SD w.heap.size wr l (diskN ls k) lb lw ∧ Below w.heap.size w wr) (fun _ i _ => ls.length - (intOf i).toNat)
  case atStart => exact ⟨0, none, 0, [], ⟨ba0, bc0, none, 0⟩, lb0, [], Nat.zero_le _, rfl, rfl, rfl, rfl, ST.nil _ _, hV0, hVd0, hSD0, hA0⟩
  case round =>
   obtain ⟨k, oa, oc, lt, l, lb, lw, hk, rfl, rfl, hlm, hll, hST, hV, hVd, hSD, hb⟩ := hrel
   clear hV0 hVd0 hSD0 hA0
   by_cases hlt : k < ls.length
   ·
    obtain ⟨x, b, off, ga, gc, ka, kc, hvk, hvm, rfl, hc, hn, hkk⟩ := (ha.grow hb).get hlt
    have i0' : (0 : Int) ≤ (k : Int) := by omega
    have i1' : (k : Int) < (ls.length : Int) := by omega
    obtain ⟨c0, c1, c2, c3, c4, c5, c6, c7, c8, c9, c10⟩ := id hc
    have hG := diskN_good ls k
    have hr0 : Hid (diskN ls (k + 1) = ((diskN ls k).doA x).1 ∧ ansN ls (k + 1) = ansN ls k ++ [((diskN ls k).doA x).2]) := ⟨by rw [hvk.out]; rfl, by rw [hvk.out]; rfl⟩
    obtain ⟨e, he⟩ := hid_ex (diskN ls k)
    rw [← he.out] at hV hSD hG hr0
    obtain ⟨r, hr⟩ := hid_ex (e.doA x)
    rw [← hr.out] at hr0
    obtain ⟨d3, t⟩ := r
    go_upto_region 9 with fail
    have hAl := gal (gal (gre wr) (.cells #[.int .i64 x.op, .int .i64 x.graph.root.kind, .int .i64 x.graph.root.num, .string x.graph.root.text, .int .i64 x.graph.root.node, .slice ga x.graph.nodes.length gc, .int .i64 x.steps, .slice ka x.kept.length kc, .int .i64 x.block, .int .i64 x.byte, .int .i64 x.xor] 87)) (.cells #[.int .i64 0, .int .i64 0, .int .i64 0, .int .i64 0, .string ⟨#[]⟩, .int .i64 0, .slice none 0 0] 33)
    have hY := (ActAt.new_at wr x ga gc ka kc 87 wr.heap.size rfl).grow (gal (gre _) (.cells #[.int .i64 0, .int .i64 0, .int .i64 0, .int .i64 0, .string ⟨#[]⟩, .int .i64 0, .slice none 0 0] 33))
    have hT := V7.new_at (wr.alloc (.cells #[.int .i64 x.op, .int .i64 x.graph.root.kind, .int .i64 x.graph.root.num, .string x.graph.root.text, .int .i64 x.graph.root.node, .slice ga x.graph.nodes.length gc, .int .i64 x.steps, .slice ka x.kept.length kc, .int .i64 x.block, .int .i64 x.byte, .int .i64 x.xor] 87)) (.int .i64 0) (.int .i64 0) (.int .i64 0) (.int .i64 0) (.string ⟨#[]⟩) (.int .i64 0) (.slice none 0 0) 33 (wr.heap.size + 1) (by simp)
    have hTd : IsTk ((wr.alloc (.cells #[.int .i64 x.op, .int .i64 x.graph.root.kind, .int .i64 x.graph.root.num, .string x.graph.root.text, .int .i64 x.graph.root.node, .slice ga x.graph.nodes.length gc, .int .i64 x.steps, .slice ka x.kept.length kc, .int .i64 x.block, .int .i64 x.byte, .int .i64 x.xor] 87)).alloc (.cells #[.int .i64 0, .int .i64 0, .int .i64 0, .int .i64 0, .string ⟨#[]⟩, .int .i64 0, .slice none 0 0] 33)) (wr.heap.size + 1) := ⟨_, blk_new_at _ _ _ (by simp)⟩
    have hs2 : ((wr.alloc (.cells #[.int .i64 x.op, .int .i64 x.graph.root.kind, .int .i64 x.graph.root.num, .string x.graph.root.text, .int .i64 x.graph.root.node, .slice ga x.graph.nodes.length gc, .int .i64 x.steps, .slice ka x.kept.length kc, .int .i64 x.block, .int .i64 x.byte, .int .i64 x.xor] 87)).alloc (.cells #[.int .i64 0, .int .i64 0, .int .i64 0, .int .i64 0, .string ⟨#[]⟩, .int .i64 0, .slice none 0 0] 33)).heap.size = wr.heap.size + 1 + 1 := by simp
    generalize (wr.alloc (.cells #[.int .i64 x.op, .int .i64 x.graph.root.kind, .int .i64 x.graph.root.num, .string x.graph.root.text, .int .i64 x.graph.root.node, .slice ga x.graph.nodes.length gc, .int .i64 x.steps, .slice ka x.kept.length kc, .int .i64 x.block, .int .i64 x.byte, .int .i64 x.xor] 87)).alloc (.cells #[.int .i64 0, .int .i64 0, .int .i64 0, .int .i64 0, .string ⟨#[]⟩, .int .i64 0, .slice none 0 0] 33) = wA at hAl hY hT hTd hs2 ⊢
    obtain ⟨T, hTe⟩ := hid_ex (wr.heap.size + 1)
    rw [← hTe.out] at hT hTd ⊢
    have hVA := hV.grow hAl
    have hVdA := hVd.grow hAl
    have hSDA := hSD.grow hAl
    have hSTA := hST.grow hAl
    have hbA := gca hb hAl
    have hnA := hn.grow hAl
    have hkA := hkk.grow hAl
    have hVlt := hV.lt
    have hTV : V ≠ T := by have := hTe.out; omega
    clear hV hVd hSD hb hn hkk hc c0 c1 c2 c3 c4 c5 c6 c7 c8 c9 c10
    obtain ⟨v0, v1, vf⟩ := id hVA
    obtain ⟨p0, p1, p2, p3, p4, p5, p6, p7, p8, p9, p10⟩ := id hY
    simp only [Nat.zero_add] at p1 p2 p3 p4 p5 p6 p7 p8 p9 p10
    have hdo := l5do_any w.heap.size e l lb lw x ga gc ka kc wA hbA.size hG hSDA (hv x hvm) hnA hkA
    rw [← hr.out] at hdo
    go_upto_region 10 with (go_at_call 41; refine hdo.mono ?_; rintro e' w3 ⟨lb3, lw3, l3, na, nc, rfl, hSD3, hN3, hb3⟩; obtain ⟨v0, v1, vf⟩ := hVA.grow hb3; obtain ⟨_, r0, r1, r2, r3, r4, r5, r6, rf_⟩ := hT.grow hb3)
    have hV3 := hVA.grow hb3
    have hT3 := hT.grow hb3
    have hVd3 := hVdA.grow hb3
    have hTd3 := hTd.grow hb3
    have hST3 := hSTA.grow hb3
    have hb3A := gca hbA hb3
    have hsz3 := hb3.size
    obtain ⟨q0', q1', hT4, hK4⟩ := do_ret hV3 hT3 hTV (.slice l3.ba d3.blocks.length l3.bc) (.slice l3.wa d3.waiting.length l3.wc) (.int .i64 t.code) (.int .i64 t.gen) (.int .i64 t.g.root.kind) (.int .i64 t.g.root.num) (.string t.g.root.text) (.int .i64 t.g.root.node) (.slice na t.g.nodes.length nc)
    have hV4 := do_retV hV3 hT3 hTV (.slice l3.ba d3.blocks.length l3.bc) (.slice l3.wa d3.waiting.length l3.wc) (.int .i64 t.code) (.int .i64 t.gen) (.int .i64 t.g.root.kind) (.int .i64 t.g.root.num) (.string t.g.root.text) (.int .i64 t.g.root.node) (.slice na t.g.nodes.length nc)
    have hSD4 := do_after hSD3 hK4 hVd3 hTd3
    have hVd4 : IsD ((((((((((w3.setCell ⟨V, 0, none⟩ (.slice l3.ba d3.blocks.length l3.bc)).setCell ⟨V, 1, none⟩ (.slice l3.wa d3.waiting.length l3.wc)).setCell ⟨T, 0, none⟩ (.int .i64 t.code)).setCell ⟨T, 1, none⟩ (.int .i64 t.gen)).setCell ⟨T, 2, none⟩ (.int .i64 t.g.root.kind)).setCell ⟨T, 3, none⟩ (.int .i64 t.g.root.num)).setCell ⟨T, 4, none⟩ (.string t.g.root.text)).setCell ⟨T, 5, none⟩ (.int .i64 t.g.root.node)).setCell ⟨T, 6, none⟩ (.slice na t.g.nodes.length nc))) V := do_retD hVd3 hT3 hTV (.slice l3.ba d3.blocks.length l3.bc) (.slice l3.wa d3.waiting.length l3.wc) (.int .i64 t.code) (.int .i64 t.gen) (.int .i64 t.g.root.kind) (.int .i64 t.g.root.num) (.string t.g.root.text) (.int .i64 t.g.root.node) (.slice na t.g.nodes.length nc)
    generalize (((((((((w3.setCell ⟨V, 0, none⟩ (.slice l3.ba d3.blocks.length l3.bc)).setCell ⟨V, 1, none⟩ (.slice l3.wa d3.waiting.length l3.wc)).setCell ⟨T, 0, none⟩ (.int .i64 t.code)).setCell ⟨T, 1, none⟩ (.int .i64 t.gen)).setCell ⟨T, 2, none⟩ (.int .i64 t.g.root.kind)).setCell ⟨T, 3, none⟩ (.int .i64 t.g.root.num)).setCell ⟨T, 4, none⟩ (.string t.g.root.text)).setCell ⟨T, 5, none⟩ (.int .i64 t.g.root.node)).setCell ⟨T, 6, none⟩ (.slice na t.g.nodes.length nc)) = w4 at q0' q1' hT4 hK4 hV4 hSD4 hVd4 ⊢
    have hrow : ∀ z, (Value.slice oa lt.length oc).ownBlock = some z → z < wr.heap.size ∧ V + 1 ≤ z := fun z hz => by
     obtain ⟨⟨c, hc⟩, h2⟩ := owns_isTk hST.own hz
     exact ⟨(Array.getElem?_eq_some_iff.1 hc).1, h2⟩
    have hST4 := hST3.kept hK4 (fun z hz e => by have := hrow z hz; have := hTe.out; omega) (fun y hy z e _ => by have := hST.rng y hy; have := hTe.out; omega)
    have hb4A := hb3A.trans (hK4.below hb3A.size (fun z hz e => by have := hb3A.size; have := hTe.out; have := hbA.size; omega))
    have hsz4 := hK4.size
    have hTl := hT3.lt
    obtain ⟨_, q0, q1, q2, q3, q4, q5, q6, _⟩ := id hT4
    have hlk := hll.out
    clear v0 v1 vf r0 r1 r2 r3 r4 r5 r6 rf_ p0 p1 p2 p3 p4 p5 p6 p7 p8 p9 p10
    have hB5 := gal (gre w4) (.cells #[.int .i64 t.code, .int .i64 t.gen, .int .i64 t.g.root.kind, .int .i64 t.g.root.num, .string t.g.root.text, .int .i64 t.g.root.node, .slice na t.g.nodes.length nc] 33)
    have hST5 := hST4.grow hB5
    have hSD5 := hSD4.grow hB5
    have hV5 := hV4.grow hB5
    have hVd5 := hVd4.grow hB5
    have hb5A := gca hb4A hB5
    have hs5 : (w4.alloc (.cells #[.int .i64 t.code, .int .i64 t.gen, .int .i64 t.g.root.kind, .int .i64 t.g.root.num, .string t.g.root.text, .int .i64 t.g.root.node, .slice na t.g.nodes.length nc] 33)).heap.size = w4.heap.size + 1 := by simp
    have hK5 : Kept (fun z => z < wA.heap.size) w3 (w4.alloc (.cells #[.int .i64 t.code, .int .i64 t.gen, .int .i64 t.g.root.kind, .int .i64 t.g.root.num, .string t.g.root.text, .int .i64 t.g.root.node, .slice na t.g.nodes.length nc] 33)) := ((hK4.mono (q := fun z => z < wA.heap.size) (fun z _ e => by have := hTe.out; omega)).alloc _)
    go_wp2_with (at_builtin; refine wpList_append_lies _ rfl (.tmp 25) (.tmp 27) 46 rfl (V + 1) 33 i0 _ 7 80 Tryz.underlying46 hi hz0 hz1 hz2 rfl (by decide) _ _ _ rfl hST5.own ⟨w4.heap.size, 0, none⟩ 1 1 [.int .i64 t.code, .int .i64 t.gen, .int .i64 t.g.root.kind, .int .i64 t.g.root.num, .string t.g.root.text, .int .i64 t.g.root.node, .slice na t.g.nodes.length nc] rfl rfl (World.news_of_block (cs := #[.int .i64 t.code, .int .i64 t.gen, .int .i64 t.g.root.kind, .int .i64 t.g.root.num, .string t.g.root.text, .int .i64 t.g.root.node, .slice na t.g.nodes.length nc]) (t := 33) (fr := (0, 0)) (blk_new_at _ _ _ rfl)) (by simp [Value.oneCell']) (by decide) (by unfold maxLen; omega) (by omega) (by omega) (w4.heap.size + 1) hs5 ?_; intro gg cc w6 hown6 hgrow6 hat6 hlt6)
    generalize w4.alloc (.cells #[.int .i64 t.code, .int .i64 t.gen, .int .i64 t.g.root.kind, .int .i64 t.g.root.num, .string t.g.root.text, .int .i64 t.g.root.node, .slice na t.g.nodes.length nc] 33) = w5 at hB5 hST5 hSD5 hV5 hVd5 hb5A hs5 hK5 hown6 hgrow6
    have K6 := Kept.of_grown hgrow6
    have hz6 : ∀ z, (Value.slice oa lt.length oc).ownBlock = some z → IsTk w5 z ∧ V + 1 ≤ z := fun z hz => owns_isTk hST5.own hz
    have hST6 := hST5.push (y := ⟨t, na, nc, [], wA.heap.size, w3.heap.size⟩) ⟨by show V + 1 ≤ wA.heap.size; omega, hsz3, by show w3.heap.size ≤ w5.heap.size; omega⟩ (fun z hz => Or.inl (by have := hrow z hz; show z < wA.heap.size; omega)) (fun w' k => hN3 w' (hK5.trans (k.mono (fun z hz e => e)) (fun z hz e => by rcases e with e | e; exact e; exact absurd hz (by show ¬ z < w3.heap.size; have : w3.heap.size ≤ z := e; omega)))) hown6 hgrow6 (by rw [hs5]; exact hat6)
    have hV6 := hV5.kept K6 (fun e => by have := (hz6 _ e).2; omega)
    have hVd6 := hVd5.kept K6 (fun e => by have := (hz6 _ e).2; omega)
    have hSD6 := hSD5.kept K6 (fun z e _ => (hz6 z e).1.noDisk)
    have hb6A := hb5A.trans (K6.below hb5A.size (fun z hz e => by have := (hz6 z e).2; omega))
    go_roundw
    case rel =>
     refine ⟨k + 1, some ⟨gg, 0, none⟩, cc, lt ++ [⟨t, na, nc, [], wA.heap.size, w3.heap.size⟩], l3, lb3, lw3, by omega, by go_num, by rw [List.length_append, hlk]; rfl, ?_, ?_, hST6, ?_, hVd6, ?_, hb6A⟩
     ·
      show _ = _
      rw [List.map_append, hlm.out, hr0.out.2]; rfl
     ·
      show _ = _
      rw [List.length_append, hlk]; rfl
     · rw [hr0.out.1]; exact hV6
     · rw [hr0.out.1]; exact hSD6
    case measure => simp [intOf]; omega
   ·
    obtain rfl : k = ls.length := by omega
    go_wp2
    go_ret
    exact ⟨oa, oc, lt, by show Ending.returned (Value.slice oa lt.length oc) = _; rw [ansN_length, hll.out], hlm.out, hST.le (by omega), hb⟩
 ·
  have e : Hid (playA ls = []) := if_neg h60
  rw [e.out]
  have hg : (60 : Int) < (ls.length : Int) := by omega
  go_enter Tryz.func15, Tryz.ntmps15
  go_wp2
  go_ret
  exact ⟨none, 0, [], rfl, rfl, ST.nil _ _, gre _⟩
structure IT (base : Nat) (w : World) (oa : Option Addr) (oc : Nat) (lt : List LT) : Prop where
 own : w.ownsRow base 33 7 (.slice oa lt.length oc) lt.length (tCells lt)
 rng : ∀ y, y ∈ lt → base ≤ y.lo ∧ y.lo ≤ y.hi ∧ y.hi ≤ w.heap.size
 row : ∀ y, y ∈ lt → ∀ z, (Value.slice oa lt.length oc).ownBlock = some z → z < y.lo ∨ y.hi ≤ z
 nod : ∀ y, y ∈ lt → y.nl.map (·.n) = y.t.g.nodes ∧ OwnG w y.lo y.a y.c y.nl ∧ ∀ b, Touch y.a y.nl.length (fun i => y.nl[i]!.a) b → b < y.hi
 far : lt.Pairwise fun y z => y.hi ≤ z.lo
theorem own_keptI {p : Nat → Prop} {w w' : World} {y : LT} (h : OwnG w y.lo y.a y.c y.nl) (ht : ∀ b, Touch y.a y.nl.length (fun i => y.nl[i]!.a) b → b < y.hi) (K : Kept p w w') (hp : ∀ z, y.lo ≤ z → z < y.hi → ¬ p z) : OwnG w' y.lo y.a y.c y.nl := by
 refine h.kept K (fun b e => ?_) (fun x hx b e => ?_)
 ·
  have hT : Touch y.a y.nl.length (fun i => y.nl[i]!.a) b := Or.inl e
  exact hp b (h.touch hT).1 (ht b hT)
 ·
  obtain ⟨i, hi, rfl⟩ := List.getElem_of_mem hx
  have hT : Touch y.a y.nl.length (fun i => y.nl[i]!.a) b := Or.inr ⟨i, hi, by show y.nl[i]!.a = _; rw [getElem!_pos y.nl i hi]; exact e⟩
  exact hp b (h.touch hT).1 (ht b hT)
theorem IT.nil (base : Nat) (w : World) : IT base w none 0 [] := ⟨owns_none _ _ _ _, fun y hy => (by cases hy), fun y hy => (by cases hy), fun y hy => (by cases hy), List.Pairwise.nil⟩
theorem IT.kept {p : Nat → Prop} {base : Nat} {w w' : World} {oa : Option Addr} {oc : Nat} {lt : List LT} (h : IT base w oa oc lt) (K : Kept p w w') (hr : ∀ z, (Value.slice oa lt.length oc).ownBlock = some z → ¬ p z) (hp : ∀ y, y ∈ lt → ∀ z, y.lo ≤ z → z < y.hi → ¬ p z) : IT base w' oa oc lt :=
 ⟨K.owns h.own hr, fun y hy => ⟨(h.rng y hy).1, (h.rng y hy).2.1, Nat.le_trans (h.rng y hy).2.2 K.size⟩, h.row, fun y hy => ⟨(h.nod y hy).1, own_keptI (h.nod y hy).2.1 (h.nod y hy).2.2 K (hp y hy), (h.nod y hy).2.2⟩, h.far⟩
theorem IT.grow {base : Nat} {w w' : World} {oa : Option Addr} {oc : Nat} {lt : List LT} (h : IT base w oa oc lt) (hb : Below w.heap.size w w') : IT base w' oa oc lt := h.kept (Kept.of_below hb (fun _ => False)) (fun _ _ e => e) (fun _ _ _ _ _ e => e)
theorem IT.le {base base' : Nat} {w : World} {oa : Option Addr} {oc : Nat} {lt : List LT} (h : IT base w oa oc lt) (hb : base' ≤ base) : IT base' w oa oc lt := ⟨owns_le h.own hb, fun y hy => ⟨Nat.le_trans hb (h.rng y hy).1, (h.rng y hy).2⟩, h.row, h.nod, h.far⟩
theorem IT.st {base : Nat} {w : World} {oa : Option Addr} {oc : Nat} {lt : List LT} (h : IT base w oa oc lt) : ST base w oa oc lt :=
 ⟨h.own, h.rng, h.row, fun y hy w' K => by
  obtain ⟨h1, h2, h3⟩ := h.nod y hy
  have := (own_keptI h2 h3 K (fun z a b e => by omega)).at_
  rwa [h1] at this⟩
theorem IT.push {base : Nat} {w w5 : World} {oa : Option Addr} {oc : Nat} {lt : List LT} (h : IT base w oa oc lt) {y : LT} (hr : base ≤ y.lo ∧ y.lo ≤ y.hi ∧ y.hi ≤ w.heap.size) (ho : ∀ z, (Value.slice oa lt.length oc).ownBlock = some z → z < y.lo ∨ y.hi ≤ z) (hn : y.nl.map (·.n) = y.t.g.nodes ∧ OwnG w y.lo y.a y.c y.nl ∧ ∀ b, Touch y.a y.nl.length (fun i => y.nl[i]!.a) b → b < y.hi) (hf : ∀ x, x ∈ lt → x.hi ≤ y.lo) {gg cc : Nat}
  (hown : w5.ownsRow base 33 7 (.slice (some ⟨gg, 0, none⟩) (lt.length + 1) cc) (lt.length + 1) (tCells lt ++ y.cells)) (hgrow : w.grownBy w5 (Value.slice oa lt.length oc).ownBlock) (hat : (Value.slice oa lt.length oc).ownBlock = some gg ∨ gg = w.heap.size) : IT base w5 (some ⟨gg, 0, none⟩) cc (lt ++ [y]) := by
 have K := Kept.of_grown hgrow
 have hK : ∀ x, x ∈ lt ++ [y] → (base ≤ x.lo ∧ x.lo ≤ x.hi ∧ x.hi ≤ w.heap.size) ∧ (∀ z, (Value.slice oa lt.length oc).ownBlock = some z → z < x.lo ∨ x.hi ≤ z) ∧ (x.nl.map (·.n) = x.t.g.nodes ∧ OwnG w x.lo x.a x.c x.nl ∧ ∀ b, Touch x.a x.nl.length (fun i => x.nl[i]!.a) b → b < x.hi) := fun x hx => by
  rcases List.mem_append.1 hx with e | e
  · exact ⟨h.rng x e, h.row x e, h.nod x e⟩
  ·
   obtain rfl : x = y := by simpa using e
   exact ⟨hr, ho, hn⟩
 refine ⟨by rw [tCells_app, tCells_one, List.length_append]; exact hown, fun x hx => ?_, fun x hx z hz => ?_, fun x hx => ?_, ?_⟩
 ·
  obtain ⟨h1, _, _⟩ := hK x hx
  exact ⟨h1.1, h1.2.1, Nat.le_trans h1.2.2 K.size⟩
 ·
  obtain ⟨h1, h2, _⟩ := hK x hx
  have e : z = gg := by simpa [Value.ownBlock] using hz.symm
  subst e
  rcases hat with e | e
  · exact h2 z e
  · exact Or.inr (by omega)
 ·
  obtain ⟨_, h2, h3⟩ := hK x hx
  exact ⟨h3.1, own_keptI h3.2.1 h3.2.2 K (fun z a b e => by have := h2 z e; omega), h3.2.2⟩
 · exact List.pairwise_append.2 ⟨h.far, List.pairwise_singleton _ _, fun x hx z hz => by
   obtain rfl : z = y := by simpa using hz
   exact hf x hx⟩
def IPl (ts : List TK) (w : World) (e : Ending) (w' : World) : Prop := ∃ oa oc lt, e = .returned (.slice oa ts.length oc) ∧ lt.map LT.t = ts ∧ IT w.heap.size w' oa oc lt ∧ Below w.heap.size w w'
structure PInv (w wr : World) (C : Nat) (d : DD) (oa : Option Addr) (oc : Nat) (lt : List LT) (lo hi : Nat) (l : DL) (fa fb : Nat → Option Addr) (fc fe : Nat → Nat) : Prop where
 id : ID wr C lo hi l d fa fb fc fe
 it : IT (C + 1) wr oa oc lt
 ap : ∀ y, y ∈ lt → y.hi ≤ lo ∨ hi ≤ y.lo
 ar : ∀ z, (Value.slice oa lt.length oc).ownBlock = some z → z < lo ∨ hi ≤ z
 bel : Below w.heap.size w wr
 low : w.heap.size ≤ lo
theorem implPlay_any (a : Option Addr) (cap : Nat) (ls : List AC) (w : World) (hl : ls.length ≤ maxLen) (hv : ∀ v, v ∈ ls → v.Ok) (ha : ActsAt w a ls) (hg : w.cell? ⟨0, 0, none⟩ = some (.iface 204 (.agg #[.pointer (some ⟨1, 69, none⟩)]))) :
  Calls Tryz.prog 17 #[.slice a ls.length cap] w (IPl (playA ls) w) := by
 unfold maxLen at hl
 have hg' : Hid _ := hg
 clear hg
 by_cases h60 : ls.length ≤ 60
 ·
  have e : Hid (playA ls = ansN ls ls.length) := if_pos h60
  rw [e.out]
  have hgt : ¬ ((60 : Int) < (ls.length : Int)) := by omega
  obtain ⟨i0, hi, hz0, hz1, hz2⟩ := info_parts info_taken
  go_enter Tryz.func17, Tryz.ntmps17
  go_upto_region 4 with (go_at_call 43; refine (implBlank_any _).mono ?_; rintro e w1 ⟨l0, fa0, fb0, fc0, fe0, rfl, hm0, hb0⟩)
  have hV0 := VB.new w1 (.slice l0.ba blankD.blocks.length l0.bc) (.slice l0.wa blankD.waiting.length l0.wc) 92
  have hA0 := gal hb0 (.cells #[.slice l0.ba blankD.blocks.length l0.bc, .slice l0.wa blankD.waiting.length l0.wc] 92)
  have hI0 : MD (w1.alloc (.cells #[.slice l0.ba blankD.blocks.length l0.bc, .slice l0.wa blankD.waiting.length l0.wc] 92)) w.heap.size w1.heap.size l0 blankD fa0 fb0 fc0 fe0 := hm0.grow (gal (gre w1) _)
  have hVw := hb0.size
  have hw2 : (w1.alloc (.cells #[.slice l0.ba blankD.blocks.length l0.bc, .slice l0.wa blankD.waiting.length l0.wc] 92)).heap.size = w1.heap.size + 1 := by simp
  generalize w1.alloc (.cells #[.slice l0.ba blankD.blocks.length l0.bc, .slice l0.wa blankD.waiting.length l0.wc] 92) = w2 at hV0 hI0 hA0 hw2 ⊢
  have hP0 : PInv w w2 w1.heap.size blankD none 0 [] w.heap.size w1.heap.size l0 fa0 fb0 fc0 fe0 := ⟨⟨hV0, hI0, Or.inr (Nat.le_refl _), by omega⟩, IT.nil _ _, fun y hy => (by cases hy), fun z hz => (by simp [Value.ownBlock] at hz), hA0, Nat.le_refl _⟩
  generalize w1.heap.size = C at hP0 hVw ⊢
  clear hV0 hI0 hA0 hm0 hb0 hw2
  go_wp2
  go_loopw [4, 14] (fun o i wr => ∃ (k : Nat) (oa : Option Addr) (oc : Nat) (lt : List LT) (lo hi : Nat) (l : DL) (fa fb : Nat → Option Addr) (fc fe : Nat → Nat), k ≤ ls.length ∧ i = .int .i64 k ∧ o = .slice oa lt.length oc ∧ Hid (lt.map LT.t = ansN ls k) ∧ Hid (lt.length = k) ∧ PInv w wr C (diskN ls k) oa oc lt lo hi l fa fb fc fe) (fun _ i _ => ls.length - (intOf i).toNat)
  case atStart => exact ⟨0, none, 0, [], _, _, l0, fa0, fb0, fc0, fe0, Nat.zero_le _, rfl, rfl, rfl, rfl, hP0⟩
  case round =>
   obtain ⟨k, oa, oc, lt, lo, hi', l, fa, fb, fc, fe, hk, rfl, rfl, hlm, hll, hP⟩ := hrel
   clear hP0
   by_cases hlt : k < ls.length
   ·
    obtain ⟨x, b, off, ga, gc, ka, kc, hvk, hvm, rfl, hc0, hn0, hkk0⟩ := ha.get hlt
    have hkC : ∀ b off, ka = some ⟨b, off, none⟩ → 0 < x.kept.length → b ≠ C := fun b off e h0 => by
     obtain ⟨b', off', e', hc'⟩ := hkk0 0 h0
     have h1 := World.block_lt_of_cell? _ _ hc'
     rw [e] at e'
     have h2 := congrArg (fun q => q.map Addr.block) e'
     simp at h1 h2
     omega
    have hc := hc0.grow hP.bel
    have i0' : (0 : Int) ≤ (k : Int) := by omega
    have i1' : (k : Int) < (ls.length : Int) := by omega
    obtain ⟨c0, c1, c2, c3, c4, c5, c6, c7, c8, c9, c10⟩ := id hc
    have hG := diskN_good ls k
    have hr0 : Hid (diskN ls (k + 1) = ((diskN ls k).doA x).1 ∧ ansN ls (k + 1) = ansN ls k ++ [((diskN ls k).doA x).2]) := ⟨by rw [hvk.out]; rfl, by rw [hvk.out]; rfl⟩
    obtain ⟨e, he⟩ := hid_ex (diskN ls k)
    rw [← he.out] at hP hG hr0
    obtain ⟨r, hr⟩ := hid_ex (e.doA x)
    rw [← hr.out] at hr0
    obtain ⟨d3, t⟩ := r
    go_upto_region 8 with fail
    have hAl := gal (gre wr) (.cells #[.int .i64 x.op, .int .i64 x.graph.root.kind, .int .i64 x.graph.root.num, .string x.graph.root.text, .int .i64 x.graph.root.node, .slice ga x.graph.nodes.length gc, .int .i64 x.steps, .slice ka x.kept.length kc, .int .i64 x.block, .int .i64 x.byte, .int .i64 x.xor] 87)
    have hY := ActAt.new_at wr x ga gc ka kc 87 wr.heap.size rfl
    have hs2 : (wr.alloc (.cells #[.int .i64 x.op, .int .i64 x.graph.root.kind, .int .i64 x.graph.root.num, .string x.graph.root.text, .int .i64 x.graph.root.node, .slice ga x.graph.nodes.length gc, .int .i64 x.steps, .slice ka x.kept.length kc, .int .i64 x.block, .int .i64 x.byte, .int .i64 x.xor] 87)).heap.size = wr.heap.size + 1 := by simp
    generalize wr.alloc (.cells #[.int .i64 x.op, .int .i64 x.graph.root.kind, .int .i64 x.graph.root.num, .string x.graph.root.text, .int .i64 x.graph.root.node, .slice ga x.graph.nodes.length gc, .int .i64 x.steps, .slice ka x.kept.length kc, .int .i64 x.block, .int .i64 x.byte, .int .i64 x.xor] 87) = wA at hAl hY hs2 ⊢
    have hIA := hP.id.grow hAl
    have hITA := hP.it.grow hAl
    have hbA := gca hP.bel hAl
    clear c0 c1 c2 c3 c4 c5 c6 c7 c8 c9 c10
    obtain ⟨p0, p1, p2, p3, p4, p5, p6, p7, p8, p9, p10⟩ := id hY
    simp only [Nat.zero_add] at p1 p2 p3 p4 p5 p6 p7 p8 p9 p10
    have hdo := do_any C lo hi' l e fa fb fc fe x ga gc ka kc wA hIA hG (hv x hvm) (hn0.grow hbA) (hkk0.grow hbA) hkC
    rw [← hr.out] at hdo
    have hCl := hP.id.box.lt
    have hiw := hP.id.hiw
    have hrow : ∀ z, (Value.slice oa lt.length oc).ownBlock = some z → z < wr.heap.size ∧ C + 1 ≤ z := fun z hz => by
     obtain ⟨⟨c, hc⟩, h2⟩ := owns_isTk hP.it.own hz
     exact ⟨(Array.getElem?_eq_some_iff.1 hc).1, h2⟩
    have hC0 : 0 < w.heap.size := by
     have := World.block_lt_of_cell? _ _ hg'.out
     simpa using this
    -- the act, and its answer
    have hboth : Calls Tryz.prog 44 #[.pointer (some ⟨C, 0, none⟩), x.val ga gc ka kc] wA fun e2 w2 => ∃ v na nc nl lo2 hi2 l2 fa2 fb2 fc2 fe2, e2 = .returned v ∧ AnsV t na nc v ∧ nl.map (·.n) = t.g.nodes ∧ OwnG w2 wA.heap.size na nc nl ∧ ID w2 C lo2 hi2 l2 d3 fa2 fb2 fc2 fe2 ∧ Hid ((lo2 = lo ∧ hi2 = hi') ∨ (wA.heap.size ≤ lo2 ∧ nl = [] ∧ na = none)) ∧ Kept (fun z => z = C ∨ (lo ≤ z ∧ z < hi')) wA w2 := hdo
    go_wp2_with (go_at_call 44; refine hboth.mono ?_; rintro e2 w2 ⟨v, na, nc, nl, lo2, hi2, l2, fa2, fb2, fc2, fe2, rfl, rfl | ⟨hz, rfl, rfl, rfl⟩, hnl, hO2, hI2, hlo2, hK2⟩)
    ·
     skip
     have hb2A : Below w.heap.size w w2 := hbA.trans (hK2.below hbA.size (fun z hz e => by have := hP.low; omega))
     have hs2A := hK2.size
     have hIT2 := hITA.kept hK2 (fun z hz e => by have := hrow z hz; have := hP.ar z hz; omega) (fun y hy z h1 h2 e => by have := hP.it.rng y hy; have := hP.ap y hy; omega)
     refine (answered_nil t na nc w2).mono ?_
     rintro e3 w3 ⟨rfl, hb3⟩
     have hIT3 := hIT2.grow hb3
     have hI3 := hI2.grow hb3
     have hb3A := gca hb2A hb3
     have hs3 := hb3.size
     have hO3 := hO2.kept (Kept.of_below hb3 (fun _ => False)) (fun _ _ e => e) (fun _ _ _ _ e => e)
     have hB4 := gal (gre w3) (.cells #[.int .i64 t.code, .int .i64 t.gen, .int .i64 t.g.root.kind, .int .i64 t.g.root.num, .string t.g.root.text, .int .i64 t.g.root.node, .slice na t.g.nodes.length nc] 33)
     have hIT4 := hIT3.grow hB4
     have hI4 := hI3.grow hB4
     have hb4A := gca hb3A hB4
     have hO4 := hO3.kept (Kept.of_below hB4 (fun _ => False)) (fun _ _ e => e) (fun _ _ _ _ e => e)
     have hs4 : (w3.alloc (.cells #[.int .i64 t.code, .int .i64 t.gen, .int .i64 t.g.root.kind, .int .i64 t.g.root.num, .string t.g.root.text, .int .i64 t.g.root.node, .slice na t.g.nodes.length nc] 33)).heap.size = w3.heap.size + 1 := by simp
     go_wp2_with (at_builtin; refine wpList_append_lies _ rfl (.tmp 18) (.tmp 24) 46 rfl (C + 1) 33 i0 _ 7 80 Tryz.underlying46 hi hz0 hz1 hz2 rfl (by decide) _ _ _ rfl hIT4.own ⟨w3.heap.size, 0, none⟩ 1 1 [.int .i64 t.code, .int .i64 t.gen, .int .i64 t.g.root.kind, .int .i64 t.g.root.num, .string t.g.root.text, .int .i64 t.g.root.node, .slice na t.g.nodes.length nc] rfl rfl (World.news_of_block (cs := #[.int .i64 t.code, .int .i64 t.gen, .int .i64 t.g.root.kind, .int .i64 t.g.root.num, .string t.g.root.text, .int .i64 t.g.root.node, .slice na t.g.nodes.length nc]) (t := 33) (fr := (0, 0)) (blk_new_at _ _ _ rfl)) (by simp [Value.oneCell']) (by decide) (by unfold maxLen; have := hll.out; omega) (by have := hll.out; omega) (by omega) (w3.heap.size + 1) hs4 ?_; intro gg cc w5 hown5 hgrow5 hat5 hlt5)
     generalize w3.alloc (.cells #[.int .i64 t.code, .int .i64 t.gen, .int .i64 t.g.root.kind, .int .i64 t.g.root.num, .string t.g.root.text, .int .i64 t.g.root.node, .slice na t.g.nodes.length nc] 33) = w4 at hB4 hIT4 hI4 hb4A hO4 hs4 hown5 hgrow5
     have hlk := hll.out
     have K5 := Kept.of_grown hgrow5
     have hz5 : ∀ z, (Value.slice oa lt.length oc).ownBlock = some z → z < wr.heap.size ∧ C + 1 ≤ z := hrow
     have hlo2' := hlo2.out
     have hb5A := hb4A.trans (K5.below hb4A.size (fun z hz e => by have := (hrow z e).2; omega))
     have hI5 := hI4.kept K5 (fun e => by have := (hrow _ e).2; omega) (fun z h1 h2 e => by have := hP.ar z e; have := hrow z e; omega)
     obtain ⟨H, hH⟩ : ∃ H, Hid (H = if nl = [] ∧ na = none then wA.heap.size else w2.heap.size) := ⟨_, rfl⟩
     have hH1 : wA.heap.size ≤ H ∧ H ≤ w2.heap.size := by rw [hH.out]; split <;> omega
     have hH2 : H ≤ lo2 ∨ hi2 ≤ wA.heap.size := by
      rcases hlo2' with e | e
      · exact Or.inr (by omega)
      · exact Or.inl (by rw [hH.out, if_pos e.2]; exact e.1)
     have hH3 : ∀ b, Touch na nl.length (fun i => nl[i]!.a) b → b < H := fun b hb => by
      have h1 := hO2.touch hb
      rw [hH.out]
      split
      ·
       rename_i e
       rcases hb with e2 | ⟨i, hi2, _⟩
       · rw [e.2] at e2; cases e2
       · rw [e.1] at hi2; exact absurd hi2 (Nat.not_lt_zero _)
      · exact h1.2
     have hIT5 := hIT4.push (y := ⟨t, na, nc, nl, wA.heap.size, H⟩) ⟨by show C + 1 ≤ wA.heap.size; omega, hH1.1, by show H ≤ w4.heap.size; omega⟩ (fun z hz => Or.inl (by have := hrow z hz; show z < wA.heap.size; omega)) ⟨hnl, hO4, hH3⟩ (fun y hy => by have := hP.it.rng y hy; show y.hi ≤ wA.heap.size; omega) hown5 hgrow5 (by rw [hs4]; exact hat5)
     have hap5 : ∀ y, y ∈ lt ++ [(⟨t, na, nc, nl, wA.heap.size, H⟩ : LT)] → y.hi ≤ lo2 ∨ hi2 ≤ y.lo := fun y hy => by
      rcases List.mem_append.1 hy with e | e
      ·
       have h1 := hP.ap y e
       have h2 := hP.it.rng y e
       omega
      ·
       obtain rfl : y = ⟨t, na, nc, nl, wA.heap.size, H⟩ := by simpa using e
       exact hH2
     have har5 : ∀ z, (Value.slice (some ⟨gg, 0, none⟩) (lt ++ [(⟨t, na, nc, nl, wA.heap.size, H⟩ : LT)]).length cc).ownBlock = some z → z < lo2 ∨ hi2 ≤ z := fun z hz => by
      have e : z = gg := by simpa [Value.ownBlock] using hz.symm
      subst e
      have h0 := hI2.hiw
      rcases hat5 with e | e
      ·
       have h1 := hP.ar z e
       have h2 := hrow z e
       omega
      · exact Or.inr (by omega)
     have hP5 : PInv w w5 C d3 (some ⟨gg, 0, none⟩) cc (lt ++ [⟨t, na, nc, nl, wA.heap.size, H⟩]) lo2 hi2 l2 fa2 fb2 fc2 fe2 := ⟨hI5, hIT5, hap5, har5, hb5A, by have := hP.low; have := hbA.size; rcases hlo2' with e | e <;> omega⟩
     go_roundw
     case rel =>
      refine ⟨k + 1, some ⟨gg, 0, none⟩, cc, lt ++ [⟨t, na, nc, nl, wA.heap.size, H⟩], lo2, hi2, l2, fa2, fb2, fc2, fe2, by omega, by go_num, by rw [List.length_append, hlk]; rfl, ?_, ?_, ?_⟩
      ·
       show _ = _
       rw [List.map_append, hlm.out, hr0.out.2]; rfl
      ·
       show _ = _
       rw [List.length_append, hlk]; rfl
      · rw [hr0.out.1]; exact hP5
     case measure => simp [intOf]; omega
    ·
     have hz' : Hid _ := hz
     clear hz
     have hb2A : Below w.heap.size w w2 := hbA.trans (hK2.below hbA.size (fun z hz e => by have := hP.low; omega))
     have hs2A := hK2.size
     have hIT2 := hITA.kept hK2 (fun z hz e => by have := hrow z hz; have := hP.ar z hz; omega) (fun y hy z h1 h2 e => by have := hP.it.rng y hy; have := hP.ap y hy; omega)
     have htz : Hid (TK.mk t.code t.gen zeroG = t) := by show _ = _; cases t; simp only [TK.mk.injEq, true_and]; exact hz'.out.symm
     have hah := answered_hit ⟨0, 0, zeroG⟩ none 0 t.code t.gen w2 (cell_later hb2A hg'.out)
     rw [htz.out] at hah
     refine hah.mono ?_
     rintro e3 w3 ⟨rfl, hb3⟩
     have hIT3 := hIT2.grow hb3
     have hI3 := hI2.grow hb3
     have hb3A := gca hb2A hb3
     have hs3 := hb3.size
     have hO3 := hO2.kept (Kept.of_below hb3 (fun _ => False)) (fun _ _ e => e) (fun _ _ _ _ e => e)
     have hB4 := gal (gre w3) (.cells #[.int .i64 t.code, .int .i64 t.gen, .int .i64 t.g.root.kind, .int .i64 t.g.root.num, .string t.g.root.text, .int .i64 t.g.root.node, .slice none t.g.nodes.length 0] 33)
     have hIT4 := hIT3.grow hB4
     have hI4 := hI3.grow hB4
     have hb4A := gca hb3A hB4
     have hO4 := hO3.kept (Kept.of_below hB4 (fun _ => False)) (fun _ _ e => e) (fun _ _ _ _ e => e)
     have hs4 : (w3.alloc (.cells #[.int .i64 t.code, .int .i64 t.gen, .int .i64 t.g.root.kind, .int .i64 t.g.root.num, .string t.g.root.text, .int .i64 t.g.root.node, .slice none t.g.nodes.length 0] 33)).heap.size = w3.heap.size + 1 := by simp
     go_wp2_with (at_builtin; refine wpList_append_lies _ rfl (.tmp 18) (.tmp 24) 46 rfl (C + 1) 33 i0 _ 7 80 Tryz.underlying46 hi hz0 hz1 hz2 rfl (by decide) _ _ _ rfl hIT4.own ⟨w3.heap.size, 0, none⟩ 1 1 [.int .i64 t.code, .int .i64 t.gen, .int .i64 t.g.root.kind, .int .i64 t.g.root.num, .string t.g.root.text, .int .i64 t.g.root.node, .slice none t.g.nodes.length 0] rfl rfl (World.news_of_block (cs := #[.int .i64 t.code, .int .i64 t.gen, .int .i64 t.g.root.kind, .int .i64 t.g.root.num, .string t.g.root.text, .int .i64 t.g.root.node, .slice none t.g.nodes.length 0]) (t := 33) (fr := (0, 0)) (blk_new_at _ _ _ rfl)) (by simp [Value.oneCell']) (by decide) (by unfold maxLen; have := hll.out; omega) (by have := hll.out; omega) (by omega) (w3.heap.size + 1) hs4 ?_; intro gg cc w5 hown5 hgrow5 hat5 hlt5)
     generalize w3.alloc (.cells #[.int .i64 t.code, .int .i64 t.gen, .int .i64 t.g.root.kind, .int .i64 t.g.root.num, .string t.g.root.text, .int .i64 t.g.root.node, .slice none t.g.nodes.length 0] 33) = w4 at hB4 hIT4 hI4 hb4A hO4 hs4 hown5 hgrow5
     have hlk := hll.out
     have K5 := Kept.of_grown hgrow5
     have hz5 : ∀ z, (Value.slice oa lt.length oc).ownBlock = some z → z < wr.heap.size ∧ C + 1 ≤ z := hrow
     have hlo2' := hlo2.out
     have hb5A := hb4A.trans (K5.below hb4A.size (fun z hz e => by have := (hrow z e).2; omega))
     have hI5 := hI4.kept K5 (fun e => by have := (hrow _ e).2; omega) (fun z h1 h2 e => by have := hP.ar z e; have := hrow z e; omega)
     obtain ⟨H, hH⟩ : ∃ H, Hid (H = if nl = [] ∧ (none : Option Addr) = none then wA.heap.size else w2.heap.size) := ⟨_, rfl⟩
     have hH1 : wA.heap.size ≤ H ∧ H ≤ w2.heap.size := by rw [hH.out]; split <;> omega
     have hH2 : H ≤ lo2 ∨ hi2 ≤ wA.heap.size := by
      rcases hlo2' with e | e
      · exact Or.inr (by omega)
      · exact Or.inl (by rw [hH.out, if_pos ⟨e.2.1, rfl⟩]; exact e.1)
     have hH3 : ∀ b, Touch none nl.length (fun i => nl[i]!.a) b → b < H := fun b hb => by
      have h1 := hO2.touch hb
      rw [hH.out]
      split
      ·
       rename_i e
       rcases hb with e2 | ⟨i, hi2, _⟩
       · rw [e.2] at e2; cases e2
       · rw [e.1] at hi2; exact absurd hi2 (Nat.not_lt_zero _)
      · exact h1.2
     have hIT5 := hIT4.push (y := ⟨t, none, 0, nl, wA.heap.size, H⟩) ⟨by show C + 1 ≤ wA.heap.size; omega, hH1.1, by show H ≤ w4.heap.size; omega⟩ (fun z hz => Or.inl (by have := hrow z hz; show z < wA.heap.size; omega)) ⟨hnl, hO4, hH3⟩ (fun y hy => by have := hP.it.rng y hy; show y.hi ≤ wA.heap.size; omega) hown5 hgrow5 (by rw [hs4]; exact hat5)
     have hap5 : ∀ y, y ∈ lt ++ [(⟨t, none, 0, nl, wA.heap.size, H⟩ : LT)] → y.hi ≤ lo2 ∨ hi2 ≤ y.lo := fun y hy => by
      rcases List.mem_append.1 hy with e | e
      ·
       have h1 := hP.ap y e
       have h2 := hP.it.rng y e
       omega
      ·
       obtain rfl : y = ⟨t, none, 0, nl, wA.heap.size, H⟩ := by simpa using e
       exact hH2
     have har5 : ∀ z, (Value.slice (some ⟨gg, 0, none⟩) (lt ++ [(⟨t, none, 0, nl, wA.heap.size, H⟩ : LT)]).length cc).ownBlock = some z → z < lo2 ∨ hi2 ≤ z := fun z hz => by
      have e : z = gg := by simpa [Value.ownBlock] using hz.symm
      subst e
      have h0 := hI2.hiw
      rcases hat5 with e | e
      ·
       have h1 := hP.ar z e
       have h2 := hrow z e
       omega
      · exact Or.inr (by omega)
     have hP5 : PInv w w5 C d3 (some ⟨gg, 0, none⟩) cc (lt ++ [⟨t, none, 0, nl, wA.heap.size, H⟩]) lo2 hi2 l2 fa2 fb2 fc2 fe2 := ⟨hI5, hIT5, hap5, har5, hb5A, by have := hP.low; have := hbA.size; rcases hlo2' with e | e <;> omega⟩
     go_roundw
     case rel =>
      refine ⟨k + 1, some ⟨gg, 0, none⟩, cc, lt ++ [⟨t, none, 0, nl, wA.heap.size, H⟩], lo2, hi2, l2, fa2, fb2, fc2, fe2, by omega, by go_num, by rw [List.length_append, hlk]; rfl, ?_, ?_, ?_⟩
      ·
       show _ = _
       rw [List.map_append, hlm.out, hr0.out.2]; rfl
      ·
       show _ = _
       rw [List.length_append, hlk]; rfl
      · rw [hr0.out.1]; exact hP5
     case measure => simp [intOf]; omega
   ·
    obtain rfl : k = ls.length := by omega
    go_wp2
    go_ret
    exact ⟨oa, oc, lt, by show Ending.returned (Value.slice oa lt.length oc) = _; rw [ansN_length, hll.out], hlm.out, hP.it.le (by omega), hP.bel⟩
 ·
  have e : Hid (playA ls = []) := if_neg h60
  rw [e.out]
  have hgt : (60 : Int) < (ls.length : Int) := by omega
  go_enter Tryz.func17, Tryz.ntmps17
  go_wp2
  go_ret
  exact ⟨none, 0, [], rfl, rfl, IT.nil _ _, gre _⟩
end Go.Proofs.YthjddpkegooobacGreatDoor
