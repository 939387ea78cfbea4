import Derived.Test.YthjddpkegooobacGreatPartW

/-
  LAW: FnExactKeep, walked. Own work.
-/
namespace Go.Proofs.YthjddpkegooobacGreat
open Go.RowKit

theorem applyN_fitK {d : DD} {ops : List OP} (hd : d.Ok) (hok : OpsOk ops) (hk : d.ok = true) : ∀ j e, j ≤ ops.length → applyN d ops j = some e → e.Ok ∧ e.ok = true
  | 0, e, _, h => by cases h; exact ⟨hd, hk⟩
  | j + 1, e, hj, h => by
    cases h2 : applyN d ops j with
    | none => rw [applyN_none h2 1] at h; cases h
    | some f =>
      obtain ⟨h3, h4⟩ := applyN_fitK hd hok hk j f (by omega) h2
      have hm : ops[j]! ∈ ops := mem_at (by omega)
      cases h5 : (f.step ops[j]!).ok with
      | false => rw [applyN_no h2 h5] at h; cases h
      | true =>
        rw [applyN_yes h2 h5] at h
        cases h
        exact ⟨step_ok h3 h4 (hok.bl _ hm) (hok.by_ _ hm), h5⟩
theorem keep_tame {d : DD} {g : GG} (hd : d.Ok) : (d.keep g).Tame := by
  have hok := (ops_okK (d := d) (packB_bytesK g)).1
  unfold DD.keep
  split
  · exact zero_tame
  · unfold DD.apply
    split
    · rename_i h
      cases h2 : applyN d (d.ops (packB g)) (((d.ops (packB g)).length : Int)).toNat with
      | none => exact zero_tame
      | some e =>
        obtain ⟨h3, h4⟩ := applyN_fitK hd hok h.1 _ _ (by omega) h2
        exact (DD.fit h4).tame h3
    · exact zero_tame

theorem mend_posK (d : DD) : 0 < d.mend 1 := by
  have h1 : bE (fun i => d.blocks[i]!) 1 0 ≤ bE (fun i => d.blocks[i]!) 1 d.blocks.length := bE_le _ _ (Nat.zero_le _)
  have h2 : wE (fun i => d.waiting[i]!.bytes) (bE (fun i => d.blocks[i]!) 1 d.blocks.length) 0 ≤ wE (fun i => d.waiting[i]!.bytes) (bE (fun i => d.blocks[i]!) 1 d.blocks.length) d.waiting.length := wE_le _ _ (Nat.zero_le _)
  simp only [bE, wE] at h1 h2
  unfold DD.mend
  omega

set_option maxHeartbeats 8000000 in
set_option maxRecDepth 100000 in
theorem lawKeep (d : DD) (l : DL) (a : Option Addr) (cap : Nat) (g : GG) (w : World) (hd : d.Ok) (ha : DAt w l d) (hg : g.Ok) (hga : NodesAt w.heap.size w a g.nodes) :
    Calls Tryz.prog 3 #[d.val l, g.val a cap] w fun e w' => e = .returned (.bool true) ∧ Below w.heap.size w w' := by
  have hX0 := (DBox.new w d l 25).grow (gal (gre _) (.cells #[.int .i64 g.root.kind, .int .i64 g.root.num, .string g.root.text, .int .i64 g.root.node, .slice a g.nodes.length cap] 30))
  have hG0 := GBox.new (w.alloc (.cells #[.slice l.ba d.blocks.length l.bc, .slice l.wa d.waiting.length l.wc] 25)) g a cap 30
  have hszA : (w.alloc (.cells #[.slice l.ba d.blocks.length l.bc, .slice l.wa d.waiting.length l.wc] 25)).heap.size = w.heap.size + 1 := by simp
  rw [hszA] at hG0
  have hA0 : Below w.heap.size w ((w.alloc (.cells #[.slice l.ba d.blocks.length l.bc, .slice l.wa d.waiting.length l.wc] 25)).alloc (.cells #[.int .i64 g.root.kind, .int .i64 g.root.num, .string g.root.text, .int .i64 g.root.node, .slice a g.nodes.length cap] 30)) := gal (gal (gre w) _) _
  have hdz : 0 ≤ d.sz := by have := d.mend_sz 0; omega
  have hgz : 0 ≤ g.sz := by have h0 := g.root.sz_nonneg; have h1 := szNodes_nonneg g.nodes; unfold GG.sz; omega
  by_cases hs1 : d.sz ≤ 1048576
  · have hd1 : ¬ (1048576 - d.sz < 0) := by omega
    have hle1 : Hid (leftBy 1048576 d.sz = 1048576 - d.sz) := leftBy_pos (by omega)
    by_cases hs2 : g.sz ≤ 1048576 - d.sz
    · have hs := DD.small hs1
      have hm1 := DD.small_mend hs1
      obtain ⟨hl, hv⟩ := GG.small (g := g) (by omega)
      have hle2 : Hid (leftBy (1048576 - d.sz) g.sz = 1048576 - d.sz - g.sz) := leftBy_pos (by omega)
      have hd2 : ¬ (1048576 - d.sz - g.sz < 0) := by omega
      obtain ⟨c, hc⟩ := hid_ex (d.keep g)
      have hct : c.Tame := by rw [hc.out]; exact keep_tame hd
      have hmc := hct.mend
      obtain ⟨mx, hmx⟩ := hid_ex (d.mend 1)
      have hmx2 : mx ≤ 549755813888 := by rw [hmx.out]; have := d.mend_sz 1; omega
      obtain ⟨my, hmy⟩ := hid_ex (mEnd mx g.nodes)
      have hmx1 : 0 < mx := by rw [hmx.out]; exact mend_posK d
      have hmy2 : my ≤ 1099511627776 := by have h9 := mEnd_sz g.nodes mx; have h8 := g.root.sz_nonneg; have h7 := hs2; unfold GG.sz at h7; rw [← hmy.out] at h9; omega
      have hmyn : ¬ ((my : Int) < 0) := by omega
      obtain ⟨m, hme⟩ := hid_ex (c.mend 1)
      have hmn : ¬ ((m : Int) < 0) := by omega
      have hmm : ((m : Int) != (m : Int)) = false := by simp
      clear hs1
      go_enter Tryz.func3, Tryz.ntmps3
      go_upto_region 8 with (first
        | (go_at_call 4; refine (szDisk_any d l _ _ hd (by decide) (by decide) (ha.grow hA0)).mono ?_; rintro e w1 ⟨rfl, hb1⟩; rw [hle1.out]; obtain ⟨_, y0, y1, y2, y3, y4⟩ := hG0.grow hb1)
        | (go_at_call 5; refine (szGraph_any a cap g _ _ hg (by omega) (by omega) (hga.grow (gca hA0 hb1))).mono ?_; rintro e ws ⟨rfl, hb1b⟩; rw [hle2.out]))
      have hXs := (hX0.grow hb1).grow hb1b
      have hQs := (hG0.grow hb1).grow hb1b
      have hBs := gca (gca hA0 hb1) hb1b
      obtain ⟨PA, hPA⟩ := hid_ex w.heap.size
      obtain ⟨PB, hPB⟩ := hid_ex (w.heap.size + 1)
      rw [← hPB.out] at hQs
      rw [← hPA.out] at hXs
      rw [← hPB.out, ← hPA.out]
      clear y0 y1 y2 y3 y4 hb1 hb1b hX0 hG0 hA0
      go_cut [6] from 24 (fun v wc => ∃ (P0 : Nat) (l0 : DL), v = .pointer (some ⟨P0, 0, none⟩) ∧ DBox wc P0 c l0 ∧ DAt wc l0 c ∧ Below ws.heap.size ws wc)
      case first =>
        have hB : Below ws.heap.size ws ws.drew := gdr (gre _)
        refine wp_regionU (fun u => DBox u PA d l ∧ GBox u PB g a cap) 6 (by kernel_rfl) ⟨hXs.grow hB, hQs.grow hB⟩ (fun _ => ?_)
        generalize ws.drew = wq at hB ⊢
        refine anyU_take (i := 0) (v := ?_) rfl (by kernel_rfl) (by kernel_rfl) (by kernel_rfl) (by kernel_rfl) (fun _ _ _ h => h) (Or.inl ⟨by rfl, ?_⟩) ⟨hXs.grow hB, hQs.grow hB⟩ ?_
        rotate_left
        · intro u hSu; obtain ⟨⟨_, s0, s1⟩, ⟨_, t0, t1, t2, t3, t4⟩⟩ := hSu; go_simp <;> with_reducible rfl
        simp only [Act.put, List.getElem_toArray, List.getElem_cons_zero, List.setIfInBounds_toArray, List.set_cons_zero, List.set_cons_succ]
        refine anyU_take (i := 2) (v := ?_) rfl (by kernel_rfl) (by kernel_rfl) (by kernel_rfl) (by kernel_rfl) (fun _ _ _ h => h) (Or.inl ⟨by rfl, ?_⟩) ⟨hXs.grow hB, hQs.grow hB⟩ ?_
        rotate_left
        · intro u hSu; obtain ⟨⟨_, s0, s1⟩, ⟨_, t0, t1, t2, t3, t4⟩⟩ := hSu; go_simp <;> with_reducible rfl
        simp only [Act.put, List.getElem_toArray, List.getElem_cons_zero, List.getElem_cons_succ, List.setIfInBounds_toArray, List.set_cons_zero, List.set_cons_succ]
        refine anyU_pair (i := 1) (j := 5) (by kernel_rfl) rfl rfl (fun K hK => ?_) (fun K hK => ?_)
        · skip
          go_simp
          refine (toDisk_any d l _ hs (ha.grow (gca hBs hB))).mono ?_
          rintro e w2 ⟨l2, bs2, xs2, rfl, hown2, hb2⟩
          have hd2 := hown2.at_
          have hB := gca hB hb2
          refine hK.out _ _ ⟨hXs.grow hB, hQs.grow hB⟩ ?_
          clear hK
          refine anyU_pair (i := 3) (j := 5) (by kernel_rfl) rfl rfl (fun K hK => ?_) (fun K hK => ?_)
          · skip
            go_simp
            refine (toGraph_any a cap g _ hl hv (hga.grow (gca hBs hB))).mono ?_
            rintro e w3 ⟨b3, bs3, rfl, _, hown3, hb3⟩
            have hn3 := hown3.at_
            have hd2 := hd2.grow hb3
            have hB := gca hB hb3
            refine hK.out _ _ ⟨hXs.grow hB, hQs.grow hB⟩ ?_
            clear hK
            refine anyU_pair (i := 4) (j := 5) (by kernel_rfl) rfl rfl (fun K hK => ?_) (fun K hK => ?_)
            · skip
              go_simp
              refine (specKeep_any d l2 _ _ g _ hd hd2 hg hn3).mono ?_
              rw [← hc.out]
              rintro e w4 ⟨lb, lw, ba, bc, wa, wc, rfl, hmb, hmw, hsb, hsw, hb4⟩
              have hB := gca hB hb4
              refine hK.out _ _ ⟨hXs.grow hB, hQs.grow hB⟩ ?_
              clear hK
              refine anyU_one (i := 5) (by kernel_rfl) rfl (fun K hK => ?_)
              go_simp
              obtain ⟨w4a, hw4a⟩ : ∃ u, Hid (u = w4.alloc (.cells #[.slice none 0 0, .slice none 0 0] 35)) := ⟨_, rfl⟩
              obtain ⟨P0, hP0⟩ := hid_ex w4.heap.size
              rw [← hw4a.out, ← hP0.out]
              have hbA : Below w4.heap.size w4 w4a := by rw [hw4a.out]; exact gal (gre _) _
              have hvb : VB w4a P0 (.slice none 0 0) (.slice none 0 0) := by rw [hw4a.out, hP0.out]; exact VB.new _ _ _ _
              have hid : w4a.heap[P0]? = some (.cells #[.slice none 0 0, .slice none 0 0] 35 (0, 0)) := by rw [hw4a.out, hP0.out]; exact blk_new_at _ _ _ rfl
              have hvl : P0 < w4a.heap.size := by rw [hw4a.out, hP0.out]; simp
              have hPw : ws.heap.size ≤ P0 := by rw [hP0.out]; exact hB.size
              have hB := gca hB hbA
              have hsb := hsb.grow hbA
              have hsw := hsw.grow hbA
              refine hK.out _ _ ⟨hXs.grow hB, hQs.grow hB⟩ ?_
              clear hK
              obtain ⟨z0, z1, zf⟩ := id hvb
              refine anyU_last (by kernel_rfl) rfl (by kernel_rfl) (fun K hK => ?_)
              go_simp
              refine hK.out _ _ ?_
              clear hK
              have hKP : Kept (fun z => z = P0) w4a ((w4a.setCell ⟨P0, 0, none⟩ (.slice ba c.blocks.length bc)).setCell ⟨P0, 1, none⟩ (.slice wa c.waiting.length wc)) := ((Kept.refl (fun z => z = P0) w4a).set (a := ⟨P0, 0, none⟩) (fun _ => rfl) _).set (a := ⟨P0, 1, none⟩) (fun _ => rfl) _
              have hv5 := (hvb.set0 (.slice ba c.blocks.length bc)).set1 (.slice wa c.waiting.length wc)
              have hB5 : Below ws.heap.size ws ((w4a.setCell ⟨P0, 0, none⟩ (.slice ba c.blocks.length bc)).setCell ⟨P0, 1, none⟩ (.slice wa c.waiting.length wc)) := hB.trans (hKP.below hB.size (fun z hz e => by omega))
              have hIsD : IsD w4a P0 := ⟨_, hid⟩
              have hat5 : DAt ((w4a.setCell ⟨P0, 0, none⟩ (.slice ba c.blocks.length bc)).setCell ⟨P0, 1, none⟩ (.slice wa c.waiting.length wc)) ⟨ba, bc, wa, wc⟩ c := ⟨by have := (hsb.kept hKP (fun z e _ => by subst e; exact ⟨not_S_of_D hIsD, not_B_of_D hIsD⟩)).at_; rwa [hmb] at this, by have := (hsw.kept hKP (fun z e _ => by subst e; exact ⟨not_W_of_D hIsD, not_B_of_D hIsD⟩)).at_; rwa [hmw] at this⟩
              generalize ((w4a.setCell ⟨P0, 0, none⟩ (.slice ba c.blocks.length bc)).setCell ⟨P0, 1, none⟩ (.slice wa c.waiting.length wc)) = w5 at hv5 hB5 hat5 ⊢
              go_wp2
              go_meet
              case rel => exact ⟨P0, ⟨ba, bc, wa, wc⟩, rfl, ⟨hv5.lt, hv5.v0, hv5.v1⟩, hat5, hB5⟩
            · skip
              go_simp
              obtain ⟨w3a, hw3a⟩ : ∃ u, Hid (u = w3.alloc (.cells #[.slice none 0 0, .slice none 0 0] 35)) := ⟨_, rfl⟩
              obtain ⟨P0, hP0⟩ := hid_ex w3.heap.size
              rw [← hw3a.out, ← hP0.out]
              have hbA : Below w3.heap.size w3 w3a := by rw [hw3a.out]; exact gal (gre _) _
              have hvb : VB w3a P0 (.slice none 0 0) (.slice none 0 0) := by rw [hw3a.out, hP0.out]; exact VB.new _ _ _ _
              have hid : w3a.heap[P0]? = some (.cells #[.slice none 0 0, .slice none 0 0] 35 (0, 0)) := by rw [hw3a.out, hP0.out]; exact blk_new_at _ _ _ rfl
              have hvl : P0 < w3a.heap.size := by rw [hw3a.out, hP0.out]; simp
              have hPw : ws.heap.size ≤ P0 := by rw [hP0.out]; exact hB.size
              have hB := gca hB hbA
              have hd2 := hd2.grow hbA
              have hn3 := hn3.grow hbA
              refine hK.out _ _ ⟨hXs.grow hB, hQs.grow hB⟩ ?_
              clear hK
              refine anyU_one (i := 4) (by kernel_rfl) rfl (fun K hK => ?_)
              go_simp
              refine (specKeep_any d l2 _ _ g _ hd hd2 hg hn3).mono ?_
              rw [← hc.out]
              rintro e w4 ⟨lb, lw, ba, bc, wa, wc, rfl, hmb, hmw, hsb, hsw, hb4⟩
              have hB := gca hB hb4
              have hvb := hvb.grow hb4
              have hid := (hb4.block P0 hvl).trans hid
              have hvl0 := hvl
              have hvl := Nat.lt_of_lt_of_le hvl hb4.size
              refine hK.out _ _ ⟨hXs.grow hB, hQs.grow hB⟩ ?_
              clear hK
              obtain ⟨z0, z1, zf⟩ := id hvb
              refine anyU_last (by kernel_rfl) rfl (by kernel_rfl) (fun K hK => ?_)
              go_simp
              refine hK.out _ _ ?_
              clear hK
              have hKP : Kept (fun z => z = P0) w4 ((w4.setCell ⟨P0, 0, none⟩ (.slice ba c.blocks.length bc)).setCell ⟨P0, 1, none⟩ (.slice wa c.waiting.length wc)) := ((Kept.refl (fun z => z = P0) w4).set (a := ⟨P0, 0, none⟩) (fun _ => rfl) _).set (a := ⟨P0, 1, none⟩) (fun _ => rfl) _
              have hv5 := (hvb.set0 (.slice ba c.blocks.length bc)).set1 (.slice wa c.waiting.length wc)
              have hB5 : Below ws.heap.size ws ((w4.setCell ⟨P0, 0, none⟩ (.slice ba c.blocks.length bc)).setCell ⟨P0, 1, none⟩ (.slice wa c.waiting.length wc)) := hB.trans (hKP.below hB.size (fun z hz e => by omega))
              have hIsD : IsD w4 P0 := ⟨_, hid⟩
              have hat5 : DAt ((w4.setCell ⟨P0, 0, none⟩ (.slice ba c.blocks.length bc)).setCell ⟨P0, 1, none⟩ (.slice wa c.waiting.length wc)) ⟨ba, bc, wa, wc⟩ c := ⟨by have := (hsb.kept hKP (fun z e _ => by subst e; exact ⟨not_S_of_D hIsD, not_B_of_D hIsD⟩)).at_; rwa [hmb] at this, by have := (hsw.kept hKP (fun z e _ => by subst e; exact ⟨not_W_of_D hIsD, not_B_of_D hIsD⟩)).at_; rwa [hmw] at this⟩
              generalize ((w4.setCell ⟨P0, 0, none⟩ (.slice ba c.blocks.length bc)).setCell ⟨P0, 1, none⟩ (.slice wa c.waiting.length wc)) = w5 at hv5 hB5 hat5 ⊢
              go_wp2
              go_meet
              case rel => exact ⟨P0, ⟨ba, bc, wa, wc⟩, rfl, ⟨hv5.lt, hv5.v0, hv5.v1⟩, hat5, hB5⟩
          · skip
            go_simp
            obtain ⟨w2a, hw2a⟩ : ∃ u, Hid (u = w2.alloc (.cells #[.slice none 0 0, .slice none 0 0] 35)) := ⟨_, rfl⟩
            obtain ⟨P0, hP0⟩ := hid_ex w2.heap.size
            rw [← hw2a.out, ← hP0.out]
            have hbA : Below w2.heap.size w2 w2a := by rw [hw2a.out]; exact gal (gre _) _
            have hvb : VB w2a P0 (.slice none 0 0) (.slice none 0 0) := by rw [hw2a.out, hP0.out]; exact VB.new _ _ _ _
            have hid : w2a.heap[P0]? = some (.cells #[.slice none 0 0, .slice none 0 0] 35 (0, 0)) := by rw [hw2a.out, hP0.out]; exact blk_new_at _ _ _ rfl
            have hvl : P0 < w2a.heap.size := by rw [hw2a.out, hP0.out]; simp
            have hPw : ws.heap.size ≤ P0 := by rw [hP0.out]; exact hB.size
            have hB := gca hB hbA
            have hd2 := hd2.grow hbA
            refine hK.out _ _ ⟨hXs.grow hB, hQs.grow hB⟩ ?_
            clear hK
            refine anyU_one (i := 3) (by kernel_rfl) rfl (fun K hK => ?_)
            go_simp
            refine (toGraph_any a cap g _ hl hv (hga.grow (gca hBs hB))).mono ?_
            rintro e w3 ⟨b3, bs3, rfl, _, hown3, hb3⟩
            have hn3 := hown3.at_
            have hd2 := hd2.grow hb3
            have hB := gca hB hb3
            have hvb := hvb.grow hb3
            have hid := (hb3.block P0 hvl).trans hid
            have hvl0 := hvl
            have hvl := Nat.lt_of_lt_of_le hvl hb3.size
            refine hK.out _ _ ⟨hXs.grow hB, hQs.grow hB⟩ ?_
            clear hK
            refine anyU_one (i := 4) (by kernel_rfl) rfl (fun K hK => ?_)
            go_simp
            refine (specKeep_any d l2 _ _ g _ hd hd2 hg hn3).mono ?_
            rw [← hc.out]
            rintro e w4 ⟨lb, lw, ba, bc, wa, wc, rfl, hmb, hmw, hsb, hsw, hb4⟩
            have hB := gca hB hb4
            have hvb := hvb.grow hb4
            have hid := (hb4.block P0 hvl).trans hid
            have hvl0 := hvl
            have hvl := Nat.lt_of_lt_of_le hvl hb4.size
            refine hK.out _ _ ⟨hXs.grow hB, hQs.grow hB⟩ ?_
            clear hK
            obtain ⟨z0, z1, zf⟩ := id hvb
            refine anyU_last (by kernel_rfl) rfl (by kernel_rfl) (fun K hK => ?_)
            go_simp
            refine hK.out _ _ ?_
            clear hK
            have hKP : Kept (fun z => z = P0) w4 ((w4.setCell ⟨P0, 0, none⟩ (.slice ba c.blocks.length bc)).setCell ⟨P0, 1, none⟩ (.slice wa c.waiting.length wc)) := ((Kept.refl (fun z => z = P0) w4).set (a := ⟨P0, 0, none⟩) (fun _ => rfl) _).set (a := ⟨P0, 1, none⟩) (fun _ => rfl) _
            have hv5 := (hvb.set0 (.slice ba c.blocks.length bc)).set1 (.slice wa c.waiting.length wc)
            have hB5 : Below ws.heap.size ws ((w4.setCell ⟨P0, 0, none⟩ (.slice ba c.blocks.length bc)).setCell ⟨P0, 1, none⟩ (.slice wa c.waiting.length wc)) := hB.trans (hKP.below hB.size (fun z hz e => by omega))
            have hIsD : IsD w4 P0 := ⟨_, hid⟩
            have hat5 : DAt ((w4.setCell ⟨P0, 0, none⟩ (.slice ba c.blocks.length bc)).setCell ⟨P0, 1, none⟩ (.slice wa c.waiting.length wc)) ⟨ba, bc, wa, wc⟩ c := ⟨by have := (hsb.kept hKP (fun z e _ => by subst e; exact ⟨not_S_of_D hIsD, not_B_of_D hIsD⟩)).at_; rwa [hmb] at this, by have := (hsw.kept hKP (fun z e _ => by subst e; exact ⟨not_W_of_D hIsD, not_B_of_D hIsD⟩)).at_; rwa [hmw] at this⟩
            generalize ((w4.setCell ⟨P0, 0, none⟩ (.slice ba c.blocks.length bc)).setCell ⟨P0, 1, none⟩ (.slice wa c.waiting.length wc)) = w5 at hv5 hB5 hat5 ⊢
            go_wp2
            go_meet
            case rel => exact ⟨P0, ⟨ba, bc, wa, wc⟩, rfl, ⟨hv5.lt, hv5.v0, hv5.v1⟩, hat5, hB5⟩
        · skip
          go_simp
          obtain ⟨wqa, hwqa⟩ : ∃ u, Hid (u = wq.alloc (.cells #[.slice none 0 0, .slice none 0 0] 35)) := ⟨_, rfl⟩
          obtain ⟨P0, hP0⟩ := hid_ex wq.heap.size
          rw [← hwqa.out, ← hP0.out]
          have hbA : Below wq.heap.size wq wqa := by rw [hwqa.out]; exact gal (gre _) _
          have hvb : VB wqa P0 (.slice none 0 0) (.slice none 0 0) := by rw [hwqa.out, hP0.out]; exact VB.new _ _ _ _
          have hid : wqa.heap[P0]? = some (.cells #[.slice none 0 0, .slice none 0 0] 35 (0, 0)) := by rw [hwqa.out, hP0.out]; exact blk_new_at _ _ _ rfl
          have hvl : P0 < wqa.heap.size := by rw [hwqa.out, hP0.out]; simp
          have hPw : ws.heap.size ≤ P0 := by rw [hP0.out]; exact hB.size
          have hB := gca hB hbA
          refine hK.out _ _ ⟨hXs.grow hB, hQs.grow hB⟩ ?_
          clear hK
          refine anyU_one (i := 1) (by kernel_rfl) rfl (fun K hK => ?_)
          go_simp
          refine (toDisk_any d l _ hs (ha.grow (gca hBs hB))).mono ?_
          rintro e w2 ⟨l2, bs2, xs2, rfl, hown2, hb2⟩
          have hd2 := hown2.at_
          have hB := gca hB hb2
          have hvb := hvb.grow hb2
          have hid := (hb2.block P0 hvl).trans hid
          have hvl0 := hvl
          have hvl := Nat.lt_of_lt_of_le hvl hb2.size
          refine hK.out _ _ ⟨hXs.grow hB, hQs.grow hB⟩ ?_
          clear hK
          refine anyU_one (i := 3) (by kernel_rfl) rfl (fun K hK => ?_)
          go_simp
          refine (toGraph_any a cap g _ hl hv (hga.grow (gca hBs hB))).mono ?_
          rintro e w3 ⟨b3, bs3, rfl, _, hown3, hb3⟩
          have hn3 := hown3.at_
          have hd2 := hd2.grow hb3
          have hB := gca hB hb3
          have hvb := hvb.grow hb3
          have hid := (hb3.block P0 hvl).trans hid
          have hvl0 := hvl
          have hvl := Nat.lt_of_lt_of_le hvl hb3.size
          refine hK.out _ _ ⟨hXs.grow hB, hQs.grow hB⟩ ?_
          clear hK
          refine anyU_one (i := 4) (by kernel_rfl) rfl (fun K hK => ?_)
          go_simp
          refine (specKeep_any d l2 _ _ g _ hd hd2 hg hn3).mono ?_
          rw [← hc.out]
          rintro e w4 ⟨lb, lw, ba, bc, wa, wc, rfl, hmb, hmw, hsb, hsw, hb4⟩
          have hB := gca hB hb4
          have hvb := hvb.grow hb4
          have hid := (hb4.block P0 hvl).trans hid
          have hvl0 := hvl
          have hvl := Nat.lt_of_lt_of_le hvl hb4.size
          refine hK.out _ _ ⟨hXs.grow hB, hQs.grow hB⟩ ?_
          clear hK
          obtain ⟨z0, z1, zf⟩ := id hvb
          refine anyU_last (by kernel_rfl) rfl (by kernel_rfl) (fun K hK => ?_)
          go_simp
          refine hK.out _ _ ?_
          clear hK
          have hKP : Kept (fun z => z = P0) w4 ((w4.setCell ⟨P0, 0, none⟩ (.slice ba c.blocks.length bc)).setCell ⟨P0, 1, none⟩ (.slice wa c.waiting.length wc)) := ((Kept.refl (fun z => z = P0) w4).set (a := ⟨P0, 0, none⟩) (fun _ => rfl) _).set (a := ⟨P0, 1, none⟩) (fun _ => rfl) _
          have hv5 := (hvb.set0 (.slice ba c.blocks.length bc)).set1 (.slice wa c.waiting.length wc)
          have hB5 : Below ws.heap.size ws ((w4.setCell ⟨P0, 0, none⟩ (.slice ba c.blocks.length bc)).setCell ⟨P0, 1, none⟩ (.slice wa c.waiting.length wc)) := hB.trans (hKP.below hB.size (fun z hz e => by omega))
          have hIsD : IsD w4 P0 := ⟨_, hid⟩
          have hat5 : DAt ((w4.setCell ⟨P0, 0, none⟩ (.slice ba c.blocks.length bc)).setCell ⟨P0, 1, none⟩ (.slice wa c.waiting.length wc)) ⟨ba, bc, wa, wc⟩ c := ⟨by have := (hsb.kept hKP (fun z e _ => by subst e; exact ⟨not_S_of_D hIsD, not_B_of_D hIsD⟩)).at_; rwa [hmb] at this, by have := (hsw.kept hKP (fun z e _ => by subst e; exact ⟨not_W_of_D hIsD, not_B_of_D hIsD⟩)).at_; rwa [hmw] at this⟩
          generalize ((w4.setCell ⟨P0, 0, none⟩ (.slice ba c.blocks.length bc)).setCell ⟨P0, 1, none⟩ (.slice wa c.waiting.length wc)) = w5 at hv5 hB5 hat5 ⊢
          go_wp2
          go_meet
          case rel => exact ⟨P0, ⟨ba, bc, wa, wc⟩, rfl, ⟨hv5.lt, hv5.v0, hv5.v1⟩, hat5, hB5⟩
      case rest =>
        obtain ⟨P0, l0, rfl, hWA, hat, hBc⟩ := hcut
        have hA := gca hBs hBc
        have hXA := hXs.grow hBc
        have hQA := hQs.grow hBc
        clear hXs hQs hBc
        obtain ⟨_, x0, x1⟩ := id hXA
        go_upto_region 10 with (go_at_call 7; refine (toDisk_any d l _ hs (ha.grow hA)).mono ?_; rintro e w4 ⟨l4, bs4, xs4, rfl, hown4, hb4⟩)
        have hxB := DBox.new w4 d l4 35
        have hbB := gal hb4 (.cells #[.slice l4.ba d.blocks.length l4.bc, .slice l4.wa d.waiting.length l4.wc] 35)
        have hmx0 := hown4.md.grow (gal (gre w4) (.cells #[.slice l4.ba d.blocks.length l4.bc, .slice l4.wa d.waiting.length l4.wc] 35))
        have hs4 : (w4.alloc (.cells #[.slice l4.ba d.blocks.length l4.bc, .slice l4.wa d.waiting.length l4.wc] 35)).heap.size = w4.heap.size + 1 := by simp
        have hs4A := hb4.size
        generalize w4.alloc (.cells #[.slice l4.ba d.blocks.length l4.bc, .slice l4.wa d.waiting.length l4.wc] 35) = wB at hxB hbB hmx0 hs4 ⊢
        generalize w4.heap.size = PX at hxB hmx0 hs4 hs4A ⊢
        have hPAl := hXA.lt
        have hP0l := hWA.lt
        have hXB := hXA.grow hbB
        have hQB := hQA.grow hbB
        have hPBl := hQA.lt
        have hWB := hWA.grow hbB
        generalize hsAe : wc.heap.size = sA at hmx0 hbB hs4A hPAl hP0l hPBl
        have hBwB : Below w.heap.size w wB := hA.trans (hbB.mono (by rw [← hsAe]; exact hA.size))
        clear x0 x1 hb4 hown4 hXA hQA hWA
        obtain ⟨_, v0, v1, v2, v3, v4⟩ := id hQB
        go_upto_region 11 with (go_at_call 8; refine (toGraph_any a cap g _ hl hv (hga.grow hBwB)).mono ?_; rintro e w4c ⟨BX, bsX, rfl, hBX, hkx0, hb4c⟩)
        have hy4 := GBox.new w4c g (some ⟨BX, 0, none⟩) g.nodes.length 41
        have hb4b := gal hb4c (.cells #[.int .i64 g.root.kind, .int .i64 g.root.num, .string g.root.text, .int .i64 g.root.node, .slice (some ⟨BX, 0, none⟩) g.nodes.length g.nodes.length] 41)
        have hkx := hkx0.mg.grow (gal (gre w4c) (.cells #[.int .i64 g.root.kind, .int .i64 g.root.num, .string g.root.text, .int .i64 g.root.node, .slice (some ⟨BX, 0, none⟩) g.nodes.length g.nodes.length] 41))
        have hnx := hkx0.at_.grow (gal (gre w4c) (.cells #[.int .i64 g.root.kind, .int .i64 g.root.num, .string g.root.text, .int .i64 g.root.node, .slice (some ⟨BX, 0, none⟩) g.nodes.length g.nodes.length] 41))
        have hbxn : ∀ b, Touch (some ⟨BX, 0, none⟩) g.nodes.length (fun i => some ⟨bsX i, 0, none⟩) b → BX ≤ b ∧ b < w4c.heap.size := fun b hb => hkx0.touch hb
        have hs4c : (w4c.alloc (.cells #[.int .i64 g.root.kind, .int .i64 g.root.num, .string g.root.text, .int .i64 g.root.node, .slice (some ⟨BX, 0, none⟩) g.nodes.length g.nodes.length] 41)).heap.size = w4c.heap.size + 1 := by simp
        have hs4d := hb4c.size
        generalize w4c.alloc (.cells #[.int .i64 g.root.kind, .int .i64 g.root.num, .string g.root.text, .int .i64 g.root.node, .slice (some ⟨BX, 0, none⟩) g.nodes.length g.nodes.length] 41) = w4b at hy4 hb4b hkx hnx hs4c ⊢
        generalize w4c.heap.size = PY at hy4 hbxn hs4c hs4d ⊢
        clear v0 v1 v2 v3 v4 hb4c hkx0
        have hx4 := hxB.grow hb4b
        have hX4 := hXB.grow hb4b
        have hQ4 := hQB.grow hb4b
        have hW4 := hWB.grow hb4b
        have hmx4 := hmx0.grow hb4b
        have hA4 : Below sA wc w4b := by rw [hs4] at hb4b; exact hbB.trans (hb4b.mono (by omega))
        have hBw4 := gca hBwB hb4b
        have hs4b := hb4b.size
        clear hxB hXB hQB hWB hmx0 hbB hBwB hb4b
        obtain ⟨_, x0, x1⟩ := id hx4
        obtain ⟨_, v0, v1, v2, v3, v4⟩ := id hy4
        go_upto_region 12 with (go_at_call 9; refine (implKeep_any d l4 _ _ g _ hd hmx4.at_ hg hnx).mono ?_; rw [← hc.out]; rintro e w5 ⟨lg, fa, ga, fc, gc, rfl, hmd0, hb5⟩)
        clear v0 v1 v2 v3 v4
        have hGC := DBox.new w5 c lg 35
        have hbC := gal hb5 (.cells #[.slice lg.ba c.blocks.length lg.bc, .slice lg.wa c.waiting.length lg.wc] 35)
        have hmdC := hmd0.grow (gal (gre w5) (.cells #[.slice lg.ba c.blocks.length lg.bc, .slice lg.wa c.waiting.length lg.wc] 35))
        have hs5 : (w5.alloc (.cells #[.slice lg.ba c.blocks.length lg.bc, .slice lg.wa c.waiting.length lg.wc] 35)).heap.size = w5.heap.size + 1 := by simp
        have hs5B := hb5.size
        generalize w5.alloc (.cells #[.slice lg.ba c.blocks.length lg.bc, .slice lg.wa c.waiting.length lg.wc] 35) = wC at hGC hbC hmdC hs5 ⊢
        generalize w5.heap.size = PG at hGC hmdC hs5 hs5B ⊢
        have hxC := hx4.grow hbC
        have hXC := hX4.grow hbC
        have hQC := hQ4.grow hbC
        have hWC := hW4.grow hbC
        have hmxC := hmx4.grow hbC
        have hkxC := hkx.grow hbC
        have hyC := hy4.grow hbC
        have hnxC := hnx.grow hbC
        have hAC : Below sA wc wC := hA4.trans (hbC.mono (by omega))
        have hBwC : Below w.heap.size w wC := gca hBw4 hbC
        generalize hsBe : w4b.heap.size = sB at hmdC hs4b hs5B hs4c
        clear x0 x1 hmd0 hb5 hx4 hX4 hQ4 hW4 hmx4 hbC hkx hy4 hnx hA4 hBw4
        obtain ⟨_, x0, x1⟩ := id hGC
        obtain ⟨_, g0, g1⟩ := id hWC
        go_upto_region 14 with (go_at_call 10; refine (eqDisk_same c lg l0 _ hct.ok hmdC.at_ (hat.grow (by rw [hsAe]; exact hAC))).mono ?_; rintro e w6 ⟨rfl, hb6⟩)
        have hx6 := hxC.grow hb6
        have hX6 := hXC.grow hb6
        have hQ6 := hQC.grow hb6
        have hW6 := hWC.grow hb6
        have hG6 := hGC.grow hb6
        have hmx6 := hmxC.grow hb6
        have hmd6 := hmdC.grow hb6
        have hkx6 := hkxC.grow hb6
        have hy6 := hyC.grow hb6
        have hnx6 := hnxC.grow hb6
        have hA6 := hAC.trans (hb6.mono (by have := hAC.size; omega))
        have hBw6 := gca hBwC hb6
        have hs6 := hb6.size
        clear x0 x1 g0 g1 hxC hXC hQC hWC hGC hmxC hmdC hAC hBwC hkxC hyC hnxC
        have hB : Below w6.heap.size w6 w6.drew := gdr (gre _)
        refine wp_regionU (fun u => DBox u PX d l4 ∧ DBox u PA d l) 99 (by kernel_rfl) ⟨hx6.grow hB, hX6.grow hB⟩ (fun _ => ?_)
        refine anyU_take (i := 0) (v := ?_) rfl (by kernel_rfl) (by kernel_rfl) (by kernel_rfl) (by kernel_rfl) (fun _ _ _ h => h) (Or.inl ⟨by rfl, ?_⟩) ⟨hx6.grow hB, hX6.grow hB⟩ ?_
        rotate_left
        · intro u hSu; obtain ⟨⟨_, s0, s1⟩, ⟨_, t0, t1⟩⟩ := hSu; go_simp <;> with_reducible rfl
        simp only [Act.put, List.getElem_toArray, List.getElem_cons_zero, List.setIfInBounds_toArray, List.set_cons_zero, List.set_cons_succ]
        refine anyU_take (i := 1) (v := ?_) rfl (by kernel_rfl) (by kernel_rfl) (by kernel_rfl) (by kernel_rfl) (fun _ _ _ h => h) (Or.inl ⟨by rfl, ?_⟩) ⟨hx6.grow hB, hX6.grow hB⟩ ?_
        rotate_left
        · intro u hSu; obtain ⟨⟨_, s0, s1⟩, ⟨_, t0, t1⟩⟩ := hSu; go_simp <;> with_reducible rfl
        simp only [Act.put, List.getElem_toArray, List.getElem_cons_zero, List.getElem_cons_succ, List.setIfInBounds_toArray, List.set_cons_zero, List.set_cons_succ]
        refine anyU_one (i := 2) (by kernel_rfl) rfl (fun K hK => ?_)
        go_simp
        refine (toDisk_any d l _ hs (ha.grow (gca hBw6 hB))).mono ?_
        rintro e w7 ⟨l7, bs7, xs7, rfl, hown7, hb7⟩
        have hB := gca hB hb7
        refine hK.out _ _ ⟨hx6.grow hB, hX6.grow hB⟩ ?_
        clear hK
        refine anyU_one (i := 3) (by kernel_rfl) rfl (fun K hK => ?_)
        go_simp
        refine (eqDisk_same d _ _ _ hd (hmx6.at_.grow hB) hown7.at_).mono ?_
        rintro e w8 ⟨rfl, hb8⟩
        have hB := gca hB hb8
        refine hK.out _ _ ⟨hx6.grow hB, hX6.grow hB⟩ ?_
        clear hK
        refine anyU_one (i := 4) (by kernel_rfl) rfl (fun K hK => ?_)
        go_simp
        refine hK.out _ _ ⟨hx6.grow hB, hX6.grow hB⟩ ?_
        clear hK
        refine anyU_done (by kernel_rfl) ?_
        have hx8 := hx6.grow hB
        have hX8 := hX6.grow hB
        have hQ8 := hQ6.grow hB
        have hW8 := hW6.grow hB
        have hG8 := hG6.grow hB
        have hmx8 := hmx6.grow hB
        have hmd8 := hmd6.grow hB
        have hkx8 := hkx6.grow hB
        have hy8 := hy6.grow hB
        have hnx8 := hnx6.grow hB
        have hA8 := hA6.trans (hB.mono (by have := hA6.size; omega))
        have hBw8 := gca hBw6 hB
        have hs8 := hB.size
        clear hx6 hX6 hQ6 hW6 hG6 hmx6 hmd6 hA6 hBw6 hB hown7 hb7 hb8 hkx6 hy6 hnx6
        go_upto_region 16 with fail
        have hB : Below w8.heap.size w8 w8.drew := gdr (gre _)
        refine wp_regionU (fun u => GBox u PY g (some ⟨BX, 0, none⟩) g.nodes.length ∧ GBox u PB g a cap) 99 (by kernel_rfl) ⟨hy8.grow hB, hQ8.grow hB⟩ (fun _ => ?_)
        refine anyU_take (i := 0) (v := ?_) rfl (by kernel_rfl) (by kernel_rfl) (by kernel_rfl) (by kernel_rfl) (fun _ _ _ h => h) (Or.inl ⟨by rfl, ?_⟩) ⟨hy8.grow hB, hQ8.grow hB⟩ ?_
        rotate_left
        · intro u hSu; obtain ⟨⟨_, s0, s1, s2, s3, s4⟩, ⟨_, t0, t1, t2, t3, t4⟩⟩ := hSu; go_simp <;> with_reducible rfl
        simp only [Act.put, List.getElem_toArray, List.getElem_cons_zero, List.setIfInBounds_toArray, List.set_cons_zero, List.set_cons_succ]
        refine anyU_take (i := 1) (v := ?_) rfl (by kernel_rfl) (by kernel_rfl) (by kernel_rfl) (by kernel_rfl) (fun _ _ _ h => h) (Or.inl ⟨by rfl, ?_⟩) ⟨hy8.grow hB, hQ8.grow hB⟩ ?_
        rotate_left
        · intro u hSu; obtain ⟨⟨_, s0, s1, s2, s3, s4⟩, ⟨_, t0, t1, t2, t3, t4⟩⟩ := hSu; go_simp <;> with_reducible rfl
        simp only [Act.put, List.getElem_toArray, List.getElem_cons_zero, List.getElem_cons_succ, List.setIfInBounds_toArray, List.set_cons_zero, List.set_cons_succ]
        refine anyU_one (i := 2) (by kernel_rfl) rfl (fun K hK => ?_)
        go_simp
        refine (toGraph_any a cap g _ hl hv (hga.grow (gca hBw8 hB))).mono ?_
        rintro e w8a ⟨b8, bs8, rfl, _, hown8, hb8a⟩
        have hB := gca hB hb8a
        refine hK.out _ _ ⟨hy8.grow hB, hQ8.grow hB⟩ ?_
        clear hK
        refine anyU_one (i := 3) (by kernel_rfl) rfl (fun K hK => ?_)
        go_simp
        refine (eqGraph_same _ _ _ _ g _ hg (hnx8.grow hB) hown8.at_).mono ?_
        rintro e w8b ⟨rfl, hb8b⟩
        have hB := gca hB hb8b
        refine hK.out _ _ ⟨hy8.grow hB, hQ8.grow hB⟩ ?_
        clear hK
        refine anyU_one (i := 4) (by kernel_rfl) rfl (fun K hK => ?_)
        go_simp
        refine hK.out _ _ ⟨hy8.grow hB, hQ8.grow hB⟩ ?_
        clear hK
        refine anyU_done (by kernel_rfl) ?_
        have hb8d := hB
        have hxm := hx8.grow hb8d
        have hXm := hX8.grow hb8d
        have hQm := hQ8.grow hb8d
        have hWm := hW8.grow hb8d
        have hGm := hG8.grow hb8d
        have hmxm := hmx8.grow hb8d
        have hmdm := hmd8.grow hb8d
        have hkxm := hkx8.grow hb8d
        have hym := hy8.grow hb8d
        have hnxm := hnx8.grow hb8d
        have hAm := hA8.trans (hb8d.mono (by have := hA8.size; omega))
        have hBwm := gca hBw8 hb8d
        have hsm := hb8d.size
        clear hx8 hX8 hQ8 hW8 hG8 hmx8 hmd8 hkx8 hy8 hnx8 hA8 hBw8 hb8a hb8b hb8d hown8 hB
        obtain ⟨_, x0, x1⟩ := id hxm
        go_upto_region 20 with (go_at_call 12; rw [show (1 : Int) = ((1 : Nat) : Int) by rfl]; refine (markDisk_any d l4 1 sA PX _ _ _ _ _ hs hm1 (by omega) hmxm).mono ?_; rintro e w9 ⟨rfl, _, hK9⟩; rw [← hmx.out])
        have hX9 := hXm.kept hK9 (fun e => by omega)
        have hQ9 := hQm.kept hK9 (fun e => by omega)
        have hW9 := hWm.kept hK9 (fun e => by omega)
        have hG9 := hGm.kept hK9 (fun e => by omega)
        have hmd9 := hmdm.out hK9 (fun b hb _ e => by omega)
        have hkx9 := hkxm.kept hK9 (fun b e h => by have := hbxn b (Or.inl e); omega) (fun i hi b e h => by have := hbxn b (Or.inr ⟨i, hi, e⟩); omega)
        have hy9 := hym.kept hK9 (fun e => by omega)
        have hA9 := hAm.trans (hK9.below (B := sA) (by have := hAm.size; omega) (fun z hz e => by omega))
        have hBw9 := hBwm.trans (hK9.below (B := w.heap.size) hBwm.size (fun z hz e => by have := hPA.out; omega))
        have hs9 := hK9.size
        clear x0 x1 hxm hXm hQm hWm hGm hmxm hmdm hAm hBwm hK9 hkxm hym hnxm
        obtain ⟨_, v0, v1, v2, v3, v4⟩ := id hy9
        go_upto_region 21 with (go_at_call 13; refine (markGraph_any g _ _ _ _ mx _ hmx1 (by rw [← hmy.out]; exact hmy2) (by unfold maxLen; omega) hkx9).mono ?_; rintro e w9b ⟨rfl, hK9b, _⟩; rw [← hmy.out])
        clear v0 v1 v2 v3 v4
        have hX9b := hX9.kept hK9b (fun e => by have := hbxn _ e; omega)
        have hQ9b := hQ9.kept hK9b (fun e => by have := hbxn _ e; omega)
        have hW9b := hW9.kept hK9b (fun e => by have := hbxn _ e; omega)
        have hG9b := hG9.kept hK9b (fun e => by have := hbxn _ e; omega)
        have hmd9b := hmd9.out hK9b (fun b hb _ e => by have := hbxn _ e; omega)
        have hA9b := hA9.trans (hK9b.below (B := sA) (by have := hA9.size; omega) (fun z hz e => by have := hbxn _ e; omega))
        have hBw9b := hBw9.trans (hK9b.below (B := w.heap.size) hBw9.size (fun z hz e => by have := hbxn _ e; have := hPA.out; omega))
        have hs9b := hK9b.size
        clear hX9 hQ9 hW9 hG9 hmd9 hA9 hBw9 hK9b hkx9 hy9
        obtain ⟨_, x0, x1⟩ := id hG9b
        obtain ⟨_, g0, g1⟩ := id hW9b
        go_upto_region 23 with (go_at_call 10; refine (eqDisk_same c lg l0 _ hct.ok hmd9b.at_ (hat.grow (by rw [hsAe]; exact hA9b))).mono ?_; rintro e w10 ⟨rfl, hb10⟩)
        have hX10 := hX9b.grow hb10
        have hQ10 := hQ9b.grow hb10
        have hW10 := hW9b.grow hb10
        have hG10 := hG9b.grow hb10
        have hmd10 := hmd9b.grow hb10
        have hA10 := hA9b.trans (hb10.mono (by have := hA9b.size; omega))
        have hBw10 := gca hBw9b hb10
        have hs10 := hb10.size
        clear x0 x1 g0 g1 hX9b hQ9b hW9b hG9b hmd9b hA9b hBw9b
        obtain ⟨_, x0, x1⟩ := id hG10
        go_upto_region 25 with (go_at_call 12; rw [show (1 : Int) = ((1 : Nat) : Int) by rfl]; refine (markDisk_any c lg 1 sB PG fa ga fc gc _ hct.small hmc (by omega) hmd10).mono ?_; rintro e w11 ⟨rfl, hM11, hK11⟩; rw [← hme.out])
        have hX11 := hX10.kept hK11 (fun e => by omega)
        have hQ11 := hQ10.kept hK11 (fun e => by omega)
        have hW11 := hW10.kept hK11 (fun e => by omega)
        have hG11 := hG10.kept hK11 (fun e => by omega)
        have hA11 := hA10.trans (hK11.below (B := sA) (by have := hA10.size; omega) (fun z hz e => by omega))
        have hBw11 := hBw10.trans (hK11.below (B := w.heap.size) hBw10.size (fun z hz e => by have := hPA.out; omega))
        clear x0 x1 hX10 hQ10 hW10 hG10 hmd10 hA10 hBw10 hK11
        obtain ⟨_, x0, x1⟩ := id hG11
        go_upto_region 31 with (go_at_call 14; rw [show (1 : Int) = ((1 : Nat) : Int) by rfl]; refine (heldDisk_any c lg 1 sB PG fa ga fc gc _ hct.small hmc hM11).mono ?_; rintro e w12 ⟨rfl, hb12⟩; rw [← hme.out])
        have hX12 := hX11.grow hb12
        have hQ12 := hQ11.grow hb12
        have hW12 := hW11.grow hb12
        have hG12 := hG11.grow hb12
        have hM12 := hM11.grow hb12
        have hA12 := hA11.trans (hb12.mono (by have := hA11.size; omega))
        have hBw12 := gca hBw11 hb12
        clear x0 x1 hX11 hQ11 hW11 hG11 hM11 hA11 hBw11
        go_upto_region 31 with fail
        go_cut [13] from 75 (fun v wc => ∃ (P0 : Nat) (l0 : DL), v = .pointer (some ⟨P0, 0, none⟩) ∧ DBox wc P0 c l0 ∧ DAt wc l0 c ∧ Below w12.heap.size w12 wc)
        case first =>
          have hB : Below w12.heap.size w12 w12.drew := gdr (gre _)
          refine wp_regionU (fun u => DBox u PA d l ∧ GBox u PB g a cap) 6 (by kernel_rfl) ⟨hX12.grow hB, hQ12.grow hB⟩ (fun _ => ?_)
          generalize w12.drew = wq at hB ⊢
          refine anyU_take (i := 0) (v := ?_) rfl (by kernel_rfl) (by kernel_rfl) (by kernel_rfl) (by kernel_rfl) (fun _ _ _ h => h) (Or.inl ⟨by rfl, ?_⟩) ⟨hX12.grow hB, hQ12.grow hB⟩ ?_
          rotate_left
          · intro u hSu; obtain ⟨⟨_, s0, s1⟩, ⟨_, t0, t1, t2, t3, t4⟩⟩ := hSu; go_simp <;> with_reducible rfl
          simp only [Act.put, List.getElem_toArray, List.getElem_cons_zero, List.setIfInBounds_toArray, List.set_cons_zero, List.set_cons_succ]
          refine anyU_take (i := 2) (v := ?_) rfl (by kernel_rfl) (by kernel_rfl) (by kernel_rfl) (by kernel_rfl) (fun _ _ _ h => h) (Or.inl ⟨by rfl, ?_⟩) ⟨hX12.grow hB, hQ12.grow hB⟩ ?_
          rotate_left
          · intro u hSu; obtain ⟨⟨_, s0, s1⟩, ⟨_, t0, t1, t2, t3, t4⟩⟩ := hSu; go_simp <;> with_reducible rfl
          simp only [Act.put, List.getElem_toArray, List.getElem_cons_zero, List.getElem_cons_succ, List.setIfInBounds_toArray, List.set_cons_zero, List.set_cons_succ]
          refine anyU_pair (i := 1) (j := 5) (by kernel_rfl) rfl rfl (fun K hK => ?_) (fun K hK => ?_)
          · skip
            go_simp
            refine (toDisk_any d l _ hs (ha.grow (gca hBw12 hB))).mono ?_
            rintro e w2 ⟨l2, bs2, xs2, rfl, hown2, hb2⟩
            have hd2 := hown2.at_
            have hB := gca hB hb2
            refine hK.out _ _ ⟨hX12.grow hB, hQ12.grow hB⟩ ?_
            clear hK
            refine anyU_pair (i := 3) (j := 5) (by kernel_rfl) rfl rfl (fun K hK => ?_) (fun K hK => ?_)
            · skip
              go_simp
              refine (toGraph_any a cap g _ hl hv (hga.grow (gca hBw12 hB))).mono ?_
              rintro e w3 ⟨b3, bs3, rfl, _, hown3, hb3⟩
              have hn3 := hown3.at_
              have hd2 := hd2.grow hb3
              have hB := gca hB hb3
              refine hK.out _ _ ⟨hX12.grow hB, hQ12.grow hB⟩ ?_
              clear hK
              refine anyU_pair (i := 4) (j := 5) (by kernel_rfl) rfl rfl (fun K hK => ?_) (fun K hK => ?_)
              · skip
                go_simp
                refine (implKeep_any d l2 _ _ g _ hd hd2 hg hn3).mono ?_
                rw [← hc.out]
                rintro e w4 ⟨lk, fa4, ga4, fc4, gc4, rfl, hmd4, hb4⟩
                have hB := gca hB hb4
                refine hK.out _ _ ⟨hX12.grow hB, hQ12.grow hB⟩ ?_
                clear hK
                refine anyU_one (i := 5) (by kernel_rfl) rfl (fun K hK => ?_)
                go_simp
                obtain ⟨w4a, hw4a⟩ : ∃ u, Hid (u = w4.alloc (.cells #[.slice none 0 0, .slice none 0 0] 35)) := ⟨_, rfl⟩
                obtain ⟨P0, hP0⟩ := hid_ex w4.heap.size
                rw [← hw4a.out, ← hP0.out]
                have hbA : Below w4.heap.size w4 w4a := by rw [hw4a.out]; exact gal (gre _) _
                have hvb : VB w4a P0 (.slice none 0 0) (.slice none 0 0) := by rw [hw4a.out, hP0.out]; exact VB.new _ _ _ _
                have hid : w4a.heap[P0]? = some (.cells #[.slice none 0 0, .slice none 0 0] 35 (0, 0)) := by rw [hw4a.out, hP0.out]; exact blk_new_at _ _ _ rfl
                have hvl : P0 < w4a.heap.size := by rw [hw4a.out, hP0.out]; simp
                have hPw : w12.heap.size ≤ P0 := by rw [hP0.out]; exact hB.size
                have hB := gca hB hbA
                have hmd4 := hmd4.grow hbA
                have hPh : w4.heap.size ≤ P0 := by rw [hP0.out]; exact Nat.le_refl _
                refine hK.out _ _ ⟨hX12.grow hB, hQ12.grow hB⟩ ?_
                clear hK
                obtain ⟨z0, z1, zf⟩ := id hvb
                refine anyU_last (by kernel_rfl) rfl (by kernel_rfl) (fun K hK => ?_)
                go_simp
                refine hK.out _ _ ?_
                clear hK
                have hKP : Kept (fun z => z = P0) w4a ((w4a.setCell ⟨P0, 0, none⟩ (.slice lk.ba c.blocks.length lk.bc)).setCell ⟨P0, 1, none⟩ (.slice lk.wa c.waiting.length lk.wc)) := ((Kept.refl (fun z => z = P0) w4a).set (a := ⟨P0, 0, none⟩) (fun _ => rfl) _).set (a := ⟨P0, 1, none⟩) (fun _ => rfl) _
                have hv5 := (hvb.set0 (.slice lk.ba c.blocks.length lk.bc)).set1 (.slice lk.wa c.waiting.length lk.wc)
                have hB5 : Below w12.heap.size w12 ((w4a.setCell ⟨P0, 0, none⟩ (.slice lk.ba c.blocks.length lk.bc)).setCell ⟨P0, 1, none⟩ (.slice lk.wa c.waiting.length lk.wc)) := hB.trans (hKP.below hB.size (fun z hz e => by omega))
                have hat5 : DAt ((w4a.setCell ⟨P0, 0, none⟩ (.slice lk.ba c.blocks.length lk.bc)).setCell ⟨P0, 1, none⟩ (.slice lk.wa c.waiting.length lk.wc)) lk c := (hmd4.out hKP (fun b hb1 hb2 e => by omega)).at_
                generalize ((w4a.setCell ⟨P0, 0, none⟩ (.slice lk.ba c.blocks.length lk.bc)).setCell ⟨P0, 1, none⟩ (.slice lk.wa c.waiting.length lk.wc)) = w5 at hv5 hB5 hat5 ⊢
                go_wp2
                go_meet
                case rel => exact ⟨P0, lk, rfl, ⟨hv5.lt, hv5.v0, hv5.v1⟩, hat5, hB5⟩
              · skip
                go_simp
                obtain ⟨w3a, hw3a⟩ : ∃ u, Hid (u = w3.alloc (.cells #[.slice none 0 0, .slice none 0 0] 35)) := ⟨_, rfl⟩
                obtain ⟨P0, hP0⟩ := hid_ex w3.heap.size
                rw [← hw3a.out, ← hP0.out]
                have hbA : Below w3.heap.size w3 w3a := by rw [hw3a.out]; exact gal (gre _) _
                have hvb : VB w3a P0 (.slice none 0 0) (.slice none 0 0) := by rw [hw3a.out, hP0.out]; exact VB.new _ _ _ _
                have hid : w3a.heap[P0]? = some (.cells #[.slice none 0 0, .slice none 0 0] 35 (0, 0)) := by rw [hw3a.out, hP0.out]; exact blk_new_at _ _ _ rfl
                have hvl : P0 < w3a.heap.size := by rw [hw3a.out, hP0.out]; simp
                have hPw : w12.heap.size ≤ P0 := by rw [hP0.out]; exact hB.size
                have hB := gca hB hbA
                have hd2 := hd2.grow hbA
                have hn3 := hn3.grow hbA
                refine hK.out _ _ ⟨hX12.grow hB, hQ12.grow hB⟩ ?_
                clear hK
                refine anyU_one (i := 4) (by kernel_rfl) rfl (fun K hK => ?_)
                go_simp
                refine (implKeep_any d l2 _ _ g _ hd hd2 hg hn3).mono ?_
                rw [← hc.out]
                rintro e w4 ⟨lk, fa4, ga4, fc4, gc4, rfl, hmd4, hb4⟩
                have hB := gca hB hb4
                have hvb := hvb.grow hb4
                have hid := (hb4.block P0 hvl).trans hid
                have hvl0 := hvl
                have hvl := Nat.lt_of_lt_of_le hvl hb4.size
                refine hK.out _ _ ⟨hX12.grow hB, hQ12.grow hB⟩ ?_
                clear hK
                obtain ⟨z0, z1, zf⟩ := id hvb
                refine anyU_last (by kernel_rfl) rfl (by kernel_rfl) (fun K hK => ?_)
                go_simp
                refine hK.out _ _ ?_
                clear hK
                have hKP : Kept (fun z => z = P0) w4 ((w4.setCell ⟨P0, 0, none⟩ (.slice lk.ba c.blocks.length lk.bc)).setCell ⟨P0, 1, none⟩ (.slice lk.wa c.waiting.length lk.wc)) := ((Kept.refl (fun z => z = P0) w4).set (a := ⟨P0, 0, none⟩) (fun _ => rfl) _).set (a := ⟨P0, 1, none⟩) (fun _ => rfl) _
                have hv5 := (hvb.set0 (.slice lk.ba c.blocks.length lk.bc)).set1 (.slice lk.wa c.waiting.length lk.wc)
                have hB5 : Below w12.heap.size w12 ((w4.setCell ⟨P0, 0, none⟩ (.slice lk.ba c.blocks.length lk.bc)).setCell ⟨P0, 1, none⟩ (.slice lk.wa c.waiting.length lk.wc)) := hB.trans (hKP.below hB.size (fun z hz e => by omega))
                have hat5 : DAt ((w4.setCell ⟨P0, 0, none⟩ (.slice lk.ba c.blocks.length lk.bc)).setCell ⟨P0, 1, none⟩ (.slice lk.wa c.waiting.length lk.wc)) lk c := (hmd4.out hKP (fun b hb1 hb2 e => by omega)).at_
                generalize ((w4.setCell ⟨P0, 0, none⟩ (.slice lk.ba c.blocks.length lk.bc)).setCell ⟨P0, 1, none⟩ (.slice lk.wa c.waiting.length lk.wc)) = w5 at hv5 hB5 hat5 ⊢
                go_wp2
                go_meet
                case rel => exact ⟨P0, lk, rfl, ⟨hv5.lt, hv5.v0, hv5.v1⟩, hat5, hB5⟩
            · skip
              go_simp
              obtain ⟨w2a, hw2a⟩ : ∃ u, Hid (u = w2.alloc (.cells #[.slice none 0 0, .slice none 0 0] 35)) := ⟨_, rfl⟩
              obtain ⟨P0, hP0⟩ := hid_ex w2.heap.size
              rw [← hw2a.out, ← hP0.out]
              have hbA : Below w2.heap.size w2 w2a := by rw [hw2a.out]; exact gal (gre _) _
              have hvb : VB w2a P0 (.slice none 0 0) (.slice none 0 0) := by rw [hw2a.out, hP0.out]; exact VB.new _ _ _ _
              have hid : w2a.heap[P0]? = some (.cells #[.slice none 0 0, .slice none 0 0] 35 (0, 0)) := by rw [hw2a.out, hP0.out]; exact blk_new_at _ _ _ rfl
              have hvl : P0 < w2a.heap.size := by rw [hw2a.out, hP0.out]; simp
              have hPw : w12.heap.size ≤ P0 := by rw [hP0.out]; exact hB.size
              have hB := gca hB hbA
              have hd2 := hd2.grow hbA
              refine hK.out _ _ ⟨hX12.grow hB, hQ12.grow hB⟩ ?_
              clear hK
              refine anyU_one (i := 3) (by kernel_rfl) rfl (fun K hK => ?_)
              go_simp
              refine (toGraph_any a cap g _ hl hv (hga.grow (gca hBw12 hB))).mono ?_
              rintro e w3 ⟨b3, bs3, rfl, _, hown3, hb3⟩
              have hn3 := hown3.at_
              have hd2 := hd2.grow hb3
              have hB := gca hB hb3
              have hvb := hvb.grow hb3
              have hid := (hb3.block P0 hvl).trans hid
              have hvl0 := hvl
              have hvl := Nat.lt_of_lt_of_le hvl hb3.size
              refine hK.out _ _ ⟨hX12.grow hB, hQ12.grow hB⟩ ?_
              clear hK
              refine anyU_one (i := 4) (by kernel_rfl) rfl (fun K hK => ?_)
              go_simp
              refine (implKeep_any d l2 _ _ g _ hd hd2 hg hn3).mono ?_
              rw [← hc.out]
              rintro e w4 ⟨lk, fa4, ga4, fc4, gc4, rfl, hmd4, hb4⟩
              have hB := gca hB hb4
              have hvb := hvb.grow hb4
              have hid := (hb4.block P0 hvl).trans hid
              have hvl0 := hvl
              have hvl := Nat.lt_of_lt_of_le hvl hb4.size
              refine hK.out _ _ ⟨hX12.grow hB, hQ12.grow hB⟩ ?_
              clear hK
              obtain ⟨z0, z1, zf⟩ := id hvb
              refine anyU_last (by kernel_rfl) rfl (by kernel_rfl) (fun K hK => ?_)
              go_simp
              refine hK.out _ _ ?_
              clear hK
              have hKP : Kept (fun z => z = P0) w4 ((w4.setCell ⟨P0, 0, none⟩ (.slice lk.ba c.blocks.length lk.bc)).setCell ⟨P0, 1, none⟩ (.slice lk.wa c.waiting.length lk.wc)) := ((Kept.refl (fun z => z = P0) w4).set (a := ⟨P0, 0, none⟩) (fun _ => rfl) _).set (a := ⟨P0, 1, none⟩) (fun _ => rfl) _
              have hv5 := (hvb.set0 (.slice lk.ba c.blocks.length lk.bc)).set1 (.slice lk.wa c.waiting.length lk.wc)
              have hB5 : Below w12.heap.size w12 ((w4.setCell ⟨P0, 0, none⟩ (.slice lk.ba c.blocks.length lk.bc)).setCell ⟨P0, 1, none⟩ (.slice lk.wa c.waiting.length lk.wc)) := hB.trans (hKP.below hB.size (fun z hz e => by omega))
              have hat5 : DAt ((w4.setCell ⟨P0, 0, none⟩ (.slice lk.ba c.blocks.length lk.bc)).setCell ⟨P0, 1, none⟩ (.slice lk.wa c.waiting.length lk.wc)) lk c := (hmd4.out hKP (fun b hb1 hb2 e => by omega)).at_
              generalize ((w4.setCell ⟨P0, 0, none⟩ (.slice lk.ba c.blocks.length lk.bc)).setCell ⟨P0, 1, none⟩ (.slice lk.wa c.waiting.length lk.wc)) = w5 at hv5 hB5 hat5 ⊢
              go_wp2
              go_meet
              case rel => exact ⟨P0, lk, rfl, ⟨hv5.lt, hv5.v0, hv5.v1⟩, hat5, hB5⟩
          · skip
            go_simp
            obtain ⟨wqa, hwqa⟩ : ∃ u, Hid (u = wq.alloc (.cells #[.slice none 0 0, .slice none 0 0] 35)) := ⟨_, rfl⟩
            obtain ⟨P0, hP0⟩ := hid_ex wq.heap.size
            rw [← hwqa.out, ← hP0.out]
            have hbA : Below wq.heap.size wq wqa := by rw [hwqa.out]; exact gal (gre _) _
            have hvb : VB wqa P0 (.slice none 0 0) (.slice none 0 0) := by rw [hwqa.out, hP0.out]; exact VB.new _ _ _ _
            have hid : wqa.heap[P0]? = some (.cells #[.slice none 0 0, .slice none 0 0] 35 (0, 0)) := by rw [hwqa.out, hP0.out]; exact blk_new_at _ _ _ rfl
            have hvl : P0 < wqa.heap.size := by rw [hwqa.out, hP0.out]; simp
            have hPw : w12.heap.size ≤ P0 := by rw [hP0.out]; exact hB.size
            have hB := gca hB hbA
            refine hK.out _ _ ⟨hX12.grow hB, hQ12.grow hB⟩ ?_
            clear hK
            refine anyU_one (i := 1) (by kernel_rfl) rfl (fun K hK => ?_)
            go_simp
            refine (toDisk_any d l _ hs (ha.grow (gca hBw12 hB))).mono ?_
            rintro e w2 ⟨l2, bs2, xs2, rfl, hown2, hb2⟩
            have hd2 := hown2.at_
            have hB := gca hB hb2
            have hvb := hvb.grow hb2
            have hid := (hb2.block P0 hvl).trans hid
            have hvl0 := hvl
            have hvl := Nat.lt_of_lt_of_le hvl hb2.size
            refine hK.out _ _ ⟨hX12.grow hB, hQ12.grow hB⟩ ?_
            clear hK
            refine anyU_one (i := 3) (by kernel_rfl) rfl (fun K hK => ?_)
            go_simp
            refine (toGraph_any a cap g _ hl hv (hga.grow (gca hBw12 hB))).mono ?_
            rintro e w3 ⟨b3, bs3, rfl, _, hown3, hb3⟩
            have hn3 := hown3.at_
            have hd2 := hd2.grow hb3
            have hB := gca hB hb3
            have hvb := hvb.grow hb3
            have hid := (hb3.block P0 hvl).trans hid
            have hvl0 := hvl
            have hvl := Nat.lt_of_lt_of_le hvl hb3.size
            refine hK.out _ _ ⟨hX12.grow hB, hQ12.grow hB⟩ ?_
            clear hK
            refine anyU_one (i := 4) (by kernel_rfl) rfl (fun K hK => ?_)
            go_simp
            refine (implKeep_any d l2 _ _ g _ hd hd2 hg hn3).mono ?_
            rw [← hc.out]
            rintro e w4 ⟨lk, fa4, ga4, fc4, gc4, rfl, hmd4, hb4⟩
            have hB := gca hB hb4
            have hvb := hvb.grow hb4
            have hid := (hb4.block P0 hvl).trans hid
            have hvl0 := hvl
            have hvl := Nat.lt_of_lt_of_le hvl hb4.size
            refine hK.out _ _ ⟨hX12.grow hB, hQ12.grow hB⟩ ?_
            clear hK
            obtain ⟨z0, z1, zf⟩ := id hvb
            refine anyU_last (by kernel_rfl) rfl (by kernel_rfl) (fun K hK => ?_)
            go_simp
            refine hK.out _ _ ?_
            clear hK
            have hKP : Kept (fun z => z = P0) w4 ((w4.setCell ⟨P0, 0, none⟩ (.slice lk.ba c.blocks.length lk.bc)).setCell ⟨P0, 1, none⟩ (.slice lk.wa c.waiting.length lk.wc)) := ((Kept.refl (fun z => z = P0) w4).set (a := ⟨P0, 0, none⟩) (fun _ => rfl) _).set (a := ⟨P0, 1, none⟩) (fun _ => rfl) _
            have hv5 := (hvb.set0 (.slice lk.ba c.blocks.length lk.bc)).set1 (.slice lk.wa c.waiting.length lk.wc)
            have hB5 : Below w12.heap.size w12 ((w4.setCell ⟨P0, 0, none⟩ (.slice lk.ba c.blocks.length lk.bc)).setCell ⟨P0, 1, none⟩ (.slice lk.wa c.waiting.length lk.wc)) := hB.trans (hKP.below hB.size (fun z hz e => by omega))
            have hat5 : DAt ((w4.setCell ⟨P0, 0, none⟩ (.slice lk.ba c.blocks.length lk.bc)).setCell ⟨P0, 1, none⟩ (.slice lk.wa c.waiting.length lk.wc)) lk c := (hmd4.out hKP (fun b hb1 hb2 e => by omega)).at_
            generalize ((w4.setCell ⟨P0, 0, none⟩ (.slice lk.ba c.blocks.length lk.bc)).setCell ⟨P0, 1, none⟩ (.slice lk.wa c.waiting.length lk.wc)) = w5 at hv5 hB5 hat5 ⊢
            go_wp2
            go_meet
            case rel => exact ⟨P0, lk, rfl, ⟨hv5.lt, hv5.v0, hv5.v1⟩, hat5, hB5⟩
        case rest =>
        obtain ⟨PH, lh, rfl, hHD, hatD, hbD⟩ := hcut
        have hWD := hW12.grow hbD
        have hGD := hG12.grow hbD
        have hMD := hM12.grow hbD
        have hAD := hA12.trans (hbD.mono (by have := hA12.size; omega))
        have hBwD := gca hBw12 hbD
        clear hX12 hQ12 hW12 hG12 hM12 hA12 hBw12
        obtain ⟨_, x0, x1⟩ := id hHD
        obtain ⟨_, g0, g1⟩ := id hWD
        go_upto_region 34 with (go_at_call 10; refine (eqDisk_same c lh l0 _ hct.ok hatD (hat.grow (by rw [hsAe]; exact hAD))).mono ?_; rintro e w15 ⟨rfl, hb15⟩)
        have hG15 := hGD.grow hb15
        have hM15 := hMD.grow hb15
        have hBw15 := gca hBwD hb15
        clear x0 x1 g0 g1 hWD hGD hMD hAD hBwD hatD hHD
        obtain ⟨_, x0, x1⟩ := id hG15
        go_wp2_with (go_at_call 14; rw [show (1 : Int) = ((1 : Nat) : Int) by rfl]; refine (heldDisk_any c lg 1 sB PG fa ga fc gc _ hct.small hmc hM15).mono ?_; rintro e w16 ⟨rfl, hb16⟩; rw [← hme.out])
        go_ret
        exact ⟨rfl, gca hBw15 hb16⟩
    · have hle2 : Hid (leftBy (1048576 - d.sz) g.sz = -1) := leftBy_neg (by omega)
      go_enter Tryz.func3, Tryz.ntmps3
      go_wp2_with (first
        | (go_at_call 4; refine (szDisk_any d l _ _ hd (by decide) (by decide) (ha.grow hA0)).mono ?_; rintro e w1 ⟨rfl, hb1⟩; rw [hle1.out]; obtain ⟨_, y0, y1, y2, y3, y4⟩ := hG0.grow hb1)
        | (go_at_call 5; refine (szGraph_any a cap g _ _ hg (by omega) (by omega) (hga.grow (gca hA0 hb1))).mono ?_; rintro e w1b ⟨rfl, hb1b⟩; rw [hle2.out]))
      go_ret
      exact ⟨rfl, gca (gca hA0 hb1) hb1b⟩
  · have hle1 : Hid (leftBy 1048576 d.sz = -1) := leftBy_neg (by omega)
    go_enter Tryz.func3, Tryz.ntmps3
    go_wp2_with (go_at_call 4; refine (szDisk_any d l _ _ hd (by decide) (by decide) (ha.grow hA0)).mono ?_; rintro e w1 ⟨rfl, hb1⟩; rw [hle1.out])
    go_ret
    exact ⟨rfl, gca hA0 hb1⟩

end Go.Proofs.YthjddpkegooobacGreat
