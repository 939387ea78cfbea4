/-
  SBLANK: the specification's Blank. Own work.
-/
import Derived.Test.YthjddpkegooobabSBlankA
import Derived.Test.YthjddpkegooobabIBlank
namespace Go.Proofs.Ythjddpkegooobab
open Go.RowKit

set_option maxHeartbeats 4000000 in
set_option maxRecDepth 100000 in
theorem specBlank_own (w : World) : Calls Try.prog 30 #[] w (BOwn w) := by
  obtain ⟨i0, hi, hz0, hz1, hz2⟩ := info_parts info_u8
  obtain ⟨j0, hj, hy0, hy1, hy2'⟩ := info_parts info_bytes
  obtain ⟨M, hM⟩ := hid_ex (madeCells #[Value.int .u8 0] 64)
  have : ∀ u : World, (Instr.makeSlice 28 (.int .i64 64) (.int .i64 64)).run Try.prog u =
      .ok (.slice (some ⟨u.heap.size, 0, none⟩) 64 64) (u.alloc (.cells M 5)) := fun u => by
    have h := run_make (P := Try.prog) u 28 5 i0 _ Try.underlying28 hi hz0 .i64 .i64 (64 : Int) (64 : Int) (by omega) (Int.le_refl _) (by rw [hz2]; omega) (by omega)
    rw [hM.out]
    simpa [hz1, Value.cells] using h
  have hmo : ∀ {base : Nat} (u : World), base ≤ u.heap.size → (u.alloc (.cells M 5)).ownsRow base 5 1 (.slice (some ⟨u.heap.size, 0, none⟩) (List.replicate 64 0).length 64) (List.replicate 64 0).length (bcells (List.replicate 64 0)) := fun u hb => by
    have := owns_made (n := 64) hb (by unfold maxLen; omega)
    rw [← hM.out] at this
    simpa using this
  go_enter Try.func30, Try.ntmps30
  go_upto_region 2 with fail
  have hw1 := gal (gal (gre w) (.cells #[.slice none 0 0, .slice none 0 0] 50)) (.cells #[.slice none 0 0, .slice none 0 0] 50)
  have hR := (VB.new w (.slice none 0 0) (.slice none 0 0) 50).grow (gal (gre _) (.cells #[.slice none 0 0, .slice none 0 0] 50))
  have hV := VB.new_at (w.alloc (.cells #[.slice none 0 0, .slice none 0 0] 50)) (.slice none 0 0) (.slice none 0 0) 50 (w.heap.size + 1) (by simp)
  generalize (w.alloc (.cells #[.slice none 0 0, .slice none 0 0] 50)).alloc (.cells #[.slice none 0 0, .slice none 0 0] 50) = wA at hw1 hR hV ⊢
  obtain ⟨R, hRe⟩ := hid_ex w.heap.size
  obtain ⟨V, hVe⟩ := hid_ex (w.heap.size + 1)
  rw [← hVe.out] at hV ⊢
  rw [← hRe.out] at hR ⊢
  have hI0 : BInv w wA R V 0 := ⟨[], none, 0, rfl, rfl, SB.nil _ _, hV, hR, hw1⟩
  clear hw1 hR hV
  go_wp2
  go_loopw [2] (fun i wr => ∃ k : Nat, k ≤ 130 ∧ i = .int .i64 k ∧ BInv w wr R V k) (fun i _ => 130 - (intOf i).toNat)
  case atStart => exact ⟨0, Nat.zero_le _, rfl, hI0⟩
  case round =>
    obtain ⟨k, hk, rfl, lb, ba, bc, hll, hlm, hL, hV, hR, hb⟩ := hrel
    by_cases hlt : k < 130
    · have i1 : (k : Int) < 130 := by omega
      clear hI0
      go_wp2
      refine wp_regionU (fun u => u.cell? ⟨V, 0, none⟩ = some (.slice ba lb.length bc)) 6 (by kernel_rfl) (hV.grow (gdr (gre wr))).v0 (fun hS0 => ?_)
      have hLd := hL.grow (gdr (gre wr))
      have hVd := hV.grow (gdr (gre wr))
      have hRd := hR.grow (gdr (gre wr))
      have hbd := gdr hb
      generalize wr.drew = wd at hLd hVd hRd hbd hS0 ⊢
      refine anyU_take (i := 0) (v := ?_) rfl (by kernel_rfl) (by kernel_rfl) (by kernel_rfl) (by kernel_rfl) (fun _ _ _ h => h) (Or.inl ⟨by rfl, ?_⟩) hS0 ?_
      rotate_left
      · intro u hSu; (try dsimp only at hSu); go_simp <;> with_reducible rfl
      simp only [Act.put, List.getElem_toArray, List.getElem_cons_zero, List.setIfInBounds_toArray, List.set_cons_zero, List.set_cons_succ]
      refine anyU_take (i := 1) (v := ?_) rfl (by kernel_rfl) (by kernel_rfl) (by kernel_rfl) (by kernel_rfl) (fun _ _ _ h => h) (Or.inl ⟨by rfl, ?_⟩) hS0 ?_
      rotate_left
      · intro u hSu; (try dsimp only at hSu); go_simp <;> with_reducible rfl
      simp only [Act.put, List.getElem_toArray, List.getElem_cons_zero, List.getElem_cons_succ, List.setIfInBounds_toArray, List.set_cons_zero, List.set_cons_succ]
      have hB1 := gal (gre wd) (.cells M 5)
      have hS1 := cell_later hB1 hS0
      have hS1' : Hid _ := hS1
      clear hS1
      refine anyU_one (i := 2) (by kernel_rfl) rfl (fun K hK => ?_)
      go_simp
      refine hK.out _ _ hS1'.out ?_
      clear hK
      have hy : (wd.alloc (.cells M 5)).ownsRow (V + 1) 5 1 (.slice (some ⟨wd.heap.size, 0, none⟩) (List.replicate 64 0).length 64) (List.replicate 64 0).length (bcells (List.replicate 64 0)) := hmo wd (by have := hVd.lt; omega)
      have hL1 := hLd.grow hB1
      have hV1 := hVd.grow hB1
      have hs1 : (wd.alloc (.cells M 5)).heap.size = wd.heap.size + 1 := by simp
      have hbel1 := gca hbd hB1
      generalize wd.alloc (.cells M 5) = w1 at hB1 hS1' hy hL1 hV1 hs1 hbel1 ⊢
      have hB2 := gal (gre w1) (.cells #[.slice (some ⟨wd.heap.size, 0, none⟩) 64 64] 28)
      have hS2 := cell_later hB2 hS1'.out
      have hS2' : Hid _ := hS2
      clear hS2
      refine anyU_one (i := 3) (by kernel_rfl) rfl (fun K hK => ?_)
      go_simp
      refine hK.out _ _ hS2'.out ?_
      clear hK
      have hL2 := hL1.grow hB2
      have hV2 := hV1.grow hB2
      have hbel2 := gca hbel1 hB2
      have hy2 := (Kept.of_below hB2 (fun _ => False)).owns hy (fun _ _ e => e)
      have hnew := World.news_of_block (cs := #[.slice (some ⟨wd.heap.size, 0, none⟩) 64 64]) (t := 28) (fr := (0, 0)) (blk_new_at w1 (.cells #[.slice (some ⟨wd.heap.size, 0, none⟩) 64 64] 28) (wd.heap.size + 1) hs1.symm)
      have hs2 : (w1.alloc (.cells #[.slice (some ⟨wd.heap.size, 0, none⟩) 64 64] 28)).heap.size = wd.heap.size + 1 + 1 := by simp [hs1]
      generalize w1.alloc (.cells #[.slice (some ⟨wd.heap.size, 0, none⟩) 64 64] 28) = w2 at hB2 hS2' hL2 hV2 hbel2 hy2 hnew hs2 ⊢
      have hlw := hll.out
      refine anyU_one (i := 4) (by kernel_rfl) rfl (fun K hK => ?_)
      refine step_append_lies _ (by rfl) (.tmp 8) (.tmp 10) 47 rfl (V + 1) 28 j0 _ 1 24 Try.underlying47 hj hy0 hy1 hy2' rfl (by decide) (.slice ba lb.length bc) lb.length (lb.map LB.v) (by rfl) hL2.own ⟨wd.heap.size + 1, 0, none⟩ 1 1 [.slice (some ⟨wd.heap.size, 0, none⟩) 64 64] (by rfl) rfl hnew (by simp [Value.oneCell']) (by decide) (by unfold maxLen; omega) (by omega) (by have := hV2.lt; omega) (wd.heap.size + 1 + 1) hs2 ?_
      intro gg cc w5 hown5 hgrow5 hat5 hlt5
      have K5 := Kept.of_grown hgrow5
      have hL5 := hL2.push (y := ⟨List.replicate 64 0, some ⟨wd.heap.size, 0, none⟩, 64⟩) hy2 hown5 hgrow5
      have hV5 := hV2.kept K5 (fun e => by have := (owns_isS hL2.own e).2; omega)
      refine hK.out _ _ hV5.v0 ?_
      clear hK
      simp only [Act.put, List.getElem_toArray, List.getElem_cons_zero, List.getElem_cons_succ, List.setIfInBounds_toArray, List.set_cons_zero, List.set_cons_succ]
      refine anyU_one (i := 5) (by kernel_rfl) rfl (fun K hK => ?_)
      go_simp
      refine hK.out _ _ hV5.v0 ?_
      clear hK
      have fz := hV5.vf
      have c8 := hV5.v0
      refine anyU_last (by kernel_rfl) rfl (by kernel_rfl) (fun K hK => ?_)
      go_simp
      refine hK.out _ _ ?_
      clear hK
      have hbel5 := hbel2.trans (K5.below (B := w.heap.size) hbel2.size (fun z hz e => by have := (owns_isS hL2.own e).2; have := hVe.out; omega))
      have hfin : SB (V + 1) (w5.setCell ⟨V, 0, none⟩ (.slice (some ⟨gg, 0, none⟩) (lb.length + 1) cc)) (some ⟨gg, 0, none⟩) cc (lb ++ [⟨List.replicate 64 0, some ⟨wd.heap.size, 0, none⟩, 64⟩]) := hL5.set (by omega) _ _
      have hfV := hV5.set0 (.slice (some ⟨gg, 0, none⟩) (lb.length + 1) cc)
      have hfR := (((hRd.grow hB1).grow hB2).kept K5 (fun e => by have := (owns_isS hL2.own e).2; have := hVe.out; have := hRe.out; omega)).kept (Kept.one w5 V 0 (.slice (some ⟨gg, 0, none⟩) (lb.length + 1) cc)) (by have := hVe.out; have := hRe.out; omega)
      rw [hlw] at hfin hfV hfR
      go_wp2
      go_roundw
      case rel => exact ⟨k + 1, by omega, by go_num, lb ++ [⟨List.replicate 64 0, some ⟨wd.heap.size, 0, none⟩, 64⟩], some ⟨gg, 0, none⟩, cc, by show _ = _; rw [List.length_append, hlw]; rfl, by show _ = _; rw [List.map_append, hlm.out]; exact (List.replicate_succ' (n := k)).symm, hfin, by rw [List.length_append, hlw]; exact hfV, hfR, gse hbel5 (by have := hVe.out; show w.heap.size ≤ V; omega) _⟩
      case measure => simp [intOf]; omega
    · obtain rfl : k = 130 := by omega
      have y0 := hV.v0
      have y1 := hV.v1
      have z0 := hR.v0
      have z1 := hR.v1
      have zf := hR.vf
      obtain ⟨c0, c1, K⟩ := ret2 (A := .slice ba lb.length bc) (B := .slice none 0 0) z0 z1
      go_wp2
      refine bodyPost_ret (v := .agg #[.slice ba lb.length bc, .slice none 0 0]) (by simp [results, Try.results30, go_sem, c0, c1]) rfl ⟨lb, ba, bc, by rw [hll.out]; simp [DD.val, blankD], hlm.out, ?_, ?_⟩
      · exact ((hL.set (V := R) (by have := hVe.out; have := hRe.out; omega) 0 (.slice ba lb.length bc)).set (V := R) (by have := hVe.out; have := hRe.out; omega) 1 (.slice none 0 0)).leB (by have := hVe.out; omega)
      · exact hb.trans (K.below hb.size (fun z hz e => by have := hRe.out; omega))
theorem specBlank_any (w : World) : Calls Try.prog 30 #[] w (SBPost blankD w) := (specBlank_own w).mono fun e w' ⟨lb, ba, bc, he, hm, hS, hb⟩ => ⟨⟨ba, bc, none, 0⟩, he, ⟨by rw [← hm]; exact hS.at_, fun i hi => absurd hi (Nat.not_lt_zero _)⟩, hb⟩

end Go.Proofs.Ythjddpkegooobab
