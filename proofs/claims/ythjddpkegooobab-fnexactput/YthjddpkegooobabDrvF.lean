/-
  DRVF: a drive's blocks become a disk's. Own work.
-/
import Derived.Test.YthjddpkegooobabDrvG
namespace Go.Proofs.Ythjddpkegooobab
open Go.RowKit

set_option maxHeartbeats 4000000 in
set_option maxRecDepth 100000 in
theorem disk_any (p : Nat) (bl : List (List Nat)) (pa : Option Addr) (pc : Nat) (ws : List DW) (kv : Value) (w : World) (hw : ws.length ≤ 201) (h : Dr w p bl pa pc ws kv) :
    Calls Try.prog 90 #[.pointer (some ⟨p, 0, none⟩)] w fun e w' => ∃ l fa ga fc gc, e = .returned (DD.val ⟨bl, ws⟩ l) ∧ MD w' w.heap.size w'.heap.size l ⟨bl, ws⟩ fa ga fc gc ∧ Below w.heap.size w w' := by
  obtain ⟨j0, hj, hy0, hy1, hy2⟩ := info_parts info_bytes
  have hmk : ∀ u : World, (Instr.makeSlice 47 (.int .i64 130) (.int .i64 130)).run Try.prog u =
      .ok (.slice (some ⟨u.heap.size, 0, none⟩) 130 130) (u.alloc (.cells (madeCells #[.slice none 0 0] 130) 28)) := fun u => by
    have h := run_make (P := Try.prog) u 47 28 j0 _ Try.underlying47 hj hy0 .i64 .i64 (130 : Int) (130 : Int) (by omega) (Int.le_refl _) (by rw [hy2]; omega) (by omega)
    simpa [hy1, Value.cells] using h
  obtain ⟨M, hM⟩ := hid_ex (madeCells #[Value.slice none 0 0] 130)
  rw [← hM.out] at hmk
  have hlen := h.d.len
  have h64 := h.d.all64
  have hz64 := (zero_of_info zero_content).1
  have hSl := run_slice_content
  go_enter Try.func90, Try.ntmps90
  go_upto_region 2 with fail
  have hw1 := gal (gre w) (.cells #[.slice none 0 0, .slice none 0 0] 50)
  have hs1 : (w.alloc (.cells #[.slice none 0 0, .slice none 0 0] 50)).heap.size = w.heap.size + 1 := by simp
  have r0 : (w.alloc (.cells #[.slice none 0 0, .slice none 0 0] 50)).cell? ⟨w.heap.size, 0, none⟩ = some (.slice none 0 0) := by simp
  have r1 : (w.alloc (.cells #[.slice none 0 0, .slice none 0 0] 50)).cell? ⟨w.heap.size, 1, none⟩ = some (.slice none 0 0) := by simp
  have rf : ∀ o, (w.alloc (.cells #[.slice none 0 0, .slice none 0 0] 50)).frozen? ⟨w.heap.size, o, none⟩ = false := fun o => by simp
  generalize hR : w.heap.size = R at hs1 r0 r1 rf ⊢
  generalize w.alloc (.cells #[.slice none 0 0, .slice none 0 0] 50) = w1 at hw1 hs1 r0 r1 rf ⊢
  have hK0 : DkB w1 ((w1.alloc (.cells M 28)).alloc (.cells #[.slice (some ⟨R + 1, 0, none⟩) 130 130, .slice none 0 0] 50)) (R + 1) (R + 1 + 1) (.slice none 0 0) bl 0 (fun i => (#[Value.slice none 0 0] : Array Value)[i % (#[Value.slice none 0 0] : Array Value).size]!) (fun _ => 0) (fun _ => 0) := by
    have e2 : (w1.alloc (.cells M 28)).heap.size = R + 1 + 1 := by simp [hs1]
    refine ⟨?_, fun i hi => absurd hi (Nat.not_lt_zero _), ?_, ?_, fun o => ?_, gal (gal (gre _) _) _, by omega, by omega⟩
    · have := rowIs_made_any w1 #[Value.slice none 0 0] 130 28
      rw [← hM.out, hs1] at this
      exact this.of_block (Below.heap_alloc _ _ _ (by omega))
    · rw [← e2]; simp
    · rw [← e2]; simp
    · rw [← e2]; simp
  generalize (w1.alloc (.cells M 28)).alloc (.cells #[.slice (some ⟨R + 1, 0, none⟩) 130 130, .slice none 0 0] 50) = w3 at hK0 ⊢
  obtain ⟨N, hN⟩ := hid_ex (R + 1)
  obtain ⟨V, hV⟩ := hid_ex (R + 1 + 1)
  rw [← hV.out, ← hN.out] at hK0
  rw [← hV.out, ← hN.out]
  clear hmk hM hj hy0 hy1 hy2
  have hDr3 := (h.grow hw1).grow hK0.bel
  go_wp2_with (refine wpList_load_mid rfl 122 _ rfl p 0 rfl (blCells bl) _ hDr3.d.whole Try.underlying122 rfl (by rw [size_contents, blCells_length bl h64, hlen]) ?_)
  clear hDr3
  go_loopw [14] (fun i wr => ∃ (k : Nat) (f : Nat → Value) (bs cs : Nat → Nat), k ≤ 130 ∧ i = .int .i64 k ∧ DkB w1 wr N V (.slice none 0 0) bl k f bs cs) (fun i _ => 130 - (intOf i).toNat)
  case atStart => exact ⟨0, _, _, _, Nat.zero_le _, rfl, hK0⟩
  case round =>
    obtain ⟨k, f, bs, cs, hk, rfl, hD⟩ := hrel
    by_cases hlt : k < 130
    · obtain ⟨n, hn⟩ := hid_ex bl[k]!
      have hn64 : Hid (n.length = 64) := by show _ = _; rw [hn.out]; exact h64 _ (mem_at (by omega))
      have hcl : (bcells n).length = 64 := by rw [bcells_length]; exact hn64.out
      have i0 : (0 : Int) ≤ (k : Int) := by omega
      have i1 : (k : Int) < 130 := by omega
      go_upto_region 5 with (first
        | (refine wpList_index_contents rfl _ _ rfl bl k rfl rfl hlt hlen h64 ?_; rw [← hn.out])
        | (refine wpList_alloc_big rfl 121 rfl _ hz64 ?_)
        | (refine wpList_store_new rfl 121 _ _ rfl _ (bcells n).toArray rfl rfl (by rw [size_content]; simp [hcl]) (by simp [zeros, hcl]) (all_oneCell_toArray cells_u8) ?_))
      have hDA := hD.grow (gal (gre wr) (.cells (bcells n).toArray 121))
      have hby := bytes_range (range_new wr (bcells n) 121)
      have hsC : (wr.alloc (.cells (bcells n).toArray 121)).heap.size = wr.heap.size + 1 := by simp
      generalize wr.alloc (.cells (bcells n).toArray 121) = wC at hDA hby hsC ⊢
      generalize hQ : wr.heap.size = Q at hby hsC ⊢
      refine wp_regionU (fun u => u.cell? ⟨V, 0, none⟩ = some (.slice (some ⟨N, 0, none⟩) 130 130)) 6 (by kernel_rfl) hDA.v0 (fun hS0 => ?_)
      refine anyU_take (i := 0) (v := ?_) rfl (by kernel_rfl) (by kernel_rfl) (by kernel_rfl) (by kernel_rfl) (fun _ _ _ h => h) (Or.inl ⟨by rfl, ?_⟩) hS0 ?_
      rotate_left
      · intro u hSu; (try dsimp only at hSu); go_simp <;> with_reducible rfl
      simp only [Act.put, List.getElem_toArray, List.getElem_cons_zero, List.setIfInBounds_toArray, List.set_cons_zero, List.set_cons_succ]
      refine anyU_take (i := 1) (v := ?_) rfl (by kernel_rfl) (by kernel_rfl) (by kernel_rfl) (by kernel_rfl) (fun _ _ _ h => h) (Or.inl ⟨by rfl, ?_⟩) hS0 ?_
      rotate_left
      · intro u hSu; (try dsimp only at hSu); go_simp <;> with_reducible rfl
      simp only [Act.put, List.getElem_toArray, List.getElem_cons_zero, List.getElem_cons_succ, List.setIfInBounds_toArray, List.set_cons_zero, List.set_cons_succ]
      refine anyU_take (i := 2) (v := ?_) rfl (by kernel_rfl) (by kernel_rfl) (by kernel_rfl) (by kernel_rfl) (fun _ _ _ h => h) (Or.inl ⟨by rfl, ?_⟩) hS0 ?_
      rotate_left
      · intro u hSu; (try dsimp only at hSu); go_simp <;> with_reducible rfl
      simp only [Act.put, List.getElem_toArray, List.getElem_cons_zero, List.getElem_cons_succ, List.setIfInBounds_toArray, List.set_cons_zero, List.set_cons_succ]
      refine anyU_take (i := 3) (v := ?_) rfl (by kernel_rfl) (by kernel_rfl) (by kernel_rfl) (by kernel_rfl) (fun _ _ _ h => h) (Or.inl ⟨by rfl, ?_⟩) hS0 ?_
      rotate_left
      · intro u hSu; (try dsimp only at hSu); go_simp <;> with_reducible rfl
      simp only [Act.put, List.getElem_toArray, List.getElem_cons_zero, List.getElem_cons_succ, List.setIfInBounds_toArray, List.set_cons_zero, List.set_cons_succ]
      refine anyU_one (i := 4) (by kernel_rfl) rfl (fun K hK => ?_)
      go_simp
      rw [show (64 : Nat) = n.length from hn64.out.symm]
      refine (bytesClone_any Q 0 n.length n _ (by rw [hn64.out]; decide) (by rw [hn64.out]; decide) (hby.grow (gdr (gre _)))).mono ?_
      rintro e w2 ⟨G, gcap, rfl, hG, hGr, hb2⟩
      have hD2 := hDA.grow (gca (gdr (gre wC)) hb2)
      rw [hn64.out]
      refine hK.out _ _ hD2.v0 ?_
      clear hK
      refine anyU_one (i := 5) (by kernel_rfl) rfl (fun K hK => ?_)
      go_simp
      refine hK.out _ _ hD2.v0 ?_
      clear hK
      have rc := hD2.row.cell (i := k) (by omega)
      have rf := hD2.row.frozen
      refine anyU_last (by kernel_rfl) rfl (by kernel_rfl) (fun K hK => ?_)
      go_simp
      refine hK.out _ _ ?_
      clear hK
      have hst := hD2.step (k := k) (G := G) (cap := gcap) (by rw [← hn.out]; exact hGr) (by have := World.block_lt_of_cell? _ _ hDA.v0; have h5 : wC.heap.size ≤ G := hG; simp at this; omega) (fun j hj => by have := (hDA.fs j hj).2.1.lt; have h5 : wC.heap.size ≤ G := hG; omega)
      go_wp2
      go_roundw
      case rel => exact ⟨k + 1, _, _, _, by omega, by go_num, hst⟩
      case measure => simp [intOf]; omega
    · obtain rfl : k = 130 := by omega
      have hDr2 := (h.grow hw1).grow hD.bel
      have x2 := hDr2.d.ws
      obtain ⟨j0, hj, hy0, hy1, hy2⟩ := info_parts info_implWrite
      have hz65 := (zero_of_info zero_pending).1
      have hW0 : DkW w1 wr N V bl f bs cs none 0 [] (fun _ => 0) := ⟨hD, owns_none _ _ _ _, fun i hi => absurd hi (Nat.not_lt_zero _)⟩
      clear hD hK0 hDr2 hk hlt
      go_wp2
      go_loopw [30] (fun i wr => ∃ k : Nat, k ≤ ws.length ∧ i = .int .i64 k ∧ GWInv w1 wr N V bl f bs cs ws k) (fun i _ => ws.length - (intOf i).toNat)
      case atStart => exact ⟨0, Nat.zero_le _, rfl, none, 0, [], _, rfl, rfl, hW0⟩
      case round =>
        obtain ⟨k, hk, rfl, va, vc, lw, gs, hll, hlm, hD⟩ := hrel
        by_cases hlt : k < ws.length
        · have hDrk := (h.grow hw1).grow hD.dk.bel
          obtain ⟨g, rfl, _, hgl, hrg⟩ := owns_pend hDrk.own hDrk.w64 hlt
          obtain ⟨n, hn⟩ := hid_ex ws[k]!
          rw [← hn.out] at hrg
          have hn64 : Hid (n.bytes.length = 64) := by show _ = _; rw [hn.out]; exact h.w64 _ (mem_at hlt)
          have hpl : n.pc.length = 65 := pc_length hn64.out
          have i0 : (0 : Int) ≤ (k : Int) := by omega
          have i1 : (k : Int) < (ws.length : Int) := by omega
          clear hDrk
          go_upto_region 10 with (first
            | (refine wpList_load_mid rfl 184 _ rfl g (k * 65) rfl n.pc _ hrg Try.underlying184 rfl (by rw [size_pending, hpl]) ?_)
            | (refine wpList_alloc_big rfl 184 rfl _ hz65 ?_)
            | (refine wpList_store_new rfl 184 _ _ rfl _ n.pc.toArray rfl rfl (by rw [size_pending]; simp [hpl]) (by simp [zeros, hpl]) (all_oneCell_toArray pc_one) ?_))
          have hDA := hD.grow (gal (gre wr) (.cells n.pc.toArray 184))
          have hrn := range_new wr n.pc 184
          have hby := bytes_range (range_drop (cs := [.int .i64 n.block]) hrn)
          have hq0 := hrn 0 _ rfl
          have hsC : (wr.alloc (.cells n.pc.toArray 184)).heap.size = wr.heap.size + 1 := by simp
          generalize wr.alloc (.cells n.pc.toArray 184) = wC at hDA hby hsC hq0 ⊢
          clear hrn
          generalize hQ : wr.heap.size = Q at hby hsC hq0 ⊢
          have hby2 : BytesAt wC (some ⟨Q, 1, none⟩) n.bytes := hby
          have hq02 : wC.cell? ⟨Q, 0, none⟩ = some (.int .i64 n.block) := hq0
          clear hby hq0
          have hSk : ∀ (u u' : World), Below u.heap.size u u' → (u.cell? ⟨V, 1, none⟩ = some (.slice va lw.length vc) ∧ u.cell? ⟨Q, 0, none⟩ = some (.int .i64 n.block)) → (u'.cell? ⟨V, 1, none⟩ = some (.slice va lw.length vc) ∧ u'.cell? ⟨Q, 0, none⟩ = some (.int .i64 n.block)) := fun u u' hb h => ⟨cell_later hb h.1, cell_later hb h.2⟩
          refine wp_regionU (fun u => u.cell? ⟨V, 1, none⟩ = some (.slice va lw.length vc) ∧ u.cell? ⟨Q, 0, none⟩ = some (.int .i64 n.block)) 11 (by kernel_rfl) ⟨hDA.dk.v1, hq02⟩ (fun hS0 => ?_)
          refine anyU_take (i := 0) (v := ?_) rfl (by kernel_rfl) (by kernel_rfl) (by kernel_rfl) (by kernel_rfl) (fun _ _ _ h => h) (Or.inl ⟨by rfl, ?_⟩) hS0 ?_
          rotate_left
          · intro u hSu; obtain ⟨s0, s1⟩ := hSu; go_simp <;> with_reducible rfl
          simp only [Act.put, List.getElem_toArray, List.getElem_cons_zero, List.setIfInBounds_toArray, List.set_cons_zero, List.set_cons_succ]
          refine anyU_take (i := 1) (v := ?_) rfl (by kernel_rfl) (by kernel_rfl) (by kernel_rfl) (by kernel_rfl) (fun _ _ _ h => h) (Or.inl ⟨by rfl, ?_⟩) hS0 ?_
          rotate_left
          · intro u hSu; obtain ⟨s0, s1⟩ := hSu; go_simp <;> with_reducible rfl
          simp only [Act.put, List.getElem_toArray, List.getElem_cons_zero, List.getElem_cons_succ, List.setIfInBounds_toArray, List.set_cons_zero, List.set_cons_succ]
          refine anyU_take (i := 2) (v := ?_) rfl (by kernel_rfl) (by kernel_rfl) (by kernel_rfl) (by kernel_rfl) (fun _ _ _ h => h) (Or.inl ⟨by rfl, ?_⟩) hS0 ?_
          rotate_left
          · intro u hSu; obtain ⟨s0, s1⟩ := hSu; go_simp <;> with_reducible rfl
          simp only [Act.put, List.getElem_toArray, List.getElem_cons_zero, List.getElem_cons_succ, List.setIfInBounds_toArray, List.set_cons_zero, List.set_cons_succ]
          refine anyU_take (i := 3) (v := ?_) rfl (by kernel_rfl) (by kernel_rfl) (by kernel_rfl) (by kernel_rfl) (fun _ _ _ h => h) (Or.inl ⟨by rfl, ?_⟩) hS0 ?_
          rotate_left
          · intro u hSu; obtain ⟨s0, s1⟩ := hSu; go_simp <;> with_reducible rfl
          simp only [Act.put, List.getElem_toArray, List.getElem_cons_zero, List.getElem_cons_succ, List.setIfInBounds_toArray, List.set_cons_zero, List.set_cons_succ]
          refine anyU_take (i := 4) (v := ?_) rfl (by kernel_rfl) (by kernel_rfl) (by kernel_rfl) (by kernel_rfl) (fun _ _ _ h => h) (Or.inl ⟨by rfl, ?_⟩) hS0 ?_
          rotate_left
          · intro u hSu; obtain ⟨s0, s1⟩ := hSu; go_simp <;> with_reducible rfl
          simp only [Act.put, List.getElem_toArray, List.getElem_cons_zero, List.getElem_cons_succ, List.setIfInBounds_toArray, List.set_cons_zero, List.set_cons_succ]
          refine anyU_take (i := 5) (v := ?_) rfl (by kernel_rfl) (by kernel_rfl) (by kernel_rfl) (by kernel_rfl) (fun _ _ _ h => h) (Or.inl ⟨by rfl, ?_⟩) hS0 ?_
          rotate_left
          · intro u hSu; obtain ⟨s0, s1⟩ := hSu; go_simp <;> with_reducible rfl
          simp only [Act.put, List.getElem_toArray, List.getElem_cons_zero, List.getElem_cons_succ, List.setIfInBounds_toArray, List.set_cons_zero, List.set_cons_succ]
          refine anyU_one (i := 6) (by kernel_rfl) rfl (fun K hK => ?_)
          go_simp
          rw [show (64 : Nat) = n.bytes.length from hn64.out.symm]
          refine (bytesClone_any Q 1 n.bytes.length n.bytes _ (by rw [hn64.out]; decide) (by rw [hn64.out]; decide) (hby2.grow (gdr (gre _)))).mono ?_
          rintro e w2 ⟨G, gcap, rfl, hG, hGr, hb2⟩
          have hD2 := hDA.grow (gca (gdr (gre wC)) hb2)
          have hS2 := hSk _ _ hb2 hS0
          refine hK.out _ _ hS2 ?_
          clear hK
          refine anyU_one (i := 7) (by kernel_rfl) rfl (fun K hK => ?_)
          go_simp
          refine hK.out _ _ hS2 ?_
          clear hK
          have hB3 := gal (gre w2) (.cells #[.int .i64 n.block, .slice (some ⟨G, 0, none⟩) n.bytes.length gcap] 133)
          have hS3 := hSk _ _ hB3 hS2
          have hS3' : Hid _ := hS3
          clear hS3
          refine anyU_one (i := 8) (by kernel_rfl) rfl (fun K hK => ?_)
          go_simp
          refine hK.out _ _ hS3'.out ?_
          clear hK
          have hD3 := hD2.grow hB3
          have hsz3 : (w2.alloc (.cells #[.int .i64 n.block, .slice (some ⟨G, 0, none⟩) n.bytes.length gcap] 133)).heap.size = w2.heap.size + 1 := by simp
          have hnew := World.news_of_block (cs := #[.int .i64 n.block, .slice (some ⟨G, 0, none⟩) n.bytes.length gcap]) (t := 133) (fr := (0, 0)) (blk_new_at w2 (.cells #[.int .i64 n.block, .slice (some ⟨G, 0, none⟩) n.bytes.length gcap] 133) _ rfl)
          have hGr3 := hGr.of_block (hB3.block _ hGr.lt)
          have hGl := hGr.lt
          have hlw := hll.out
          have hVs := World.block_lt_of_cell? wC ⟨V, 0, none⟩ hDA.dk.v0
          have hs2 := hb2.size
          have hsD : wC.drew.heap.size = wC.heap.size := rfl
          generalize w2.alloc (.cells #[.int .i64 n.block, .slice (some ⟨G, 0, none⟩) n.bytes.length gcap] 133) = w3' at hB3 hS3' hD3 hsz3 hnew hGr3 ⊢
          refine anyU_one (i := 9) (by kernel_rfl) rfl (fun K hK => ?_)
          refine step_append_lies _ (by rfl) (.tmp 35) (.tmp 42) 48 rfl (V + 1) 133 j0 _ 2 32 Try.underlying48 hj hy0 hy1 hy2 rfl (by decide) (.slice va lw.length vc) lw.length (wCells lw) (by rfl) hD3.own ⟨w2.heap.size, 0, none⟩ 1 1 [.int .i64 n.block, .slice (some ⟨G, 0, none⟩) n.bytes.length gcap] (by rfl) rfl hnew (by simp [Value.oneCell']) (by decide) (by unfold maxLen; omega) (by omega) (by simp at hVs; omega) (w2.heap.size + 1) hsz3 ?_
          intro gg cc w5 hown5 hgrow5 hat5 hlt5
          have hst := hD3.step hGr3 (by simp at hVs; omega) (fun j hj => by have := (hDA.dk.fs j hj).2.1.lt; omega) (fun j hj => by have := (hDA.byt j hj).2.1.lt; omega) hown5 hgrow5
          have K5 := Kept.of_grown hgrow5
          have hz : ∀ z, (Value.slice va lw.length vc).ownBlock = some z → IsW wr z ∧ V + 1 ≤ z := fun z hz => owns_isW hD.own hz
          have hS5 : w5.cell? ⟨V, 1, none⟩ = some (.slice va lw.length vc) ∧ w5.cell? ⟨Q, 0, none⟩ = some (.int .i64 n.block) := ⟨K5.cell hS3'.out.1 (fun e => by have := (hz _ e).2; omega), K5.cell hS3'.out.2 (fun e => by obtain ⟨c, hc⟩ := (hz _ e).1; have := (Array.getElem?_eq_some_iff.1 hc).1; omega)⟩
          have vf5 : ∀ o, w5.frozen? ⟨V, o, none⟩ = false := fun o => by have := hst.dk.vf o; rwa [World.frozen?_setCell] at this
          refine hK.out _ _ hS5 ?_
          clear hK
          simp only [Act.put, List.getElem_toArray, List.getElem_cons_zero, List.getElem_cons_succ, List.setIfInBounds_toArray, List.set_cons_zero, List.set_cons_succ]
          refine anyU_one (i := 10) (by kernel_rfl) rfl (fun K hK => ?_)
          go_simp
          refine hK.out _ _ hS5 ?_
          clear hK
          obtain ⟨v5, _⟩ := id hS5
          refine anyU_last (by kernel_rfl) rfl (by kernel_rfl) (fun K hK => ?_)
          go_simp
          refine hK.out _ _ ?_
          clear hK
          go_wp2
          go_roundw
          case rel => exact ⟨k + 1, by omega, by go_num, some ⟨gg, 0, none⟩, cc, lw ++ [⟨n, some ⟨G, 0, none⟩, gcap⟩], _, by show _ = _; rw [List.length_append, hlw]; rfl, by show _ = _; rw [List.map_append, hlm.out, take_snoc _ _ hlt, ← hn.out]; rfl, by rw [hlw] at hst; exact hst⟩
          case measure => simp [intOf]; omega
        · obtain rfl : k = ws.length := by omega
          rw [List.take_length] at hlm
          have y0 := hD.dk.v0
          have y1 := hD.dk.v1
          have z0 := cell_later hD.dk.bel r0
          have z1 := cell_later hD.dk.bel r1
          have zf : ∀ o, wr.frozen? ⟨R, o, none⟩ = false := fun o => (hD.dk.bel.frozen (p := ⟨R, o, none⟩) (by show R < w1.heap.size; omega)).trans (rf o)
          have hmd := hD.md hlen h64
          rw [hlm.out] at hmd
          have K := ((Kept.refl (fun b => b = R) wr).set (a := ⟨R, 0, none⟩) (fun _ => rfl) (.slice (some ⟨N, 0, none⟩) 130 130)).set (a := ⟨R, 1, none⟩) (fun _ => rfl) (.slice va lw.length vc)
          have hmd2 := (hmd.out K (fun b hb _ e => by omega)).mono (lo' := w.heap.size) (hi' := ((wr.setCell ⟨R, 0, none⟩ (.slice (some ⟨N, 0, none⟩) 130 130)).setCell ⟨R, 1, none⟩ (.slice va lw.length vc)).heap.size) (by omega) K.size
          have hbel : Below w.heap.size w ((wr.setCell ⟨R, 0, none⟩ (.slice (some ⟨N, 0, none⟩) 130 130)).setCell ⟨R, 1, none⟩ (.slice va lw.length vc)) := gse (gse (gca hw1 hD.dk.bel) (by show w.heap.size ≤ R; omega) _) (by show w.heap.size ≤ R; omega) _
          have c0 := World.cell?_setCell_same wr ⟨R, 0, none⟩ (.slice (some ⟨N, 0, none⟩) 130 130) z0
          have c1 := World.cell?_setCell_same (wr.setCell ⟨R, 0, none⟩ (.slice (some ⟨N, 0, none⟩) 130 130)) ⟨R, 1, none⟩ (.slice va lw.length vc) ((World.cell?_setCell_other wr ⟨R, 0, none⟩ ⟨R, 1, none⟩ (.slice (some ⟨N, 0, none⟩) 130 130) (by simp)).trans z1)
          clear hmd hW0 K hlen h64
          go_wp2
          refine bodyPost_ret (v := .agg #[.slice (some ⟨N, 0, none⟩) 130 130, .slice va lw.length vc]) (by simp [results, Try.results90, go_sem, c0, c1]) rfl ⟨⟨some ⟨N, 0, none⟩, 130, va, vc⟩, _, _, _, _, ?_, hmd2, hbel⟩
          rw [DD.val, hll.out, h.d.len]

end Go.Proofs.Ythjddpkegooobab
