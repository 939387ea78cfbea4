import Derived.Test.YthjddpkegooobacGreatDoorPartB
namespace Go.Proofs.YthjddpkegooobacGreatDoor
open Go.RowKit
set_option maxRecDepth 100000
set_option maxHeartbeats 8000000
theorem szVal_any (v : GV) (left : Int) (w : World) (hv : v.Ok) (h0 : 0 ≤ left) (h1 : left ≤ 1048576) :
  Calls Tryz.prog 113 #[v.val, .int .i64 left] w fun e w' => e = .returned (.int .i64 (leftBy left v.sz)) ∧ Below w.heap.size w w' := by
 have ht := hv.text
 unfold maxLen at ht
 go_enter Tryz.func113, Tryz.ntmps113
 go_wp2
 all_goals go_ret
 · exact ⟨ret_int (leftBy_neg (by assumption)).symm, (Below.refl _ _).alloc (Nat.le_refl _) _⟩
 · exact ⟨ret_int (leftBy_pos (Int.not_lt.2 (by assumption))).symm, (Below.refl _ _).alloc (Nat.le_refl _) _⟩
theorem szValS_any (a : Option Addr) (cap : Nat) (vs : List GV) (left : Int) (w : World) (hl : vs.length ≤ maxLen) (hv : ∀ v, v ∈ vs → v.Ok) (h0 : 0 ≤ left) (h1 : left ≤ 1048576) (ha : ValsAt w.heap.size w a vs) :
  Calls Tryz.prog 170 #[.slice a vs.length cap, .int .i64 left] w fun e w' => e = .returned (.int .i64 (leftBy left (vs.length + szVals vs))) ∧ Below w.heap.size w w' := by
 unfold maxLen at hl
 have hsn := szVals_nonneg vs
 go_enter Tryz.func170, Tryz.ntmps170
 go_wp2
 ·
  go_ret
  exact ⟨ret_int (leftBy_neg (by omega)).symm, Below.refl _ _⟩
 go_loopw [1, 5] (fun l i wr => ∃ k : Nat, k ≤ vs.length ∧ i = .int .i64 k ∧ l = .int .i64 (left - vs.length - szVals (vs.take k)) ∧ 0 ≤ left - vs.length - szVals (vs.take k) ∧ Below w.heap.size w wr) (fun _ i _ => vs.length - (intOf i).toNat)
 case atStart => exact ⟨0, Nat.zero_le _, rfl, by simp [szVals], by simp [szVals]; omega, Below.refl _ _⟩
 case round =>
  obtain ⟨k, hk, rfl, rfl, hpos, hb⟩ := hrel
  by_cases hlt : k < vs.length
  ·
   obtain ⟨v, b, off, hvk, hvm, rfl, hbs, hva⟩ := ha.get hlt
   have hva := hva.below hb hbs
   have c0 := hva.kind
   have c1 := hva.num
   have c2 := hva.text
   have c3 := hva.node
   have hstep : Hid (szVals (vs.take (k + 1)) = szVals (vs.take k) + v.sz) := by rw [hvk.out]; exact szVals_take_succ vs k hlt
   have hle := szVals_take_le vs (k + 1)
   have hn0 := szVals_nonneg (vs.take k)
   have hvz := v.sz_nonneg
   go_wp2_with (go_at_call 113; refine (szVal_any v _ _ (hv v hvm) (by omega) (by omega)).mono ?_; rintro e w' ⟨rfl, hb'⟩)
   ·
    go_ret
    have hn := leftBy_of_neg (by assumption)
    have hs := hstep.out
    exact ⟨ret_int (leftBy_neg (by omega)).symm, hb.trans (hb'.mono hb.size)⟩
   ·
    have hn := leftBy_of_nonneg (by assumption)
    have hs := hstep.out
    go_roundw
    case rel => exact ⟨k + 1, by omega, by go_num, by rw [hn.1, hs]; go_num, by omega, hb.trans (hb'.mono hb.size)⟩
    case measure => simp [intOf]; omega
  ·
   go_wp2
   go_ret
   have e : k = vs.length := by omega
   subst e
   rw [List.take_length] at hpos
   exact ⟨ret_int (by rw [List.take_length, leftBy_pos (by omega)]; omega), hb⟩
theorem szNode_any (a : Option Addr) (cap : Nat) (n : GN) (left : Int) (w : World) (hn : n.Ok) (h0 : 0 ≤ left) (h1 : left ≤ 1048576) (ha : ValsAt w.heap.size w a n.vals) :
  Calls Tryz.prog 148 #[.agg #[.int .i64 n.tag, .slice a n.vals.length cap], .int .i64 left] w fun e w' => e = .returned (.int .i64 (leftBy left n.sz)) ∧ Below w.heap.size w w' := by
 have hz : Hid (n.sz = n.vals.length + szVals n.vals) := rfl
 go_enter Tryz.func148, Tryz.ntmps148
 go_wp2_with (go_at_call 170; refine (szValS_any a cap n.vals _ _ hn.len hn.vals h0 h1 ((ha.below ((Below.refl _ _).alloc (Nat.le_refl _) _)).mono (by simp))).mono ?_; rintro e w' ⟨rfl, hb'⟩)
 ·
  go_ret
  have hneg := leftBy_of_neg (by assumption)
  have := hz.out
  exact ⟨ret_int (leftBy_neg (by omega)).symm, ((Below.refl _ _).alloc (Nat.le_refl _) _).trans (hb'.mono (by simp))⟩
 ·
  go_ret
  have := hz.out
  exact ⟨ret_int (by rw [this]), ((Below.refl _ _).alloc (Nat.le_refl _) _).trans (hb'.mono (by simp))⟩
theorem szNodeS_any (a : Option Addr) (cap : Nat) (ns : List GN) (left : Int) (w : World) (hl : ns.length ≤ maxLen) (hv : ∀ n, n ∈ ns → n.Ok) (h0 : 0 ≤ left) (h1 : left ≤ 1048576) (ha : NodesAt w.heap.size w a ns) :
  Calls Tryz.prog 114 #[.slice a ns.length cap, .int .i64 left] w fun e w' => e = .returned (.int .i64 (leftBy left (ns.length + szNodes ns))) ∧ Below w.heap.size w w' := by
 unfold maxLen at hl
 have hsn := szNodes_nonneg ns
 go_enter Tryz.func114, Tryz.ntmps114
 go_wp2
 ·
  go_ret
  exact ⟨ret_int (leftBy_neg (by omega)).symm, Below.refl _ _⟩
 go_loopw [1, 5] (fun l i wr => ∃ k : Nat, k ≤ ns.length ∧ i = .int .i64 k ∧ l = .int .i64 (left - ns.length - szNodes (ns.take k)) ∧ 0 ≤ left - ns.length - szNodes (ns.take k) ∧ Below w.heap.size w wr) (fun _ i _ => ns.length - (intOf i).toNat)
 case atStart => exact ⟨0, Nat.zero_le _, rfl, by simp [szNodes], by simp [szNodes]; omega, Below.refl _ _⟩
 case round =>
  obtain ⟨k, hk, rfl, rfl, hpos, hb⟩ := hrel
  by_cases hlt : k < ns.length
  ·
   obtain ⟨n, b, off, a', cap', hvk, hvm, rfl, hbs, hva⟩ := ha.get hlt
   have hva := hva.below hb hbs
   have c0 := hva.tag
   have c1 := hva.sl
   have hstep : Hid (szNodes (ns.take (k + 1)) = szNodes (ns.take k) + n.sz) := by rw [hvk.out]; exact szNodes_take_succ ns k hlt
   have hle := szNodes_take_le ns (k + 1)
   have hn0 := szNodes_nonneg (ns.take k)
   have hvz := n.sz_nonneg
   have hvals := hva.vals
   go_wp2_with (go_at_call 148; refine (szNode_any a' cap' n _ _ (hv n hvm) (by omega) (by omega) (hvals.mono hb.size)).mono ?_; rintro e w' ⟨rfl, hb'⟩)
   ·
    go_ret
    have hn := leftBy_of_neg (by assumption)
    have hs := hstep.out
    exact ⟨ret_int (leftBy_neg (by omega)).symm, hb.trans (hb'.mono hb.size)⟩
   ·
    have hn := leftBy_of_nonneg (by assumption)
    have hs := hstep.out
    go_roundw
    case rel => exact ⟨k + 1, by omega, by go_num, by rw [hn.1, hs]; go_num, by omega, hb.trans (hb'.mono hb.size)⟩
    case measure => simp [intOf]; omega
  ·
   go_wp2
   go_ret
   have e : k = ns.length := by omega
   subst e
   rw [List.take_length] at hpos
   exact ⟨ret_int (by rw [List.take_length, leftBy_pos (by omega)]; omega), hb⟩
theorem szGraph_any (a : Option Addr) (cap : Nat) (g : GG) (left : Int) (w : World) (hg : g.Ok) (h0 : 0 ≤ left) (h1 : left ≤ 1048576) (ha : NodesAt w.heap.size w a g.nodes) :
  Calls Tryz.prog 69 #[g.val a cap, .int .i64 left] w fun e w' => e = .returned (.int .i64 (leftBy left g.sz)) ∧ Below w.heap.size w w' := by
 have hz : Hid (g.sz = g.root.sz + g.nodes.length + szNodes g.nodes) := rfl
 have hrz := g.root.sz_nonneg
 have hnz := szNodes_nonneg g.nodes
 go_enter Tryz.func69, Tryz.ntmps69
 go_wp2_with (go_at_call 113; refine (szVal_any g.root _ _ hg.root h0 h1).mono ?_; rintro e w' ⟨rfl, hb'⟩; obtain ⟨hc, hf⟩ := bcell hb')
 ·
  go_ret
  have hneg := leftBy_of_neg (by assumption)
  have := hz.out
  exact ⟨ret_int (leftBy_neg (by omega)).symm, ((Below.refl _ _).alloc (Nat.le_refl _) _).trans (hb'.mono (by simp))⟩
 ·
  have hnn := leftBy_of_nonneg (by assumption)
  have hB : Below w.heap.size w w' := ((Below.refl _ _).alloc (Nat.le_refl _) _).trans (hb'.mono (by simp))
  have hle : leftBy left g.root.sz ≤ 1048576 := by omega
  have hge : 0 ≤ leftBy left g.root.sz := by omega
  have hnn' : Hid _ := hnn
  clear hnn
  go_wp2_with (go_at_call 114; refine (szNodeS_any a cap g.nodes _ _ hg.len hg.nodes hge hle ((ha.below hB).mono hB.size)).mono ?_; rintro e w'' ⟨rfl, hb''⟩)
  ·
   go_ret
   have hneg := leftBy_of_neg (by assumption)
   have := hz.out
   have := hnn'.out
   exact ⟨ret_int (leftBy_neg (by omega)).symm, hB.trans (hb''.mono hB.size)⟩
  ·
   go_ret
   have h1 := leftBy_of_nonneg (by assumption)
   have := hz.out
   have := hnn'.out
   exact ⟨ret_int (by rw [h1.1, leftBy_pos (s := g.sz) (by omega)]; omega), hB.trans (hb''.mono hB.size)⟩

theorem disk_any (p : Nat) (bl : List (List Nat)) (pa : Option Addr) (pc : Nat) (ws : List DW) (kv : Value) (w : World) (hw : ws.length ≤ 201) (h : Dr w p bl pa pc ws kv) :
  Calls Tryz.prog 79 #[.pointer (some ⟨p, 0, none⟩)] w fun e w' => ∃ l fa ga fc gc, e = .returned (DD.val ⟨bl, ws⟩ l) ∧ MD w' w.heap.size w'.heap.size l ⟨bl, ws⟩ fa ga fc gc ∧ Below w.heap.size w w' := by
 obtain ⟨j0, hj, hy0, hy1, hy2⟩ := info_parts info_bytes
 have hmk : ∀ u : World, (Instr.makeSlice 22 (.int .i64 130) (.int .i64 130)).run Tryz.prog u =
   .ok (.slice (some ⟨u.heap.size, 0, none⟩) 130 130) (u.alloc (.cells (madeCells #[.slice none 0 0] 130) 58)) := fun u => by
  have h := run_make (P := Tryz.prog) u 22 58 j0 _ Tryz.underlying22 hj hy0 .i64 .i64 (130 : Int) (130 : Int) (by omega) (Int.le_refl _) (by rw [hy2]; omega) (by omega)
  simpa [hy1, Value.cells] using h
 obtain ⟨M, hM⟩ := hid_ex (madeCells #[Value.slice none 0 0] 130)
 rw [← hM.out] at hmk
 have hlen := h.d.len
 have h64 := h.d.all64
 have hz64 := (zero_of_info zero_content).1
 have hSl := run_slice_content
 go_enter Tryz.func79, Tryz.ntmps79
 go_upto_region 2 with fail
 have hw1 := gal (gre w) (.cells #[.slice none 0 0, .slice none 0 0] 37)
 have hs1 : (w.alloc (.cells #[.slice none 0 0, .slice none 0 0] 37)).heap.size = w.heap.size + 1 := by simp
 have r0 : (w.alloc (.cells #[.slice none 0 0, .slice none 0 0] 37)).cell? ⟨w.heap.size, 0, none⟩ = some (.slice none 0 0) := by simp
 have r1 : (w.alloc (.cells #[.slice none 0 0, .slice none 0 0] 37)).cell? ⟨w.heap.size, 1, none⟩ = some (.slice none 0 0) := by simp
 have rf : ∀ o, (w.alloc (.cells #[.slice none 0 0, .slice none 0 0] 37)).frozen? ⟨w.heap.size, o, none⟩ = false := fun o => by simp
 generalize hR : w.heap.size = R at hs1 r0 r1 rf ⊢
 generalize w.alloc (.cells #[.slice none 0 0, .slice none 0 0] 37) = w1 at hw1 hs1 r0 r1 rf ⊢
 have hK0 : DkB w1 ((w1.alloc (.cells M 58)).alloc (.cells #[.slice (some ⟨R + 1, 0, none⟩) 130 130, .slice none 0 0] 37)) (R + 1) (R + 1 + 1) (.slice none 0 0) bl 0 (fun i => (#[Value.slice none 0 0] : Array Value)[i % (#[Value.slice none 0 0] : Array Value).size]!) (fun _ => 0) (fun _ => 0) := by
  have e2 : (w1.alloc (.cells M 58)).heap.size = R + 1 + 1 := by simp [hs1]
  refine ⟨?_, fun i hi => absurd hi (Nat.not_lt_zero _), ?_, ?_, fun o => ?_, gal (gal (gre _) _) _, by omega, by omega⟩
  ·
   have := rowIs_made_any w1 #[Value.slice none 0 0] 130 58
   rw [← hM.out, hs1] at this
   exact this.of_block (Below.heap_alloc _ _ _ (by omega))
  · rw [← e2]; simp
  · rw [← e2]; simp
  · rw [← e2]; simp
 generalize (w1.alloc (.cells M 58)).alloc (.cells #[.slice (some ⟨R + 1, 0, none⟩) 130 130, .slice none 0 0] 37) = w3 at hK0 ⊢
 obtain ⟨N, hN⟩ := hid_ex (R + 1)
 obtain ⟨V, hV⟩ := hid_ex (R + 1 + 1)
 rw [← hV.out, ← hN.out] at hK0
 rw [← hV.out, ← hN.out]
 clear hmk hM hj hy0 hy1 hy2
 have hDr3 := (h.grow hw1).grow hK0.bel
 go_wp2_with (refine wpList_load_mid rfl 137 _ rfl p 0 rfl (blCells bl) _ hDr3.d.whole Tryz.underlying137 rfl (by rw [size_contents, blCells_length bl h64, hlen]) ?_)
 clear hDr3
 go_loopw [14] (fun i wr => ∃ (k : Nat) (f : Nat → Value) (bs cs : Nat → Nat), k ≤ 130 ∧ i = .int .i64 k ∧ DkB w1 wr N V (.slice none 0 0) bl k f bs cs) (fun i _ => 130 - (intOf i).toNat)
 case atStart => exact ⟨0, _, _, _, Nat.zero_le _, rfl, hK0⟩
 case round =>
  obtain ⟨k, f, bs, cs, hk, rfl, hD⟩ := hrel
  by_cases hlt : k < 130
  ·
   obtain ⟨n, hn⟩ := hid_ex bl[k]!
   have hn64 : Hid (n.length = 64) := by show _ = _; rw [hn.out]; exact h64 _ (mem_at (by omega))
   have hcl : (bcells n).length = 64 := by rw [bcells_length]; exact hn64.out
   have i0 : (0 : Int) ≤ (k : Int) := by omega
   have i1 : (k : Int) < 130 := by omega
   go_upto_region 5 with (first
    | (refine wpList_index_contents rfl _ _ rfl bl k rfl rfl hlt hlen h64 ?_; rw [← hn.out])
    | (refine wpList_alloc_big rfl 136 rfl _ hz64 ?_)
    | (refine wpList_store_new rfl 136 _ _ rfl _ (bcells n).toArray rfl rfl (by rw [size_content]; simp [hcl]) (by simp [zeros, hcl]) (all_oneCell_toArray cells_u8) ?_))
   have hDA := hD.grow (gal (gre wr) (.cells (bcells n).toArray 136))
   have hby := bytes_range (range_new wr (bcells n) 136)
   have hsC : (wr.alloc (.cells (bcells n).toArray 136)).heap.size = wr.heap.size + 1 := by simp
   generalize wr.alloc (.cells (bcells n).toArray 136) = wC at hDA hby hsC ⊢
   generalize hQ : wr.heap.size = Q at hby hsC ⊢
   refine wp_regionU (fun u => u.cell? ⟨V, 0, none⟩ = some (.slice (some ⟨N, 0, none⟩) 130 130)) 6 (by kernel_rfl) hDA.v0 (fun hS0 => ?_)
   refine anyU_tk (i := 0) rfl hS0 (fun u hSu => by (try dsimp only at hSu); go_simp <;> with_reducible rfl) ?_
   refine anyU_tk (i := 1) rfl hS0 (fun u hSu => by (try dsimp only at hSu); go_simp <;> with_reducible rfl) ?_
   refine anyU_tk (i := 2) rfl hS0 (fun u hSu => by (try dsimp only at hSu); go_simp <;> with_reducible rfl) ?_
   refine anyU_tk (i := 3) rfl hS0 (fun u hSu => by (try dsimp only at hSu); go_simp <;> with_reducible rfl) ?_
   simp only [Act.put, List.getElem_toArray, List.getElem_cons_zero, List.getElem_cons_succ, List.setIfInBounds_toArray, List.set_cons_zero, List.set_cons_succ]
   refine anyU_one (i := 4) (by kernel_rfl) rfl (fun K hK => ?_)
   go_simp
   rw [show (64 : Nat) = n.length from hn64.out.symm]
   refine (bytesClone_any Q 0 n.length n _ (by rw [hn64.out]; decide) (by rw [hn64.out]; decide) (hby.grow (gdr (gre _)))).mono ?_
   rintro e w2 ⟨G, gcap, rfl, hG, hGr, hb2⟩
   have hD2 := hDA.grow (gca (gdr (gre wC)) hb2)
   rw [hn64.out]
   refine hK.out _ _ hD2.v0 ?_
   clear hK
   refine anyU_one (i := 5) (by kernel_rfl) rfl (fun K hK => ?_)
   go_simp
   refine hK.out _ _ hD2.v0 ?_
   clear hK
   have rc := hD2.row.cell (i := k) (by omega)
   have rf := hD2.row.frozen
   refine anyU_last (by kernel_rfl) rfl (by kernel_rfl) (fun K hK => ?_)
   go_simp
   refine hK.out _ _ ?_
   clear hK
   have hst := hD2.step (k := k) (G := G) (cap := gcap) (by rw [← hn.out]; exact hGr) (by have := World.block_lt_of_cell? _ _ hDA.v0; have h5 : wC.heap.size ≤ G := hG; simp at this; omega) (fun j hj => by have := (hDA.fs j hj).2.1.lt; have h5 : wC.heap.size ≤ G := hG; omega)
   go_wp2
   go_roundw
   case rel => exact ⟨k + 1, _, _, _, by omega, by go_num, hst⟩
   case measure => simp [intOf]; omega
  ·
   obtain rfl : k = 130 := by omega
   have hDr2 := (h.grow hw1).grow hD.bel
   have x2 := hDr2.d.ws
   obtain ⟨j0, hj, hy0, hy1, hy2⟩ := info_parts info_implWrite
   have hz65 := (zero_of_info zero_pending).1
   have hW0 : DkW w1 wr N V bl f bs cs none 0 [] (fun _ => 0) := ⟨hD, owns_none _ _ _ _, fun i hi => absurd hi (Nat.not_lt_zero _)⟩
   clear hD hK0 hDr2 hk hlt
   go_wp2
   go_loopw [30] (fun i wr => ∃ k : Nat, k ≤ ws.length ∧ i = .int .i64 k ∧ GWInv w1 wr N V bl f bs cs ws k) (fun i _ => ws.length - (intOf i).toNat)
   case atStart => exact ⟨0, Nat.zero_le _, rfl, none, 0, [], _, rfl, rfl, hW0⟩
   case round =>
    obtain ⟨k, hk, rfl, va, vc, lw, gs, hll, hlm, hD⟩ := hrel
    by_cases hlt : k < ws.length
    ·
     have hDrk := (h.grow hw1).grow hD.dk.bel
     obtain ⟨g, rfl, _, hgl, hrg⟩ := owns_pend hDrk.own hDrk.w64 hlt
     obtain ⟨n, hn⟩ := hid_ex ws[k]!
     rw [← hn.out] at hrg
     have hn64 : Hid (n.bytes.length = 64) := by show _ = _; rw [hn.out]; exact h.w64 _ (mem_at hlt)
     have hpl : n.pc.length = 65 := pc_length hn64.out
     have i0 : (0 : Int) ≤ (k : Int) := by omega
     have i1 : (k : Int) < (ws.length : Int) := by omega
     clear hDrk
     go_upto_region 10 with (first
      | (refine wpList_load_mid rfl 194 _ rfl g (k * 65) rfl n.pc _ hrg Tryz.underlying194 rfl (by rw [size_pending, hpl]) ?_)
      | (refine wpList_alloc_big rfl 194 rfl _ hz65 ?_)
      | (refine wpList_store_new rfl 194 _ _ rfl _ n.pc.toArray rfl rfl (by rw [size_pending]; simp [hpl]) (by simp [zeros, hpl]) (all_oneCell_toArray pc_one) ?_))
     have hDA := hD.grow (gal (gre wr) (.cells n.pc.toArray 194))
     have hrn := range_new wr n.pc 194
     have hby := bytes_range (range_drop (cs := [.int .i64 n.block]) hrn)
     have hq0 := hrn 0 _ rfl
     have hsC : (wr.alloc (.cells n.pc.toArray 194)).heap.size = wr.heap.size + 1 := by simp
     generalize wr.alloc (.cells n.pc.toArray 194) = wC at hDA hby hsC hq0 ⊢
     clear hrn
     generalize hQ : wr.heap.size = Q at hby hsC hq0 ⊢
     have hby2 : BytesAt wC (some ⟨Q, 1, none⟩) n.bytes := hby
     have hq02 : wC.cell? ⟨Q, 0, none⟩ = some (.int .i64 n.block) := hq0
     clear hby hq0
     have hSk : ∀ (u u' : World), Below u.heap.size u u' → (u.cell? ⟨V, 1, none⟩ = some (.slice va lw.length vc) ∧ u.cell? ⟨Q, 0, none⟩ = some (.int .i64 n.block)) → (u'.cell? ⟨V, 1, none⟩ = some (.slice va lw.length vc) ∧ u'.cell? ⟨Q, 0, none⟩ = some (.int .i64 n.block)) := fun u u' hb h => ⟨cell_later hb h.1, cell_later hb h.2⟩
     refine wp_regionU (fun u => u.cell? ⟨V, 1, none⟩ = some (.slice va lw.length vc) ∧ u.cell? ⟨Q, 0, none⟩ = some (.int .i64 n.block)) 11 (by kernel_rfl) ⟨hDA.dk.v1, hq02⟩ (fun hS0 => ?_)
     refine anyU_tk (i := 0) rfl hS0 (fun u hSu => by obtain ⟨s0, s1⟩ := hSu; go_simp <;> with_reducible rfl) ?_
     refine anyU_tk (i := 1) rfl hS0 (fun u hSu => by obtain ⟨s0, s1⟩ := hSu; go_simp <;> with_reducible rfl) ?_
     refine anyU_tk (i := 2) rfl hS0 (fun u hSu => by obtain ⟨s0, s1⟩ := hSu; go_simp <;> with_reducible rfl) ?_
     refine anyU_tk (i := 3) rfl hS0 (fun u hSu => by obtain ⟨s0, s1⟩ := hSu; go_simp <;> with_reducible rfl) ?_
     refine anyU_tk (i := 4) rfl hS0 (fun u hSu => by obtain ⟨s0, s1⟩ := hSu; go_simp <;> with_reducible rfl) ?_
     refine anyU_tk (i := 5) rfl hS0 (fun u hSu => by obtain ⟨s0, s1⟩ := hSu; go_simp <;> with_reducible rfl) ?_
     simp only [Act.put, List.getElem_toArray, List.getElem_cons_zero, List.getElem_cons_succ, List.setIfInBounds_toArray, List.set_cons_zero, List.set_cons_succ]
     refine anyU_one (i := 6) (by kernel_rfl) rfl (fun K hK => ?_)
     go_simp
     rw [show (64 : Nat) = n.bytes.length from hn64.out.symm]
     refine (bytesClone_any Q 1 n.bytes.length n.bytes _ (by rw [hn64.out]; decide) (by rw [hn64.out]; decide) (hby2.grow (gdr (gre _)))).mono ?_
     rintro e w2 ⟨G, gcap, rfl, hG, hGr, hb2⟩
     have hD2 := hDA.grow (gca (gdr (gre wC)) hb2)
     have hS2 := hSk _ _ hb2 hS0
     refine hK.out _ _ hS2 ?_
     clear hK
     refine anyU_one (i := 7) (by kernel_rfl) rfl (fun K hK => ?_)
     go_simp
     refine hK.out _ _ hS2 ?_
     clear hK
     have hB3 := gal (gre w2) (.cells #[.int .i64 n.block, .slice (some ⟨G, 0, none⟩) n.bytes.length gcap] 102)
     have hS3 := hSk _ _ hB3 hS2
     have hS3' : Hid _ := hS3
     clear hS3
     refine anyU_one (i := 8) (by kernel_rfl) rfl (fun K hK => ?_)
     go_simp
     refine hK.out _ _ hS3'.out ?_
     clear hK
     have hD3 := hD2.grow hB3
     have hsz3 : (w2.alloc (.cells #[.int .i64 n.block, .slice (some ⟨G, 0, none⟩) n.bytes.length gcap] 102)).heap.size = w2.heap.size + 1 := by simp
     have hnew := World.news_of_block (cs := #[.int .i64 n.block, .slice (some ⟨G, 0, none⟩) n.bytes.length gcap]) (t := 102) (fr := (0, 0)) (blk_new_at w2 (.cells #[.int .i64 n.block, .slice (some ⟨G, 0, none⟩) n.bytes.length gcap] 102) _ rfl)
     have hGr3 := hGr.of_block (hB3.block _ hGr.lt)
     have hGl := hGr.lt
     have hlw := hll.out
     have hVs := World.block_lt_of_cell? wC ⟨V, 0, none⟩ hDA.dk.v0
     have hs2 := hb2.size
     have hsD : wC.drew.heap.size = wC.heap.size := rfl
     generalize w2.alloc (.cells #[.int .i64 n.block, .slice (some ⟨G, 0, none⟩) n.bytes.length gcap] 102) = w3' at hB3 hS3' hD3 hsz3 hnew hGr3 ⊢
     refine anyU_one (i := 9) (by kernel_rfl) rfl (fun K hK => ?_)
     refine step_append_lies _ (by rfl) (.tmp 35) (.tmp 42) 35 rfl (V + 1) 102 j0 _ 2 32 Tryz.underlying35 hj hy0 hy1 hy2 rfl (by decide) (.slice va lw.length vc) lw.length (wCells lw) (by rfl) hD3.own ⟨w2.heap.size, 0, none⟩ 1 1 [.int .i64 n.block, .slice (some ⟨G, 0, none⟩) n.bytes.length gcap] (by rfl) rfl hnew (by simp [Value.oneCell']) (by decide) (by unfold maxLen; omega) (by omega) (by simp at hVs; omega) (w2.heap.size + 1) hsz3 ?_
     intro gg cc w5 hown5 hgrow5 hat5 hlt5
     have hst := hD3.step hGr3 (by simp at hVs; omega) (fun j hj => by have := (hDA.dk.fs j hj).2.1.lt; omega) (fun j hj => by have := (hDA.byt j hj).2.1.lt; omega) hown5 hgrow5
     have K5 := Kept.of_grown hgrow5
     have hz : ∀ z, (Value.slice va lw.length vc).ownBlock = some z → IsW wr z ∧ V + 1 ≤ z := fun z hz => owns_isW hD.own hz
     have hS5 : w5.cell? ⟨V, 1, none⟩ = some (.slice va lw.length vc) ∧ w5.cell? ⟨Q, 0, none⟩ = some (.int .i64 n.block) := ⟨K5.cell hS3'.out.1 (fun e => by have := (hz _ e).2; omega), K5.cell hS3'.out.2 (fun e => by obtain ⟨c, hc⟩ := (hz _ e).1; have := (Array.getElem?_eq_some_iff.1 hc).1; omega)⟩
     have vf5 : ∀ o, w5.frozen? ⟨V, o, none⟩ = false := fun o => by have := hst.dk.vf o; rwa [World.frozen?_setCell] at this
     refine hK.out _ _ hS5 ?_
     clear hK
     simp only [Act.put, List.getElem_toArray, List.getElem_cons_zero, List.getElem_cons_succ, List.setIfInBounds_toArray, List.set_cons_zero, List.set_cons_succ]
     refine anyU_one (i := 10) (by kernel_rfl) rfl (fun K hK => ?_)
     go_simp
     refine hK.out _ _ hS5 ?_
     clear hK
     obtain ⟨v5, _⟩ := id hS5
     refine anyU_last (by kernel_rfl) rfl (by kernel_rfl) (fun K hK => ?_)
     go_simp
     refine hK.out _ _ ?_
     clear hK
     go_wp2
     go_roundw
     case rel => exact ⟨k + 1, by omega, by go_num, some ⟨gg, 0, none⟩, cc, lw ++ [⟨n, some ⟨G, 0, none⟩, gcap⟩], _, by show _ = _; rw [List.length_append, hlw]; rfl, by show _ = _; rw [List.map_append, hlm.out, take_snoc _ _ hlt, ← hn.out]; rfl, by rw [hlw] at hst; exact hst⟩
     case measure => simp [intOf]; omega
    ·
     obtain rfl : k = ws.length := by omega
     rw [List.take_length] at hlm
     have y0 := hD.dk.v0
     have y1 := hD.dk.v1
     have z0 := cell_later hD.dk.bel r0
     have z1 := cell_later hD.dk.bel r1
     have zf : ∀ o, wr.frozen? ⟨R, o, none⟩ = false := fun o => (hD.dk.bel.frozen (p := ⟨R, o, none⟩) (by show R < w1.heap.size; omega)).trans (rf o)
     have hmd := hD.md hlen h64
     rw [hlm.out] at hmd
     have K := ((Kept.refl (fun b => b = R) wr).set (a := ⟨R, 0, none⟩) (fun _ => rfl) (.slice (some ⟨N, 0, none⟩) 130 130)).set (a := ⟨R, 1, none⟩) (fun _ => rfl) (.slice va lw.length vc)
     have hmd2 := (hmd.out K (fun b hb _ e => by omega)).mono (lo' := w.heap.size) (hi' := ((wr.setCell ⟨R, 0, none⟩ (.slice (some ⟨N, 0, none⟩) 130 130)).setCell ⟨R, 1, none⟩ (.slice va lw.length vc)).heap.size) (by omega) K.size
     have hbel : Below w.heap.size w ((wr.setCell ⟨R, 0, none⟩ (.slice (some ⟨N, 0, none⟩) 130 130)).setCell ⟨R, 1, none⟩ (.slice va lw.length vc)) := gse (gse (gca hw1 hD.dk.bel) (by show w.heap.size ≤ R; omega) _) (by show w.heap.size ≤ R; omega) _
     have c0 := World.cell?_setCell_same wr ⟨R, 0, none⟩ (.slice (some ⟨N, 0, none⟩) 130 130) z0
     have c1 := World.cell?_setCell_same (wr.setCell ⟨R, 0, none⟩ (.slice (some ⟨N, 0, none⟩) 130 130)) ⟨R, 1, none⟩ (.slice va lw.length vc) ((World.cell?_setCell_other wr ⟨R, 0, none⟩ ⟨R, 1, none⟩ (.slice (some ⟨N, 0, none⟩) 130 130) (by simp)).trans z1)
     clear hmd hW0 K hlen h64
     go_wp2
     refine bodyPost_ret (v := .agg #[.slice (some ⟨N, 0, none⟩) 130 130, .slice va lw.length vc]) (by simp [results, Tryz.results79, go_sem, c0, c1]) rfl ⟨⟨some ⟨N, 0, none⟩, 130, va, vc⟩, _, _, _, _, ?_, hmd2, hbel⟩
     rw [DD.val, hll.out, h.d.len]
def DPost (d : DD) (w : World) (e : Ending) (w' : World) : Prop := ∃ l fa ga fc gc, e = .returned (d.val l) ∧ MD w' w.heap.size w'.heap.size l d fa ga fc gc ∧ Below w.heap.size w w'
theorem MD.last {w w' : World} {lo hi R : Nat} {l : DL} {d : DD} {fa ga : Nat → Option Addr} {fc gc : Nat → Nat} (h : MD w lo hi l d fa ga fc gc) (K : Kept (fun b => b = R) w w') (hR : R < lo) {lo' : Nat} (h1 : lo' ≤ lo) (h2 : hi ≤ w'.heap.size) : MD w' lo' w'.heap.size l d fa ga fc gc :=
 (h.out K (fun b hb _ e => by omega)).mono h1 h2
theorem ret2 {w : World} {R : Nat} {A B va vb : Value} (z0 : w.cell? ⟨R, 0, none⟩ = some va) (z1 : w.cell? ⟨R, 1, none⟩ = some vb) :
  (w.setCell ⟨R, 0, none⟩ A).cell? ⟨R, 0, none⟩ = some A ∧ ((w.setCell ⟨R, 0, none⟩ A).setCell ⟨R, 1, none⟩ B).cell? ⟨R, 1, none⟩ = some B ∧ Kept (fun b => b = R) w ((w.setCell ⟨R, 0, none⟩ A).setCell ⟨R, 1, none⟩ B) :=
 ⟨World.cell?_setCell_same _ _ _ z0, World.cell?_setCell_same _ _ _ ((World.cell?_setCell_other _ _ _ _ (by simp)).trans z1), ((Kept.refl (fun b => b = R) w).set (a := ⟨R, 0, none⟩) (fun _ => rfl) A).set (a := ⟨R, 1, none⟩) (fun _ => rfl) B⟩
def BOwn (w : World) (e : Ending) (w' : World) : Prop := ∃ (lb : List LB) (ba : Option Addr) (bc : Nat), e = .returned (blankD.val ⟨ba, bc, none, 0⟩) ∧ lb.map (·.l) = blankD.blocks ∧ SB w.heap.size w' ba bc lb ∧ Below w.heap.size w w'
def BInv (w wr : World) (R V k : Nat) : Prop := ∃ (lb : List LB) (ba : Option Addr) (bc : Nat), Hid (lb.length = k) ∧ Hid (lb.map (·.l) = List.replicate k (List.replicate 64 0)) ∧ SB (V + 1) wr ba bc lb ∧ VB wr V (.slice ba lb.length bc) (.slice none 0 0) ∧ VB wr R (.slice none 0 0) (.slice none 0 0) ∧ Below w.heap.size w wr
theorem owns_made {w : World} {base n : Nat} (hb : base ≤ w.heap.size) (hn : n ≤ maxLen) : (w.alloc (.cells (madeCells #[.int .u8 0] n) 5)).ownsRow base 5 1 (.slice (some ⟨w.heap.size, 0, none⟩) n n) n (bcells (List.replicate n 0)) := by
 refine ⟨by simp [bcells], Or.inr ⟨w.heap.size, n, _, rfl, hb, blk_new_at _ _ _ rfl, Nat.le_refl _, hn, by rw [size_madeCells]; omega, ?_⟩⟩
 apply List.ext_getElem?
 intro i
 by_cases hi : i < n
 ·
  rw [List.getElem?_take_of_lt (by omega), Array.getElem?_toList]
  simp [madeCells, bcells, hi, Nat.mod_one]
 · rw [List.getElem?_eq_none (by simp; omega), List.getElem?_eq_none (by simp [bcells]; omega)]
theorem SB.leB {base base' : Nat} {w : World} {ba : Option Addr} {bc : Nat} {lb : List LB} (h : SB base w ba bc lb) (hb : base' ≤ base) : SB base' w ba bc lb := ⟨owns_le h.own hb, fun y hy => owns_le (h.byt y hy) hb⟩
def LB.own (y : LB) : Option Nat := (Value.slice y.a y.l.length y.cap).ownBlock
def AparL (lb : List LB) : Prop := lb.Pairwise fun x y => ∀ z, x.own = some z → y.own ≠ some z
theorem AparL.push {lb : List LB} {y : LB} {B : Nat} (h : AparL lb) (hb : ∀ x, x ∈ lb → ∀ z, x.own = some z → z < B) (hy : ∀ z, y.own = some z → B ≤ z) : AparL (lb ++ [y]) :=
 List.pairwise_append.2 ⟨h, List.pairwise_singleton _ _, fun x hx u hu z hz e => by
  obtain rfl : u = y := by simpa using hu
  have := hb x hx z hz
  have := hy z e
  omega⟩
def CInv (w wr : World) (d : DD) (l : DL) (X R V k : Nat) : Prop := ∃ (lb : List LB) (ba : Option Addr) (bc : Nat), Hid (lb.length = k) ∧ Hid (lb.map (·.l) = d.blocks.take k) ∧ Hid (AparL lb) ∧ SB (V + 1) wr ba bc lb ∧ VB wr V (.slice ba lb.length bc) (.slice none 0 0) ∧ VB wr R (.slice none 0 0) (.slice none 0 0) ∧ DBox wr X d l ∧ Below w.heap.size w wr
def CInv2 (w wr : World) (d : DD) (R V : Nat) (lb : List LB) (ba : Option Addr) (bc k : Nat) : Prop := ∃ (lw : List LW) (wa : Option Addr) (wc : Nat), Hid (lw.length = k) ∧ Hid (lw.map (·.x) = d.waiting.take k) ∧ SB (V + 1) wr ba bc lb ∧ SW (V + 1) wr wa wc lw ∧ VB wr V (.slice ba lb.length bc) (.slice wa lw.length wc) ∧ VB wr R (.slice none 0 0) (.slice none 0 0) ∧ Below w.heap.size w wr
def CPost (d : DD) (w : World) (e : Ending) (w' : World) : Prop := ∃ (lb : List LB) (lw : List LW) (ba : Option Addr) (bc : Nat) (wa : Option Addr) (wc : Nat), e = .returned (d.val ⟨ba, bc, wa, wc⟩) ∧ lb.map (·.l) = d.blocks ∧ lw.map (·.x) = d.waiting ∧ SB w.heap.size w' ba bc lb ∧ SW w.heap.size w' wa wc lw ∧ Below w.heap.size w w'
def CPostF (d : DD) (w : World) (e : Ending) (w' : World) : Prop := ∃ (lb : List LB) (lw : List LW) (ba : Option Addr) (bc : Nat) (wa : Option Addr) (wc : Nat), e = .returned (d.val ⟨ba, bc, wa, wc⟩) ∧ lb.map (·.l) = d.blocks ∧ lw.map (·.x) = d.waiting ∧ SB w.heap.size w' ba bc lb ∧ SW w.heap.size w' wa wc lw ∧ AparL lb ∧ Below w.heap.size w w'
theorem SB.le {base base' : Nat} {w : World} {ba : Option Addr} {bc : Nat} {lb : List LB} (h : SB base w ba bc lb) (hb : base' ≤ base) : SB base' w ba bc lb := ⟨owns_le h.own hb, fun y hy => owns_le (h.byt y hy) hb⟩
theorem SW.le {base base' : Nat} {w : World} {wa : Option Addr} {wc : Nat} {lw : List LW} (h : SW base w wa wc lw) (hb : base' ≤ base) : SW base' w wa wc lw := ⟨owns_le h.own hb, fun y hy => owns_le (h.byt y hy) hb⟩
theorem l3copy_far (d : DD) (l : DL) (w : World) (hs : d.Small) (ha : DAt w l d) : Calls Tryz.prog 72 #[d.val l] w (CPostF d w) := by
 obtain ⟨j0, hj, hy0, hy1, hy2'⟩ := info_parts info_bytes
 obtain ⟨k0, hkk, hk0, hk1, hk2⟩ := info_parts info_implWrite
 go_enter Tryz.func72, Tryz.ntmps72
 go_upto_region 2 with fail
 have hw0 := gal (gre w) (.cells #[.slice l.ba d.blocks.length l.bc, .slice l.wa d.waiting.length l.wc] 37)
 have hX0 := DBox.new w d l 37
 have hs0 : (w.alloc (.cells #[.slice l.ba d.blocks.length l.bc, .slice l.wa d.waiting.length l.wc] 37)).heap.size = w.heap.size + 1 := by simp
 generalize hXe0 : w.heap.size = X0 at hX0 hs0 hw0 ⊢
 generalize w.alloc (.cells #[.slice l.ba d.blocks.length l.bc, .slice l.wa d.waiting.length l.wc] 37) = w0 at hw0 hX0 hs0 ⊢
 have hw1 := gal (gal (gre w0) (.cells #[.slice none 0 0, .slice none 0 0] 37)) (.cells #[.slice none 0 0, .slice none 0 0] 37)
 have hR := (VB.new_at w0 (.slice none 0 0) (.slice none 0 0) 37 (X0 + 1) hs0.symm).grow (gal (gre _) (.cells #[.slice none 0 0, .slice none 0 0] 37))
 have hV := VB.new_at (w0.alloc (.cells #[.slice none 0 0, .slice none 0 0] 37)) (.slice none 0 0) (.slice none 0 0) 37 (X0 + 1 + 1) (by simp [hs0])
 have hX := hX0.grow hw1
 generalize (w0.alloc (.cells #[.slice none 0 0, .slice none 0 0] 37)).alloc (.cells #[.slice none 0 0, .slice none 0 0] 37) = wA at hw1 hR hV hX ⊢
 have hwA : Below w.heap.size w wA := by rw [← hXe0] at hw0; exact gca hw0 hw1
 have hXe : Hid (X0 = w.heap.size) := hXe0.symm
 obtain ⟨R, hRe⟩ := hid_ex (X0 + 1)
 obtain ⟨V, hVe⟩ := hid_ex (X0 + 1 + 1)
 rw [← hVe.out] at hV ⊢
 rw [← hRe.out] at hR ⊢
 have hI0 : CInv w wA d l X0 R V 0 := ⟨[], none, 0, rfl, rfl, List.Pairwise.nil, SB.nil _ _, hV, hR, hX, hwA⟩
 have x0 := hX.c0
 have x1 := hX.c1
 clear hw1 hR hV hX0 hw0 hs0 hwA hX
 go_wp2
 go_loopw [11] (fun i wr => ∃ k : Nat, k ≤ d.blocks.length ∧ i = .int .i64 k ∧ CInv w wr d l X0 R V k) (fun i _ => d.blocks.length - (intOf i).toNat)
 case atStart => exact ⟨0, Nat.zero_le _, rfl, hI0⟩
 case round =>
  obtain ⟨k, hk, rfl, lb, ba, bc, hll, hlm, hap, hL, hV, hR, hX, hb⟩ := hrel
  clear hI0 x0 x1
  by_cases hlt : k < d.blocks.length
  ·
   obtain ⟨n, b, off, av, cv, hvk, hvm, hba, c0, hva⟩ := (ha.b.grow hb).get hlt
   rw [hba]
   have i0 : (0 : Int) ≤ (k : Int) := by omega
   have i1 : (k : Int) < (d.blocks.length : Int) := by omega
   go_wp2
   refine wp_regionU (fun u => u.cell? ⟨V, 0, none⟩ = some (.slice ba lb.length bc)) 7 (by kernel_rfl) (hV.grow (gdr (gre wr))).v0 (fun hS0 => ?_)
   have hLd := hL.grow (gdr (gre wr))
   have hVd := hV.grow (gdr (gre wr))
   have hRd := hR.grow (gdr (gre wr))
   have hXd := hX.grow (gdr (gre wr))
   have hbd := gdr hb
   have hvd := hva.grow (gdr (gre wr))
   generalize wr.drew = wd at hLd hVd hRd hXd hbd hvd hS0 ⊢
   refine anyU_tk (i := 0) rfl hS0 (fun u hSu => by (try dsimp only at hSu); go_simp <;> with_reducible rfl) ?_
   refine anyU_tk (i := 1) rfl hS0 (fun u hSu => by (try dsimp only at hSu); go_simp <;> with_reducible rfl) ?_
   refine anyU_tk (i := 2) rfl hS0 (fun u hSu => by (try dsimp only at hSu); go_simp <;> with_reducible rfl) ?_
   simp only [Act.put, List.getElem_toArray, List.getElem_cons_zero, List.getElem_cons_succ, List.setIfInBounds_toArray, List.set_cons_zero, List.set_cons_succ]
   refine anyU_one (i := 3) (by kernel_rfl) rfl (fun K hK => ?_)
   go_simp
   refine (l2copy_any av n cv _ (hs.bb n hvm) hvd).mono ?_
   rintro e w1 ⟨oa, oc, rfl, hoy, hB1⟩
   have hap2 : Hid (AparL (lb ++ [⟨n, oa, oc⟩])) := AparL.push (B := wd.heap.size) hap.out (fun x hx z hz => by
    obtain ⟨⟨c, hc⟩, _⟩ := owns_isB (hLd.byt x hx) hz
    exact (Array.getElem?_eq_some_iff.1 hc).1) (fun z hz => (owns_isB hoy hz).2)
   have hS1 := cell_later hB1 hS0
   refine hK.out _ _ hS1 ?_
   clear hK
   have hL1 := hLd.grow hB1
   have hV1 := hVd.grow hB1
   have hR1 := hRd.grow hB1
   have hX1 := hXd.grow hB1
   have hbel1 := gca hbd hB1
   have hy : w1.ownsRow (V + 1) 5 1 (.slice oa n.length oc) n.length (bcells n) := owns_le hoy (by have := hVd.lt; omega)
   have hB2 := gal (gre w1) (.cells #[.slice oa n.length oc] 58)
   have hS2 := cell_later hB2 hS1
   have hS2' : Hid _ := hS2
   clear hS2
   refine anyU_one (i := 4) (by kernel_rfl) rfl (fun K hK => ?_)
   go_simp
   refine hK.out _ _ hS2'.out ?_
   clear hK
   have hL2 := hL1.grow hB2
   have hV2 := hV1.grow hB2
   have hR2 := hR1.grow hB2
   have hX2 := hX1.grow hB2
   have hbel2 := gca hbel1 hB2
   have hy2 := (Kept.of_below hB2 (fun _ => False)).owns hy (fun _ _ e => e)
   have hnew := World.news_of_block (cs := #[.slice oa n.length oc]) (t := 58) (fr := (0, 0)) (blk_new_at w1 (.cells #[.slice oa n.length oc] 58) _ rfl)
   have hs2 : (w1.alloc (.cells #[.slice oa n.length oc] 58)).heap.size = w1.heap.size + 1 := by simp
   generalize w1.alloc (.cells #[.slice oa n.length oc] 58) = w2 at hB2 hS2' hL2 hV2 hR2 hX2 hbel2 hy2 hnew hs2 ⊢
   have hlw := hll.out
   have hbl := hs.bl
   refine anyU_one (i := 5) (by kernel_rfl) rfl (fun K hK => ?_)
   refine step_append_lies _ (by rfl) (.tmp 16) (.tmp 19) 22 rfl (V + 1) 58 j0 _ 1 24 Tryz.underlying22 hj hy0 hy1 hy2' rfl (by decide) (.slice ba lb.length bc) lb.length (lb.map LB.v) (by rfl) hL2.own ⟨w1.heap.size, 0, none⟩ 1 1 [.slice oa n.length oc] (by rfl) rfl hnew (by simp [Value.oneCell']) (by decide) (by unfold maxLen; omega) (by omega) (by have := hV2.lt; omega) (w1.heap.size + 1) hs2 ?_
   intro gg cc w5 hown5 hgrow5 hat5 hlt5
   have K5 := Kept.of_grown hgrow5
   have hz5 : ∀ z, (Value.slice ba lb.length bc).ownBlock = some z → V + 1 ≤ z := fun z e => (owns_isS hL2.own e).2
   have hL5 := hL2.push (y := ⟨n, oa, oc⟩) hy2 hown5 hgrow5
   have hV5 := hV2.kept K5 (fun e => by have := hz5 _ e; omega)
   refine hK.out _ _ hV5.v0 ?_
   clear hK
   simp only [Act.put, List.getElem_toArray, List.getElem_cons_zero, List.getElem_cons_succ, List.setIfInBounds_toArray, List.set_cons_zero, List.set_cons_succ]
   refine anyU_one (i := 6) (by kernel_rfl) rfl (fun K hK => ?_)
   go_simp
   refine hK.out _ _ hV5.v0 ?_
   clear hK
   have fz := hV5.vf
   have c8 := hV5.v0
   refine anyU_last (by kernel_rfl) rfl (by kernel_rfl) (fun K hK => ?_)
   go_simp
   refine hK.out _ _ ?_
   clear hK
   have hbel5 := hbel2.trans (K5.below (B := w.heap.size) hbel2.size (fun z hz e => by have := hz5 _ e; have := hVe.out; omega))
   have hfin : SB (V + 1) (w5.setCell ⟨V, 0, none⟩ (.slice (some ⟨gg, 0, none⟩) (lb.length + 1) cc)) (some ⟨gg, 0, none⟩) cc (lb ++ [⟨n, oa, oc⟩]) := hL5.set (by omega) _ _
   have hfV := hV5.set0 (.slice (some ⟨gg, 0, none⟩) (lb.length + 1) cc)
   have hfR := (hR2.kept K5 (fun e => by have := hz5 _ e; have := hVe.out; have := hRe.out; omega)).kept (Kept.one w5 V 0 (.slice (some ⟨gg, 0, none⟩) (lb.length + 1) cc)) (by have := hVe.out; have := hRe.out; omega)
   have hfX := (hX2.kept K5 (fun e => by have := hz5 _ e; have := hVe.out; have := hXe.out; omega)).kept (Kept.one w5 V 0 (.slice (some ⟨gg, 0, none⟩) (lb.length + 1) cc)) (by have := hVe.out; have := hXe.out; omega)
   rw [hlw] at hfin hfV hfR hfX
   go_wp2
   go_roundw
   case rel => exact ⟨k + 1, by omega, by go_num, lb ++ [⟨n, oa, oc⟩], some ⟨gg, 0, none⟩, cc, by show _ = _; rw [List.length_append, hlw]; rfl, by show _ = _; rw [List.map_append, hlm.out, take_snoc _ _ hlt, ← hvk.out]; rfl, hap2, hfin, by rw [List.length_append, hlw]; exact hfV, hfR, hfX, gse hbel5 (by have := hVe.out; show w.heap.size ≤ V; omega) _⟩
   case measure => simp [intOf]; omega
  ·
   obtain rfl : k = d.blocks.length := by omega
   rw [List.take_length] at hlm
   have y0 := hX.c0
   have y1 := hX.c1
   have hJ0 : CInv2 w wr d R V lb ba bc 0 := ⟨[], none, 0, rfl, rfl, hL, SW.nil _ _, hV, hR, hb⟩
   clear hL hV hR hb hX
   go_wp2
   go_loopw [26] (fun i wr => ∃ k : Nat, k ≤ d.waiting.length ∧ i = .int .i64 k ∧ CInv2 w wr d R V lb ba bc k) (fun i _ => d.waiting.length - (intOf i).toNat)
   case atStart => exact ⟨0, Nat.zero_le _, rfl, hJ0⟩
   case round =>
    obtain ⟨k, hk2', rfl, lw, wa, wc, hll2, hlm2, hL, hW, hV, hR, hb⟩ := hrel
    clear hJ0 y0 y1
    by_cases hlt2 : k < d.waiting.length
    ·
     obtain ⟨n, b, off, av, cv, hvk, hvm, hba, c0, c1, hva⟩ := (ha.w.grow hb).get hlt2
     rw [hba]
     have i0 : (0 : Int) ≤ (k : Int) := by omega
     have i1 : (k : Int) < (d.waiting.length : Int) := by omega
     go_upto_region 10 with fail
     have hAl := gal (gre wr) (.cells #[.int .i64 n.block, .slice av n.bytes.length cv] 102)
     have hLA := hL.grow hAl
     have hWA := hW.grow hAl
     have hVA := hV.grow hAl
     have hRA := hR.grow hAl
     have hbA := gal hb (.cells #[.int .i64 n.block, .slice av n.bytes.length cv] 102)
     have hvaA := hva.grow hAl
     have q0 : (wr.alloc (.cells #[.int .i64 n.block, .slice av n.bytes.length cv] 102)).cell? ⟨wr.heap.size, 0, none⟩ = some (.int .i64 n.block) := by simp
     have q1 : (wr.alloc (.cells #[.int .i64 n.block, .slice av n.bytes.length cv] 102)).cell? ⟨wr.heap.size, 1, none⟩ = some (.slice av n.bytes.length cv) := by simp
     have hsC : (wr.alloc (.cells #[.int .i64 n.block, .slice av n.bytes.length cv] 102)).heap.size = wr.heap.size + 1 := by simp
     generalize wr.alloc (.cells #[.int .i64 n.block, .slice av n.bytes.length cv] 102) = wC at hAl hLA hWA hVA hRA hbA hvaA q0 q1 hsC ⊢
     generalize hQ : wr.heap.size = Q at q0 q1 hsC ⊢
     clear hva hL hV hR hb c0 c1 hAl
     have hSk : ∀ (u u' : World), Below u.heap.size u u' → (u.cell? ⟨V, 1, none⟩ = some (.slice wa lw.length wc) ∧ u.cell? ⟨Q, 0, none⟩ = some (.int .i64 n.block) ∧ u.cell? ⟨Q, 1, none⟩ = some (.slice av n.bytes.length cv)) → (u'.cell? ⟨V, 1, none⟩ = some (.slice wa lw.length wc) ∧ u'.cell? ⟨Q, 0, none⟩ = some (.int .i64 n.block) ∧ u'.cell? ⟨Q, 1, none⟩ = some (.slice av n.bytes.length cv)) := fun u u' hb h => ⟨cell_later hb h.1, cell_later hb h.2.1, cell_later hb h.2.2⟩
     refine wp_regionU (fun u => u.cell? ⟨V, 1, none⟩ = some (.slice wa lw.length wc) ∧ u.cell? ⟨Q, 0, none⟩ = some (.int .i64 n.block) ∧ u.cell? ⟨Q, 1, none⟩ = some (.slice av n.bytes.length cv)) 11 (by kernel_rfl) ⟨(hVA.grow (gdr (gre wC))).v1, q0, q1⟩ (fun hS0 => ?_)
     have hLd := hLA.grow (gdr (gre wC))
     have hWd := hWA.grow (gdr (gre wC))
     have hVd := hVA.grow (gdr (gre wC))
     have hRd := hRA.grow (gdr (gre wC))
     skip
     have hbd := gdr hbA
     have hvd := hvaA.grow (gdr (gre wC))
     have hsd : wC.drew.heap.size = wC.heap.size := rfl
     generalize wC.drew = wd at hLd hWd hVd hRd hbd hvd hS0 hsd ⊢
     refine anyU_tk (i := 0) rfl hS0 (fun u hSu => by obtain ⟨s0, s1, s2⟩ := hSu; go_simp <;> with_reducible rfl) ?_
     refine anyU_tk (i := 1) rfl hS0 (fun u hSu => by obtain ⟨s0, s1, s2⟩ := hSu; go_simp <;> with_reducible rfl) ?_
     refine anyU_tk (i := 2) rfl hS0 (fun u hSu => by obtain ⟨s0, s1, s2⟩ := hSu; go_simp <;> with_reducible rfl) ?_
     refine anyU_tk (i := 3) rfl hS0 (fun u hSu => by obtain ⟨s0, s1, s2⟩ := hSu; go_simp <;> with_reducible rfl) ?_
     refine anyU_tk (i := 4) rfl hS0 (fun u hSu => by obtain ⟨s0, s1, s2⟩ := hSu; go_simp <;> with_reducible rfl) ?_
     refine anyU_tk (i := 5) rfl hS0 (fun u hSu => by obtain ⟨s0, s1, s2⟩ := hSu; go_simp <;> with_reducible rfl) ?_
     simp only [Act.put, List.getElem_toArray, List.getElem_cons_zero, List.getElem_cons_succ, List.setIfInBounds_toArray, List.set_cons_zero, List.set_cons_succ]
     refine anyU_one (i := 6) (by kernel_rfl) rfl (fun K hK => ?_)
     go_simp
     refine (l2copy_any av n.bytes cv _ (hs.wb n hvm) hvd).mono ?_
     rintro e w1 ⟨oa, oc, rfl, hoy, hB1⟩
     have hS1 := hSk _ _ hB1 hS0
     refine hK.out _ _ hS1 ?_
     clear hK
     have hL1 := hLd.grow hB1
     have hW1 := hWd.grow hB1
     have hV1 := hVd.grow hB1
     have hR1 := hRd.grow hB1
     skip
     have hbel1 := gca hbd hB1
     have hy : w1.ownsRow (V + 1) 5 1 (.slice oa n.bytes.length oc) n.bytes.length (bcells n.bytes) := owns_le hoy (by have := hVd.lt; omega)
     refine anyU_one (i := 7) (by kernel_rfl) rfl (fun K hK => ?_)
     go_simp
     refine hK.out _ _ hS1 ?_
     clear hK
     have hB2 := gal (gre w1) (.cells #[.int .i64 n.block, .slice oa n.bytes.length oc] 102)
     have hS2 := hSk _ _ hB2 hS1
     have hS2' : Hid _ := hS2
     clear hS2
     refine anyU_one (i := 8) (by kernel_rfl) rfl (fun K hK => ?_)
     go_simp
     refine hK.out _ _ hS2'.out ?_
     clear hK
     have hL2 := hL1.grow hB2
     have hW2 := hW1.grow hB2
     have hV2 := hV1.grow hB2
     have hR2 := hR1.grow hB2
     skip
     have hbel2 := gca hbel1 hB2
     have hy2 := (Kept.of_below hB2 (fun _ => False)).owns hy (fun _ _ e => e)
     have hnew := World.news_of_block (cs := #[.int .i64 n.block, .slice oa n.bytes.length oc]) (t := 102) (fr := (0, 0)) (blk_new_at w1 (.cells #[.int .i64 n.block, .slice oa n.bytes.length oc] 102) _ rfl)
     have hs2 : (w1.alloc (.cells #[.int .i64 n.block, .slice oa n.bytes.length oc] 102)).heap.size = w1.heap.size + 1 := by simp
     have hs1 := hB1.size
     generalize w1.alloc (.cells #[.int .i64 n.block, .slice oa n.bytes.length oc] 102) = w2 at hB2 hS2' hL2 hW2 hV2 hR2 hbel2 hy2 hnew hs2 ⊢
     have hlw := hll2.out
     have hwl := hs.wl
     refine anyU_one (i := 9) (by kernel_rfl) rfl (fun K hK => ?_)
     refine step_append_lies _ (by rfl) (.tmp 31) (.tmp 38) 35 rfl (V + 1) 102 k0 _ 2 32 Tryz.underlying35 hkk hk0 hk1 hk2 rfl (by decide) (.slice wa lw.length wc) lw.length (wCells lw) (by rfl) hW2.own ⟨w1.heap.size, 0, none⟩ 1 1 [.int .i64 n.block, .slice oa n.bytes.length oc] (by rfl) rfl hnew (by simp [Value.oneCell']) (by decide) (by unfold maxLen; omega) (by omega) (by have := hV2.lt; omega) (w1.heap.size + 1) hs2 ?_
     intro gg cc w5 hown5 hgrow5 hat5 hlt5
     have K5 := Kept.of_grown hgrow5
     have hz5 : ∀ z, (Value.slice wa lw.length wc).ownBlock = some z → IsW w2 z ∧ V + 1 ≤ z := fun z e => owns_isW hW2.own e
     have hzQ : ∀ z, (Value.slice wa lw.length wc).ownBlock = some z → z < Q := fun z e => by obtain ⟨c, hc⟩ := (owns_isW hW.own e).1; have := (Array.getElem?_eq_some_iff.1 hc).1; omega
     have hW5 := hW2.push (y := ⟨n, oa, oc⟩) hy2 hown5 hgrow5
     have hL5 := hL2.kept K5 (fun z e _ => ⟨fun hS => not_W_of_S hS (hz5 z e).1, not_B_of_W (hz5 z e).1⟩)
     have hV5 := hV2.kept K5 (fun e => by have := (hz5 _ e).2; omega)
     have hS5 : w5.cell? ⟨V, 1, none⟩ = some (.slice wa lw.length wc) ∧ w5.cell? ⟨Q, 0, none⟩ = some (.int .i64 n.block) ∧ w5.cell? ⟨Q, 1, none⟩ = some (.slice av n.bytes.length cv) := ⟨hV5.v1, K5.cell hS2'.out.2.1 (fun e => by have := hzQ _ e; omega), K5.cell hS2'.out.2.2 (fun e => by have := hzQ _ e; omega)⟩
     refine hK.out _ _ hS5 ?_
     clear hK
     simp only [Act.put, List.getElem_toArray, List.getElem_cons_zero, List.getElem_cons_succ, List.setIfInBounds_toArray, List.set_cons_zero, List.set_cons_succ]
     refine anyU_one (i := 10) (by kernel_rfl) rfl (fun K hK => ?_)
     go_simp
     refine hK.out _ _ hS5 ?_
     clear hK
     have fz := hV5.vf
     have c8 := hV5.v1
     refine anyU_last (by kernel_rfl) rfl (by kernel_rfl) (fun K hK => ?_)
     go_simp
     refine hK.out _ _ ?_
     clear hK
     have hbel5 := hbel2.trans (K5.below (B := w.heap.size) hbel2.size (fun z hz e => by have := (hz5 _ e).2; have := hVe.out; omega))
     have hfW : SW (V + 1) (w5.setCell ⟨V, 1, none⟩ (.slice (some ⟨gg, 0, none⟩) (lw.length + 1) cc)) (some ⟨gg, 0, none⟩) cc (lw ++ [⟨n, oa, oc⟩]) := hW5.set (by omega) _ _
     have hfL : SB (V + 1) (w5.setCell ⟨V, 1, none⟩ (.slice (some ⟨gg, 0, none⟩) (lw.length + 1) cc)) ba bc lb := hL5.set (by omega) _ _
     have hfV := hV5.set1 (.slice (some ⟨gg, 0, none⟩) (lw.length + 1) cc)
     have hfR := (hR2.kept K5 (fun e => by have := (hz5 _ e).2; have := hVe.out; have := hRe.out; omega)).kept (Kept.one w5 V 1 (.slice (some ⟨gg, 0, none⟩) (lw.length + 1) cc)) (by have := hVe.out; have := hRe.out; omega)
     rw [hlw] at hfW hfL hfV hfR
     go_wp2
     go_roundw
     case rel => exact ⟨k + 1, by omega, by go_num, lw ++ [⟨n, oa, oc⟩], some ⟨gg, 0, none⟩, cc, by show _ = _; rw [List.length_append, hlw]; rfl, by show _ = _; rw [List.map_append, hlm2.out, take_snoc _ _ hlt2, ← hvk.out]; rfl, hfL, hfW, by rw [List.length_append, hlw]; exact hfV, hfR, gse hbel5 (by have := hVe.out; show w.heap.size ≤ V; omega) _⟩
     case measure => simp [intOf]; omega
    ·
     obtain rfl : k = d.waiting.length := by omega
     rw [List.take_length] at hlm2
     have y0 := hV.v0
     have y1 := hV.v1
     have z0 := hR.v0
     have z1 := hR.v1
     have zf := hR.vf
     obtain ⟨c0, c1, K⟩ := ret2 (A := .slice ba lb.length bc) (B := .slice wa lw.length wc) z0 z1
     have hRV : R < V := by have := hVe.out; have := hRe.out; omega
     have hfL := ((hL.set (V := R) (by omega) 0 (.slice ba lb.length bc)).set (V := R) (by omega) 1 (.slice wa lw.length wc)).le (base' := w.heap.size) (by have := hVe.out; have := hXe.out; omega)
     have hfW := ((hW.set (V := R) (by omega) 0 (.slice ba lb.length bc)).set (V := R) (by omega) 1 (.slice wa lw.length wc)).le (base' := w.heap.size) (by have := hVe.out; have := hXe.out; omega)
     have hbel := hb.trans (K.below hb.size (fun z hz e => by have := hRe.out; have := hXe.out; omega))
     clear K hRV
     go_wp2
     refine bodyPost_ret (v := .agg #[.slice ba lb.length bc, .slice wa lw.length wc]) (by simp [results, Tryz.results72, go_sem, c0, c1]) rfl ⟨lb, lw, ba, bc, wa, wc, by rw [DD.val, hll.out, hll2.out], hlm.out, hlm2.out, hfL, hfW, hap.out, hbel⟩
theorem l3copy_any (d : DD) (l : DL) (w : World) (hs : d.Small) (ha : DAt w l d) : Calls Tryz.prog 72 #[d.val l] w (CPost d w) :=
 (l3copy_far d l w hs ha).mono fun _ _ ⟨lb, lw, ba, bc, wa, wc, he, h1, h2, h3, h4, _, h6⟩ => ⟨lb, lw, ba, bc, wa, wc, he, h1, h2, h3, h4, h6⟩
theorem owns_at {w : World} {base e n cap g : Nat} {xs : List Value} (h : w.ownsRow base e 1 (.slice (some ⟨g, 0, none⟩) n cap) n xs) {j : Nat} (hj : j < n) : (∃ v, w.cell? ⟨g, j, none⟩ = some v) ∧ ∀ o, w.frozen? ⟨g, o, none⟩ = false := by
 rcases h.2 with ⟨e0, _⟩ | ⟨g', cap', cur, hv, hb, hg, h1, h2, h3, h4⟩
 · simp at e0
 ·
  simp only [Value.slice.injEq] at hv
  obtain ⟨e1, _, rfl⟩ := hv
  obtain rfl := some_addr e1
  refine ⟨⟨cur[j]'(by omega), ?_⟩, fun o => ?_⟩
  · simp [World.cell?, hg, show j < cur.size by omega]
  · simp [World.frozen?, hg]
theorem owns_set {w : World} {base e n cap g : Nat} {xs : List Value} (h : w.ownsRow base e 1 (.slice (some ⟨g, 0, none⟩) n cap) n xs) (j : Nat) (v : Value) : (w.setCell ⟨g, j, none⟩ v).ownsRow base e 1 (.slice (some ⟨g, 0, none⟩) n cap) n (xs.set j v) := by
 refine ⟨by rw [List.length_set]; exact h.1, ?_⟩
 rcases h.2 with ⟨e0, _⟩ | ⟨g', cap', cur, hv, hb, hg, h1, h2, h3, h4⟩
 · simp at e0
 ·
  simp only [Value.slice.injEq] at hv
  obtain ⟨e1, _, rfl⟩ := hv
  obtain rfl := some_addr e1
  refine Or.inr ⟨g, cap, cur.setIfInBounds j v, rfl, hb, by simp [World.setCell, Array.getElem?_modify, hg], h1, h2, by rw [Array.size_setIfInBounds]; exact h3, ?_⟩
  rw [Array.toList_setIfInBounds, List.take_set, h4]
theorem SB.setAt {base : Nat} {w : World} {g bc : Nat} {lb : List LB} (h : SB base w (some ⟨g, 0, none⟩) bc lb) {y : LB} {j : Nat} (_hj : j < lb.length) (hy : w.ownsRow base 5 1 (.slice y.a y.l.length y.cap) y.l.length (bcells y.l)) : SB base (w.setCell ⟨g, j, none⟩ y.v) (some ⟨g, 0, none⟩) bc (lb.set j y) := by
 have hb : ∀ {x : LB}, w.ownsRow base 5 1 (.slice x.a x.l.length x.cap) x.l.length (bcells x.l) → (w.setCell ⟨g, j, none⟩ y.v).ownsRow base 5 1 (.slice x.a x.l.length x.cap) x.l.length (bcells x.l) := fun hx => (Kept.one w g j y.v).owns hx (fun z hz e => by subst e; exact not_B_of_S (owns_isS h.own (z := z) rfl).1 (owns_isB hx hz).1)
 refine ⟨by rw [List.length_set, List.map_set]; exact owns_set h.own j y.v, fun x hx => ?_⟩
 rcases List.mem_or_eq_of_mem_set hx with e | e
 · exact hb (h.byt x e)
 · subst e; exact hb hy
theorem settleN_congr {keep keep' : Nat → Bool} (bl : List (List Nat)) (ws : List DW) : ∀ j, (∀ i, i < j → keep i = keep' i) → settleN keep bl ws j = settleN keep' bl ws j
 | 0, _ => rfl
 | j + 1, h => by
  simp only [settleN]
  rw [h j (by omega), settleN_congr bl ws j (fun i hi => h i (by omega))]
def SSInv (w wr : World) (d : DD) (ks : List Bool) (base g bc R V k : Nat) : Prop := ∃ lb : List LB, Hid (lb.length = 130) ∧ Hid (lb.map (·.l) = settleN (keepOf ks) d.blocks d.waiting k) ∧ SB base wr (some ⟨g, 0, none⟩) bc lb ∧ VB wr V (.slice (some ⟨g, 0, none⟩) lb.length bc) (.slice none 0 0) ∧ VB wr R (.slice none 0 0) (.slice none 0 0) ∧ Below w.heap.size w wr
theorem l3settle_any (d : DD) (l : DL) (ka : Option Addr) (ks : List Bool) (kc : Nat) (w : World) (hd : d.Fit) (ha : DAt w l d) (hkl : ks.length ≤ maxLen) (hk0 : BoolsAt w ka ks) : Calls Tryz.prog 76 #[d.val l, .slice ka ks.length kc] w (CPost ⟨settleN (keepOf ks) d.blocks d.waiting d.waiting.length, []⟩ w) := by
 have hs : d.Small := ⟨by have := hd.bl; omega, fun b hb => by have := hd.bb b hb; omega, by have := hd.wl; omega, fun x hx => by have := (hd.wb x hx).2.2; omega⟩
 unfold maxLen at hkl
 have hw0 := gal (gre w) (.cells #[.slice l.ba d.blocks.length l.bc, .slice l.wa d.waiting.length l.wc] 37)
 have hX0 := DBox.new w d l 37
 have hs0 : (w.alloc (.cells #[.slice l.ba d.blocks.length l.bc, .slice l.wa d.waiting.length l.wc] 37)).heap.size = w.heap.size + 1 := by simp
 go_enter Tryz.func76, Tryz.ntmps76
 go_upto_region 1 with fail
 generalize hXe0 : w.heap.size = X0 at hX0 hs0 hw0 ⊢
 generalize w.alloc (.cells #[.slice l.ba d.blocks.length l.bc, .slice l.wa d.waiting.length l.wc] 37) = w0 at hw0 hX0 hs0 ⊢
 have hw1 := gal (gre w0) (.cells #[.slice none 0 0, .slice none 0 0] 37)
 have hR := VB.new_at w0 (.slice none 0 0) (.slice none 0 0) 37 (X0 + 1) hs0.symm
 have hX := hX0.grow hw1
 have hs1 : (w0.alloc (.cells #[.slice none 0 0, .slice none 0 0] 37)).heap.size = X0 + 1 + 1 := by simp [hs0]
 generalize w0.alloc (.cells #[.slice none 0 0, .slice none 0 0] 37) = wA at hw1 hR hX hs1 ⊢
 have hwA : Below w.heap.size w wA := by rw [← hXe0] at hw0; exact gca hw0 hw1
 have hXe : Hid (X0 = w.heap.size) := hXe0.symm
 obtain ⟨R, hRe⟩ := hid_ex (X0 + 1)
 rw [← hRe.out] at hR ⊢
 have x0 := hX.c0
 have x1 := hX.c1
 have haA := ha.grow hwA
 clear hX0 hw0 hs0 hw1
 go_upto_region 3 with (go_at_call 72; refine (l3copy_any d l _ hs haA).mono ?_; rintro e w2 ⟨lb0, lw0, ba, bc, wa0, wc0, rfl, hlb0, hlw0, hL0, hW0, hb2⟩)
 have hlen0 : lb0.length = 130 := by rw [← hd.bl, ← hlb0]; simp
 obtain ⟨g, rfl⟩ : ∃ g, ba = some ⟨g, 0, none⟩ := by
  obtain ⟨g, c, e, _⟩ := hL0.own.form (by omega)
  simp only [Value.slice.injEq] at e
  exact ⟨g, e.1⟩
 have hgl := (hL0.own.lt g rfl).2
 have hgb := (hL0.own.lt g rfl).1
 have hA3 := gal (gre w2) (.cells #[.slice (some ⟨g, 0, none⟩) d.blocks.length bc, .slice none 0 0] 37)
 have hV0 := VB.new w2 (.slice (some ⟨g, 0, none⟩) d.blocks.length bc) (.slice none 0 0) 37
 have hb3 := gca hb2 hA3
 have hX3 := hX.grow hb3
 have hI0 : SSInv w (w2.alloc (.cells #[.slice (some ⟨g, 0, none⟩) d.blocks.length bc, .slice none 0 0] 37)) d ks (X0 + 1 + 1) g bc R w2.heap.size 0 :=
  ⟨lb0, hlen0, hlb0, by rw [← hs1]; exact hL0.grow hA3, by rw [hlen0, ← hd.bl]; exact hV0, hR.grow hb3, hwA.trans (hb3.mono hwA.size)⟩
 generalize w2.alloc (.cells #[.slice (some ⟨g, 0, none⟩) d.blocks.length bc, .slice none 0 0] 37) = w3 at hA3 hV0 hb3 hX3 hI0 ⊢
 generalize w2.heap.size = V at hI0 hgl ⊢
 obtain ⟨base, hbe⟩ := hid_ex (X0 + 1 + 1)
 rw [← hbe.out] at hI0
 rw [hs1, ← hbe.out] at hgb
 have y1 := hX3.c1
 clear hV0 hL0 hW0 hb2 hA3 hb3 hX3 x0 x1 hX hR haA hwA hlb0 hlw0 hlen0 hs1
 go_wp2
 go_loopw [14] (fun i wr => ∃ k : Nat, k ≤ d.waiting.length ∧ i = .int .i64 k ∧ SSInv w wr d ks base g bc R V k) (fun i _ => d.waiting.length - (intOf i).toNat)
 case atStart => exact ⟨0, Nat.zero_le _, rfl, hI0⟩
 case round =>
  obtain ⟨k, hk, rfl, lb, hll, hlm, hL, hV, hR, hb⟩ := hrel
  clear hI0 y1
  by_cases hlt : k < d.waiting.length
  ·
   obtain ⟨n, b, off, av, cv, hvk, hvm, hba, c0, c1, hva⟩ := (ha.w.grow hb).get hlt
   rw [hba]
   have i0 : (0 : Int) ≤ (k : Int) := by omega
   have i1 : (k : Int) < (d.waiting.length : Int) := by omega
   have hwl := hd.wl
   obtain ⟨hn0, hn1, hn64'⟩ := hd.wb n hvm
   have hn64 : Hid _ := hn64'
   clear hn64'
   obtain ⟨m, hm⟩ : ∃ m : Nat, n.block = (m : Int) := ⟨n.block.toNat, by omega⟩
   rw [hm] at c0
   go_upto_region 6 with fail
   have hAl := gal (gre wr) (.cells #[.int .i64 (m : Int), .slice av n.bytes.length cv] 102)
   have hLA := hL.grow hAl
   have hVA := hV.grow hAl
   have hRA := hR.grow hAl
   have hbA := gal hb (.cells #[.int .i64 (m : Int), .slice av n.bytes.length cv] 102)
   have hvaA := hva.grow hAl
   have hkA := hk0.grow hbA
   have q0 : (wr.alloc (.cells #[.int .i64 (m : Int), .slice av n.bytes.length cv] 102)).cell? ⟨wr.heap.size, 0, none⟩ = some (.int .i64 (m : Int)) := by simp
   have q1 : (wr.alloc (.cells #[.int .i64 (m : Int), .slice av n.bytes.length cv] 102)).cell? ⟨wr.heap.size, 1, none⟩ = some (.slice av n.bytes.length cv) := by simp
   have hsC : (wr.alloc (.cells #[.int .i64 (m : Int), .slice av n.bytes.length cv] 102)).heap.size = wr.heap.size + 1 := by simp
   generalize wr.alloc (.cells #[.int .i64 (m : Int), .slice av n.bytes.length cv] 102) = wC at hAl hLA hVA hRA hbA hvaA hkA q0 q1 hsC ⊢
   generalize hQ : wr.heap.size = Q at q0 q1 hsC ⊢
   have hm130 : m < 130 := by omega
   have j0 : (0 : Int) ≤ (m : Int) := by omega
   have j1 : (m : Int) < (lb.length : Int) := by have := hll.out; omega
   have hmt' : Hid (n.block.toNat = m) := by show _ = _; omega
   have hm' : Hid _ := hm
   clear hva hL hV hR hb c0 c1 hAl hm hn0 hn1
   have hll' := hll.out
   have hSk : ∀ (u u' : World), Below u.heap.size u u' → (u.cell? ⟨V, 0, none⟩ = some (.slice (some ⟨g, 0, none⟩) lb.length bc) ∧ u.cell? ⟨Q, 0, none⟩ = some (.int .i64 (m : Int)) ∧ u.cell? ⟨Q, 1, none⟩ = some (.slice av n.bytes.length cv)) → (u'.cell? ⟨V, 0, none⟩ = some (.slice (some ⟨g, 0, none⟩) lb.length bc) ∧ u'.cell? ⟨Q, 0, none⟩ = some (.int .i64 (m : Int)) ∧ u'.cell? ⟨Q, 1, none⟩ = some (.slice av n.bytes.length cv)) := fun u u' hb h => ⟨cell_later hb h.1, cell_later hb h.2.1, cell_later hb h.2.2⟩
   have hll2 : Hid _ := hll'
   clear hll'
   by_cases hkk : k < ks.length
   ·
    obtain ⟨kb, ko, rfl, hkc⟩ := hkA k hkk
    have l1 : (k : Int) < (ks.length : Int) := by omega
    cases hx : ks[k]! with
    | true =>
     rw [hx] at hkc
     have hst : Hid (settleN (keepOf ks) d.blocks d.waiting (k + 1) = setB (settleN (keepOf ks) d.blocks d.waiting k) n) := by show _ = _; simp only [settleN]; rw [if_pos (by simp only [keepOf, hx, hkk, decide_true, Bool.and_self]), ← hvk.out]
     clear hx
     go_upto_region 7 with fail
     refine wp_regionU (fun u => u.cell? ⟨V, 0, none⟩ = some (.slice (some ⟨g, 0, none⟩) lb.length bc) ∧ u.cell? ⟨Q, 0, none⟩ = some (.int .i64 (m : Int)) ∧ u.cell? ⟨Q, 1, none⟩ = some (.slice av n.bytes.length cv)) 8 (by kernel_rfl) ⟨(hVA.grow (gdr (gre wC))).v0, q0, q1⟩ (fun hS0 => ?_)
     have hLd := hLA.grow (gdr (gre wC))
     have hVd := hVA.grow (gdr (gre wC))
     have hRd := hRA.grow (gdr (gre wC))
     have hbd := gdr hbA
     have hvd := hvaA.grow (gdr (gre wC))
     generalize wC.drew = wd at hLd hVd hRd hbd hvd hS0 ⊢
     refine anyU_tk (i := 0) rfl hS0 (fun u hSu => by obtain ⟨s0, s1, s2⟩ := hSu; go_simp <;> with_reducible rfl) ?_
     refine anyU_tk (i := 1) rfl hS0 (fun u hSu => by obtain ⟨s0, s1, s2⟩ := hSu; go_simp <;> with_reducible rfl) ?_
     refine anyU_tk (i := 2) rfl hS0 (fun u hSu => by obtain ⟨s0, s1, s2⟩ := hSu; go_simp <;> with_reducible rfl) ?_
     refine anyU_tk (i := 3) rfl hS0 (fun u hSu => by obtain ⟨s0, s1, s2⟩ := hSu; go_simp <;> with_reducible rfl) ?_
     refine anyU_tk (i := 4) rfl hS0 (fun u hSu => by obtain ⟨s0, s1, s2⟩ := hSu; go_simp <;> with_reducible rfl) ?_
     refine anyU_tk (i := 5) rfl hS0 (fun u hSu => by obtain ⟨s0, s1, s2⟩ := hSu; go_simp <;> with_reducible rfl) ?_
     simp only [Act.put, List.getElem_toArray, List.getElem_cons_zero, List.getElem_cons_succ, List.setIfInBounds_toArray, List.set_cons_zero, List.set_cons_succ]
     refine anyU_one (i := 6) (by kernel_rfl) rfl (fun K hK => ?_)
     go_simp
     refine (l2copy_any av n.bytes cv _ (hs.wb n hvm) hvd).mono ?_
     rintro e w1 ⟨oa, oc, rfl, hoy, hB1⟩
     have hS1 := hSk _ _ hB1 hS0
     refine hK.out _ _ hS1 ?_
     clear hK
     have hL1 := hLd.grow hB1
     have hV1 := hVd.grow hB1
     have hR1 := hRd.grow hB1
     have hbel1 := gca hbd hB1
     have hy : w1.ownsRow base 5 1 (.slice oa n.bytes.length oc) n.bytes.length (bcells n.bytes) := owns_le hoy (by have := hVd.lt; omega)
     refine anyU_one (i := 7) (by kernel_rfl) rfl (fun K hK => ?_)
     go_simp
     refine hK.out _ _ hS1 ?_
     clear hK
     obtain ⟨⟨rv, rc⟩, rf⟩ := owns_at hL1.own (j := m) (by have := hll2.out; omega)
     refine anyU_last (by kernel_rfl) rfl (by kernel_rfl) (fun K hK => ?_)
     go_simp
     refine hK.out _ _ ?_
     clear hK
     have hL2 := hL1.setAt (y := ⟨n.bytes, oa, oc⟩) (j := m) (by have := hll2.out; omega) hy
     have hKs := Kept.one w1 g m (.slice oa n.bytes.length oc)
     have hV2 := hV1.kept hKs (by have := hll2.out; omega)
     have hR2 := hR1.kept hKs (by have := hRe.out; have := hbe.out; have hgb := (owns_isS hL1.own (z := g) rfl).2; omega)
     have hbel2 := hbel1.trans (hKs.below (B := w.heap.size) hbel1.size (fun z hz e => by have hgb := (owns_isS hL1.own (z := g) rfl).2; have := hXe.out; have := hbe.out; omega))
     go_wp2
     go_roundw
     case rel => exact ⟨k + 1, by omega, by go_num, lb.set m ⟨n.bytes, oa, oc⟩, by show _ = _; rw [List.length_set]; exact hll.out, by show _ = _; rw [hst.out, List.map_set, hlm.out, setB, hmt'.out], hL2, by rw [List.length_set]; exact hV2, hR2, hbel2⟩
     case measure => simp [intOf]; omega
    | false =>
     rw [hx] at hkc
     have hst : Hid (settleN (keepOf ks) d.blocks d.waiting (k + 1) = settleN (keepOf ks) d.blocks d.waiting k) := by show _ = _; simp only [settleN]; rw [if_neg (by simp [keepOf, hx])]
     clear hx
     go_wp2
     go_roundw
     case rel => exact ⟨k + 1, by omega, by go_num, lb, hll, by show _ = _; rw [hst.out]; exact hlm.out, hLA, hVA, hRA, hbA⟩
     case measure => simp [intOf]; omega
   ·
    have l1 : ¬ ((k : Int) < (ks.length : Int)) := by omega
    have hst : Hid (settleN (keepOf ks) d.blocks d.waiting (k + 1) = settleN (keepOf ks) d.blocks d.waiting k) := by show _ = _; simp only [settleN]; rw [if_neg (by simp [keepOf, hkk])]
    go_wp2
    go_roundw
    case rel => exact ⟨k + 1, by omega, by go_num, lb, hll, by show _ = _; rw [hst.out]; exact hlm.out, hLA, hVA, hRA, hbA⟩
    case measure => simp [intOf]; omega
  ·
   obtain rfl : k = d.waiting.length := by omega
   have y0 := hV.v0
   have y1 := hV.v1
   have z0 := hR.v0
   have z1 := hR.v1
   have zf := hR.vf
   obtain ⟨c0, c1, K⟩ := ret2 (A := .slice (some ⟨g, 0, none⟩) lb.length bc) (B := .slice none 0 0) z0 z1
   have hRb : R < base := by have := hbe.out; have := hRe.out; omega
   have hfL := ((hL.set (V := R) hRb 0 (.slice (some ⟨g, 0, none⟩) lb.length bc)).set (V := R) hRb 1 (.slice none 0 0)).le (base' := w.heap.size) (by have := hbe.out; have := hXe.out; omega)
   have hbel := hb.trans (K.below hb.size (fun z hz e => by have := hRe.out; have := hXe.out; omega))
   have hlen2 : Hid ((settleN (keepOf ks) d.blocks d.waiting d.waiting.length).length = lb.length) := by show _ = _; rw [settleN_length, hd.bl, hll.out]
   clear K hRb
   go_wp2
   refine bodyPost_ret (v := .agg #[.slice (some ⟨g, 0, none⟩) lb.length bc, .slice none 0 0]) (by simp [results, Tryz.results76, go_sem, c0, c1]) rfl ⟨lb, [], some ⟨g, 0, none⟩, bc, none, 0, by rw [DD.val, hlen2.out]; rfl, hlm.out, rfl, hfL, SW.nil _ _, hbel⟩
end Go.Proofs.YthjddpkegooobacGreatDoor
