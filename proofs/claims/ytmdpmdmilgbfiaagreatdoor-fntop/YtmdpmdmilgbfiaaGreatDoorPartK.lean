import Derived.Test.YtmdpmdmilgbfiaaGreatDoorPartJ
namespace Go.Proofs.YtmdpmdmilgbfiaaGreatDoor
open Go.RowKit
set_option maxRecDepth 100000
set_option maxHeartbeats 8000000
def LB.own (y : LB) : Option Nat := (Value.slice y.a y.l.length y.cap).ownBlock
def AparL (lb : List LB) : Prop := lb.Pairwise fun x y => ∀ z, x.own = some z → y.own ≠ some z
theorem AparL.push {lb : List LB} {y : LB} {B : Nat} (h : AparL lb) (hb : ∀ x, x ∈ lb → ∀ z, x.own = some z → z < B) (hy : ∀ z, y.own = some z → B ≤ z) : AparL (lb ++ [y]) :=
 List.pairwise_append.2 ⟨h, List.pairwise_singleton _ _, fun x hx u hu z hz e => by
  obtain rfl : u = y := by simpa using hu
  have := hb x hx z hz
  have := hy z e
  omega⟩
def CInv (w wr : World) (d : DD) (l : DL) (X R V k : Nat) : Prop := ∃ (lb : List LB) (ba : Option Addr) (bc : Nat), Hid (lb.length = k) ∧ Hid (lb.map (·.l) = d.blocks.take k) ∧ Hid (AparL lb) ∧ SB (V + 1) wr ba bc lb ∧ VB wr V (.slice ba lb.length bc) (.slice none 0 0) ∧ VB wr R (.slice none 0 0) (.slice none 0 0) ∧ DBox wr X d l ∧ Below w.heap.size w wr
def CInv2 (w wr : World) (d : DD) (R V : Nat) (lb : List LB) (ba : Option Addr) (bc k : Nat) : Prop := ∃ (lw : List LW) (wa : Option Addr) (wc : Nat), Hid (lw.length = k) ∧ Hid (lw.map (·.x) = d.waiting.take k) ∧ SB (V + 1) wr ba bc lb ∧ SW (V + 1) wr wa wc lw ∧ VB wr V (.slice ba lb.length bc) (.slice wa lw.length wc) ∧ VB wr R (.slice none 0 0) (.slice none 0 0) ∧ Below w.heap.size w wr
def CPost (d : DD) (w : World) (e : Ending) (w' : World) : Prop := ∃ (lb : List LB) (lw : List LW) (ba : Option Addr) (bc : Nat) (wa : Option Addr) (wc : Nat), e = .returned (d.val ⟨ba, bc, wa, wc⟩) ∧ lb.map (·.l) = d.blocks ∧ lw.map (·.x) = d.waiting ∧ SB w.heap.size w' ba bc lb ∧ SW w.heap.size w' wa wc lw ∧ Below w.heap.size w w'
def CPostF (d : DD) (w : World) (e : Ending) (w' : World) : Prop := ∃ (lb : List LB) (lw : List LW) (ba : Option Addr) (bc : Nat) (wa : Option Addr) (wc : Nat), e = .returned (d.val ⟨ba, bc, wa, wc⟩) ∧ lb.map (·.l) = d.blocks ∧ lw.map (·.x) = d.waiting ∧ SB w.heap.size w' ba bc lb ∧ SW w.heap.size w' wa wc lw ∧ AparL lb ∧ Below w.heap.size w w'
theorem SB.le {base base' : Nat} {w : World} {ba : Option Addr} {bc : Nat} {lb : List LB} (h : SB base w ba bc lb) (hb : base' ≤ base) : SB base' w ba bc lb := ⟨owns_le h.own hb, fun y hy => owns_le (h.byt y hy) hb⟩
theorem SW.le {base base' : Nat} {w : World} {wa : Option Addr} {wc : Nat} {lw : List LW} (h : SW base w wa wc lw) (hb : base' ≤ base) : SW base' w wa wc lw := ⟨owns_le h.own hb, fun y hy => owns_le (h.byt y hy) hb⟩
theorem l3copy_far (d : DD) (l : DL) (w : World) (hs : d.Small) (ha : DAt w l d) : Calls Tryz.prog 68 #[d.val l] w (CPostF d w) := by
 obtain ⟨j0, hj, hy0, hy1, hy2'⟩ := info_parts info_bytes
 obtain ⟨k0, hkk, hk0, hk1, hk2⟩ := info_parts info_implWrite
 go_enter Tryz.func68, Tryz.ntmps68
 go_upto_region 2 with fail
 have hw0 := gal (gre w) (.cells #[.slice l.ba d.blocks.length l.bc, .slice l.wa d.waiting.length l.wc] 46)
 have hX0 := DBox.new w d l 46
 have hs0 : (w.alloc (.cells #[.slice l.ba d.blocks.length l.bc, .slice l.wa d.waiting.length l.wc] 46)).heap.size = w.heap.size + 1 := by simp
 generalize hXe0 : w.heap.size = X0 at hX0 hs0 hw0 ⊢
 generalize w.alloc (.cells #[.slice l.ba d.blocks.length l.bc, .slice l.wa d.waiting.length l.wc] 46) = w0 at hw0 hX0 hs0 ⊢
 have hw1 := gal (gal (gre w0) (.cells #[.slice none 0 0, .slice none 0 0] 46)) (.cells #[.slice none 0 0, .slice none 0 0] 46)
 have hR := (VB.new_at w0 (.slice none 0 0) (.slice none 0 0) 46 (X0 + 1) hs0.symm).grow (gal (gre _) (.cells #[.slice none 0 0, .slice none 0 0] 46))
 have hV := VB.new_at (w0.alloc (.cells #[.slice none 0 0, .slice none 0 0] 46)) (.slice none 0 0) (.slice none 0 0) 46 (X0 + 1 + 1) (by simp [hs0])
 have hX := hX0.grow hw1
 generalize (w0.alloc (.cells #[.slice none 0 0, .slice none 0 0] 46)).alloc (.cells #[.slice none 0 0, .slice none 0 0] 46) = wA at hw1 hR hV hX ⊢
 have hwA : Below w.heap.size w wA := by rw [← hXe0] at hw0; exact gca hw0 hw1
 have hXe : Hid (X0 = w.heap.size) := hXe0.symm
 obtain ⟨R, hRe⟩ := hid_ex (X0 + 1)
 obtain ⟨V, hVe⟩ := hid_ex (X0 + 1 + 1)
 rw [← hVe.out] at hV ⊢
 rw [← hRe.out] at hR ⊢
 have hI0 : CInv w wA d l X0 R V 0 := ⟨[], none, 0, rfl, rfl, List.Pairwise.nil, SB.nil _ _, hV, hR, hX, hwA⟩
 have x0 := hX.c0
 have x1 := hX.c1
 clear hw1 hR hV hX0 hw0 hs0 hwA hX
 go_wp2
 go_loopw [11] (fun i wr => ∃ k : Nat, k ≤ d.blocks.length ∧ i = .int .i64 k ∧ CInv w wr d l X0 R V k) (fun i _ => d.blocks.length - (intOf i).toNat)
 case atStart => exact ⟨0, Nat.zero_le _, rfl, hI0⟩
 case round =>
  obtain ⟨k, hk, rfl, lb, ba, bc, hll, hlm, hap, hL, hV, hR, hX, hb⟩ := hrel
  clear hI0 x0 x1
  by_cases hlt : k < d.blocks.length
  ·
   obtain ⟨n, b, off, av, cv, hvk, hvm, hba, c0, hva⟩ := (ha.b.grow hb).get hlt
   rw [hba]
   have i0 : (0 : Int) ≤ (k : Int) := by omega
   have i1 : (k : Int) < (d.blocks.length : Int) := by omega
   go_wp2
   refine wp_regionU (fun u => u.cell? ⟨V, 0, none⟩ = some (.slice ba lb.length bc)) 7 (by kernel_rfl) (hV.grow (gdr (gre wr))).v0 (fun hS0 => ?_)
   have hLd := hL.grow (gdr (gre wr))
   have hVd := hV.grow (gdr (gre wr))
   have hRd := hR.grow (gdr (gre wr))
   have hXd := hX.grow (gdr (gre wr))
   have hbd := gdr hb
   have hvd := hva.grow (gdr (gre wr))
   generalize wr.drew = wd at hLd hVd hRd hXd hbd hvd hS0 ⊢
   refine anyU_tk (i := 0) rfl hS0 (fun u hSu => by (try dsimp only at hSu); go_simp <;> with_reducible rfl) ?_
   refine anyU_tk (i := 1) rfl hS0 (fun u hSu => by (try dsimp only at hSu); go_simp <;> with_reducible rfl) ?_
   refine anyU_tk (i := 2) rfl hS0 (fun u hSu => by (try dsimp only at hSu); go_simp <;> with_reducible rfl) ?_
   simp only [Act.put, List.getElem_toArray, List.getElem_cons_zero, List.getElem_cons_succ, List.setIfInBounds_toArray, List.set_cons_zero, List.set_cons_succ]
   refine anyU_one (i := 3) (by kernel_rfl) rfl (fun K hK => ?_)
   go_simp
   refine (l2copy_any av n cv _ (hs.bb n hvm) hvd).mono ?_
   rintro e w1 ⟨oa, oc, rfl, hoy, hB1⟩
   have hap2 : Hid (AparL (lb ++ [⟨n, oa, oc⟩])) := AparL.push (B := wd.heap.size) hap.out (fun x hx z hz => by
    obtain ⟨⟨c, hc⟩, _⟩ := owns_isB (hLd.byt x hx) hz
    exact (Array.getElem?_eq_some_iff.1 hc).1) (fun z hz => (owns_isB hoy hz).2)
   have hS1 := cell_later hB1 hS0
   refine hK.out _ _ hS1 ?_
   clear hK
   have hL1 := hLd.grow hB1
   have hV1 := hVd.grow hB1
   have hR1 := hRd.grow hB1
   have hX1 := hXd.grow hB1
   have hbel1 := gca hbd hB1
   have hy : w1.ownsRow (V + 1) 5 1 (.slice oa n.length oc) n.length (bcells n) := owns_le hoy (by have := hVd.lt; omega)
   have hB2 := gal (gre w1) (.cells #[.slice oa n.length oc] 22)
   have hS2 := cell_later hB2 hS1
   have hS2' : Hid _ := hS2
   clear hS2
   refine anyU_one (i := 4) (by kernel_rfl) rfl (fun K hK => ?_)
   go_simp
   refine hK.out _ _ hS2'.out ?_
   clear hK
   have hL2 := hL1.grow hB2
   have hV2 := hV1.grow hB2
   have hR2 := hR1.grow hB2
   have hX2 := hX1.grow hB2
   have hbel2 := gca hbel1 hB2
   have hy2 := (Kept.of_below hB2 (fun _ => False)).owns hy (fun _ _ e => e)
   have hnew := World.news_of_block (cs := #[.slice oa n.length oc]) (t := 22) (fr := (0, 0)) (blk_new_at w1 (.cells #[.slice oa n.length oc] 22) _ rfl)
   have hs2 : (w1.alloc (.cells #[.slice oa n.length oc] 22)).heap.size = w1.heap.size + 1 := by simp
   generalize w1.alloc (.cells #[.slice oa n.length oc] 22) = w2 at hB2 hS2' hL2 hV2 hR2 hX2 hbel2 hy2 hnew hs2 ⊢
   have hlw := hll.out
   have hbl := hs.bl
   refine anyU_one (i := 5) (by kernel_rfl) rfl (fun K hK => ?_)
   refine step_append_lies _ (by rfl) (.tmp 16) (.tmp 19) 43 rfl (V + 1) 22 j0 _ 1 24 Tryz.underlying43 hj hy0 hy1 hy2' rfl (by decide) (.slice ba lb.length bc) lb.length (lb.map LB.v) (by rfl) hL2.own ⟨w1.heap.size, 0, none⟩ 1 1 [.slice oa n.length oc] (by rfl) rfl hnew (by simp [Value.oneCell']) (by decide) (by unfold maxLen; omega) (by omega) (by have := hV2.lt; omega) (w1.heap.size + 1) hs2 ?_
   intro gg cc w5 hown5 hgrow5 hat5 hlt5
   have K5 := Kept.of_grown hgrow5
   have hz5 : ∀ z, (Value.slice ba lb.length bc).ownBlock = some z → V + 1 ≤ z := fun z e => (owns_isS hL2.own e).2
   have hL5 := hL2.push (y := ⟨n, oa, oc⟩) hy2 hown5 hgrow5
   have hV5 := hV2.kept K5 (fun e => by have := hz5 _ e; omega)
   refine hK.out _ _ hV5.v0 ?_
   clear hK
   simp only [Act.put, List.getElem_toArray, List.getElem_cons_zero, List.getElem_cons_succ, List.setIfInBounds_toArray, List.set_cons_zero, List.set_cons_succ]
   refine anyU_one (i := 6) (by kernel_rfl) rfl (fun K hK => ?_)
   go_simp
   refine hK.out _ _ hV5.v0 ?_
   clear hK
   have fz := hV5.vf
   have c8 := hV5.v0
   refine anyU_last (by kernel_rfl) rfl (by kernel_rfl) (fun K hK => ?_)
   go_simp
   refine hK.out _ _ ?_
   clear hK
   have hbel5 := hbel2.trans (K5.below (B := w.heap.size) hbel2.size (fun z hz e => by have := hz5 _ e; have := hVe.out; omega))
   have hfin : SB (V + 1) (w5.setCell ⟨V, 0, none⟩ (.slice (some ⟨gg, 0, none⟩) (lb.length + 1) cc)) (some ⟨gg, 0, none⟩) cc (lb ++ [⟨n, oa, oc⟩]) := hL5.set (by omega) _ _
   have hfV := hV5.set0 (.slice (some ⟨gg, 0, none⟩) (lb.length + 1) cc)
   have hfR := (hR2.kept K5 (fun e => by have := hz5 _ e; have := hVe.out; have := hRe.out; omega)).kept (Kept.one w5 V 0 (.slice (some ⟨gg, 0, none⟩) (lb.length + 1) cc)) (by have := hVe.out; have := hRe.out; omega)
   have hfX := (hX2.kept K5 (fun e => by have := hz5 _ e; have := hVe.out; have := hXe.out; omega)).kept (Kept.one w5 V 0 (.slice (some ⟨gg, 0, none⟩) (lb.length + 1) cc)) (by have := hVe.out; have := hXe.out; omega)
   rw [hlw] at hfin hfV hfR hfX
   go_wp2
   go_roundw
   case rel => exact ⟨k + 1, by omega, by go_num, lb ++ [⟨n, oa, oc⟩], some ⟨gg, 0, none⟩, cc, by show _ = _; rw [List.length_append, hlw]; rfl, by show _ = _; rw [List.map_append, hlm.out, take_snoc _ _ hlt, ← hvk.out]; rfl, hap2, hfin, by rw [List.length_append, hlw]; exact hfV, hfR, hfX, gse hbel5 (by have := hVe.out; show w.heap.size ≤ V; omega) _⟩
   case measure => simp [intOf]; omega
  ·
   obtain rfl : k = d.blocks.length := by omega
   rw [List.take_length] at hlm
   have y0 := hX.c0
   have y1 := hX.c1
   have hJ0 : CInv2 w wr d R V lb ba bc 0 := ⟨[], none, 0, rfl, rfl, hL, SW.nil _ _, hV, hR, hb⟩
   clear hL hV hR hb hX
   go_wp2
   go_loopw [26] (fun i wr => ∃ k : Nat, k ≤ d.waiting.length ∧ i = .int .i64 k ∧ CInv2 w wr d R V lb ba bc k) (fun i _ => d.waiting.length - (intOf i).toNat)
   case atStart => exact ⟨0, Nat.zero_le _, rfl, hJ0⟩
   case round =>
    obtain ⟨k, hk2', rfl, lw, wa, wc, hll2, hlm2, hL, hW, hV, hR, hb⟩ := hrel
    clear hJ0 y0 y1
    by_cases hlt2 : k < d.waiting.length
    ·
     obtain ⟨n, b, off, av, cv, hvk, hvm, hba, c0, c1, hva⟩ := (ha.w.grow hb).get hlt2
     rw [hba]
     have i0 : (0 : Int) ≤ (k : Int) := by omega
     have i1 : (k : Int) < (d.waiting.length : Int) := by omega
     go_upto_region 10 with fail
     have hAl := gal (gre wr) (.cells #[.int .i64 n.block, .slice av n.bytes.length cv] 125)
     have hLA := hL.grow hAl
     have hWA := hW.grow hAl
     have hVA := hV.grow hAl
     have hRA := hR.grow hAl
     have hbA := gal hb (.cells #[.int .i64 n.block, .slice av n.bytes.length cv] 125)
     have hvaA := hva.grow hAl
     have q0 : (wr.alloc (.cells #[.int .i64 n.block, .slice av n.bytes.length cv] 125)).cell? ⟨wr.heap.size, 0, none⟩ = some (.int .i64 n.block) := by simp
     have q1 : (wr.alloc (.cells #[.int .i64 n.block, .slice av n.bytes.length cv] 125)).cell? ⟨wr.heap.size, 1, none⟩ = some (.slice av n.bytes.length cv) := by simp
     have hsC : (wr.alloc (.cells #[.int .i64 n.block, .slice av n.bytes.length cv] 125)).heap.size = wr.heap.size + 1 := by simp
     generalize wr.alloc (.cells #[.int .i64 n.block, .slice av n.bytes.length cv] 125) = wC at hAl hLA hWA hVA hRA hbA hvaA q0 q1 hsC ⊢
     generalize hQ : wr.heap.size = Q at q0 q1 hsC ⊢
     clear hva hL hV hR hb c0 c1 hAl
     have hSk : ∀ (u u' : World), Below u.heap.size u u' → (u.cell? ⟨V, 1, none⟩ = some (.slice wa lw.length wc) ∧ u.cell? ⟨Q, 0, none⟩ = some (.int .i64 n.block) ∧ u.cell? ⟨Q, 1, none⟩ = some (.slice av n.bytes.length cv)) → (u'.cell? ⟨V, 1, none⟩ = some (.slice wa lw.length wc) ∧ u'.cell? ⟨Q, 0, none⟩ = some (.int .i64 n.block) ∧ u'.cell? ⟨Q, 1, none⟩ = some (.slice av n.bytes.length cv)) := fun u u' hb h => ⟨cell_later hb h.1, cell_later hb h.2.1, cell_later hb h.2.2⟩
     refine wp_regionU (fun u => u.cell? ⟨V, 1, none⟩ = some (.slice wa lw.length wc) ∧ u.cell? ⟨Q, 0, none⟩ = some (.int .i64 n.block) ∧ u.cell? ⟨Q, 1, none⟩ = some (.slice av n.bytes.length cv)) 11 (by kernel_rfl) ⟨(hVA.grow (gdr (gre wC))).v1, q0, q1⟩ (fun hS0 => ?_)
     have hLd := hLA.grow (gdr (gre wC))
     have hWd := hWA.grow (gdr (gre wC))
     have hVd := hVA.grow (gdr (gre wC))
     have hRd := hRA.grow (gdr (gre wC))
     skip
     have hbd := gdr hbA
     have hvd := hvaA.grow (gdr (gre wC))
     have hsd : wC.drew.heap.size = wC.heap.size := rfl
     generalize wC.drew = wd at hLd hWd hVd hRd hbd hvd hS0 hsd ⊢
     refine anyU_tk (i := 0) rfl hS0 (fun u hSu => by obtain ⟨s0, s1, s2⟩ := hSu; go_simp <;> with_reducible rfl) ?_
     refine anyU_tk (i := 1) rfl hS0 (fun u hSu => by obtain ⟨s0, s1, s2⟩ := hSu; go_simp <;> with_reducible rfl) ?_
     refine anyU_tk (i := 2) rfl hS0 (fun u hSu => by obtain ⟨s0, s1, s2⟩ := hSu; go_simp <;> with_reducible rfl) ?_
     refine anyU_tk (i := 3) rfl hS0 (fun u hSu => by obtain ⟨s0, s1, s2⟩ := hSu; go_simp <;> with_reducible rfl) ?_
     refine anyU_tk (i := 4) rfl hS0 (fun u hSu => by obtain ⟨s0, s1, s2⟩ := hSu; go_simp <;> with_reducible rfl) ?_
     refine anyU_tk (i := 5) rfl hS0 (fun u hSu => by obtain ⟨s0, s1, s2⟩ := hSu; go_simp <;> with_reducible rfl) ?_
     simp only [Act.put, List.getElem_toArray, List.getElem_cons_zero, List.getElem_cons_succ, List.setIfInBounds_toArray, List.set_cons_zero, List.set_cons_succ]
     refine anyU_one (i := 6) (by kernel_rfl) rfl (fun K hK => ?_)
     go_simp
     refine (l2copy_any av n.bytes cv _ (hs.wb n hvm) hvd).mono ?_
     rintro e w1 ⟨oa, oc, rfl, hoy, hB1⟩
     have hS1 := hSk _ _ hB1 hS0
     refine hK.out _ _ hS1 ?_
     clear hK
     have hL1 := hLd.grow hB1
     have hW1 := hWd.grow hB1
     have hV1 := hVd.grow hB1
     have hR1 := hRd.grow hB1
     skip
     have hbel1 := gca hbd hB1
     have hy : w1.ownsRow (V + 1) 5 1 (.slice oa n.bytes.length oc) n.bytes.length (bcells n.bytes) := owns_le hoy (by have := hVd.lt; omega)
     refine anyU_one (i := 7) (by kernel_rfl) rfl (fun K hK => ?_)
     go_simp
     refine hK.out _ _ hS1 ?_
     clear hK
     have hB2 := gal (gre w1) (.cells #[.int .i64 n.block, .slice oa n.bytes.length oc] 125)
     have hS2 := hSk _ _ hB2 hS1
     have hS2' : Hid _ := hS2
     clear hS2
     refine anyU_one (i := 8) (by kernel_rfl) rfl (fun K hK => ?_)
     go_simp
     refine hK.out _ _ hS2'.out ?_
     clear hK
     have hL2 := hL1.grow hB2
     have hW2 := hW1.grow hB2
     have hV2 := hV1.grow hB2
     have hR2 := hR1.grow hB2
     skip
     have hbel2 := gca hbel1 hB2
     have hy2 := (Kept.of_below hB2 (fun _ => False)).owns hy (fun _ _ e => e)
     have hnew := World.news_of_block (cs := #[.int .i64 n.block, .slice oa n.bytes.length oc]) (t := 125) (fr := (0, 0)) (blk_new_at w1 (.cells #[.int .i64 n.block, .slice oa n.bytes.length oc] 125) _ rfl)
     have hs2 : (w1.alloc (.cells #[.int .i64 n.block, .slice oa n.bytes.length oc] 125)).heap.size = w1.heap.size + 1 := by simp
     have hs1 := hB1.size
     generalize w1.alloc (.cells #[.int .i64 n.block, .slice oa n.bytes.length oc] 125) = w2 at hB2 hS2' hL2 hW2 hV2 hR2 hbel2 hy2 hnew hs2 ⊢
     have hlw := hll2.out
     have hwl := hs.wl
     refine anyU_one (i := 9) (by kernel_rfl) rfl (fun K hK => ?_)
     refine step_append_lies _ (by rfl) (.tmp 31) (.tmp 38) 44 rfl (V + 1) 125 k0 _ 2 32 Tryz.underlying44 hkk hk0 hk1 hk2 rfl (by decide) (.slice wa lw.length wc) lw.length (wCells lw) (by rfl) hW2.own ⟨w1.heap.size, 0, none⟩ 1 1 [.int .i64 n.block, .slice oa n.bytes.length oc] (by rfl) rfl hnew (by simp [Value.oneCell']) (by decide) (by unfold maxLen; omega) (by omega) (by have := hV2.lt; omega) (w1.heap.size + 1) hs2 ?_
     intro gg cc w5 hown5 hgrow5 hat5 hlt5
     have K5 := Kept.of_grown hgrow5
     have hz5 : ∀ z, (Value.slice wa lw.length wc).ownBlock = some z → IsW w2 z ∧ V + 1 ≤ z := fun z e => owns_isW hW2.own e
     have hzQ : ∀ z, (Value.slice wa lw.length wc).ownBlock = some z → z < Q := fun z e => by obtain ⟨c, hc⟩ := (owns_isW hW.own e).1; have := (Array.getElem?_eq_some_iff.1 hc).1; omega
     have hW5 := hW2.push (y := ⟨n, oa, oc⟩) hy2 hown5 hgrow5
     have hL5 := hL2.kept K5 (fun z e _ => ⟨fun hS => not_W_of_S hS (hz5 z e).1, not_B_of_W (hz5 z e).1⟩)
     have hV5 := hV2.kept K5 (fun e => by have := (hz5 _ e).2; omega)
     have hS5 : w5.cell? ⟨V, 1, none⟩ = some (.slice wa lw.length wc) ∧ w5.cell? ⟨Q, 0, none⟩ = some (.int .i64 n.block) ∧ w5.cell? ⟨Q, 1, none⟩ = some (.slice av n.bytes.length cv) := ⟨hV5.v1, K5.cell hS2'.out.2.1 (fun e => by have := hzQ _ e; omega), K5.cell hS2'.out.2.2 (fun e => by have := hzQ _ e; omega)⟩
     refine hK.out _ _ hS5 ?_
     clear hK
     simp only [Act.put, List.getElem_toArray, List.getElem_cons_zero, List.getElem_cons_succ, List.setIfInBounds_toArray, List.set_cons_zero, List.set_cons_succ]
     refine anyU_one (i := 10) (by kernel_rfl) rfl (fun K hK => ?_)
     go_simp
     refine hK.out _ _ hS5 ?_
     clear hK
     have fz := hV5.vf
     have c8 := hV5.v1
     refine anyU_last (by kernel_rfl) rfl (by kernel_rfl) (fun K hK => ?_)
     go_simp
     refine hK.out _ _ ?_
     clear hK
     have hbel5 := hbel2.trans (K5.below (B := w.heap.size) hbel2.size (fun z hz e => by have := (hz5 _ e).2; have := hVe.out; omega))
     have hfW : SW (V + 1) (w5.setCell ⟨V, 1, none⟩ (.slice (some ⟨gg, 0, none⟩) (lw.length + 1) cc)) (some ⟨gg, 0, none⟩) cc (lw ++ [⟨n, oa, oc⟩]) := hW5.set (by omega) _ _
     have hfL : SB (V + 1) (w5.setCell ⟨V, 1, none⟩ (.slice (some ⟨gg, 0, none⟩) (lw.length + 1) cc)) ba bc lb := hL5.set (by omega) _ _
     have hfV := hV5.set1 (.slice (some ⟨gg, 0, none⟩) (lw.length + 1) cc)
     have hfR := (hR2.kept K5 (fun e => by have := (hz5 _ e).2; have := hVe.out; have := hRe.out; omega)).kept (Kept.one w5 V 1 (.slice (some ⟨gg, 0, none⟩) (lw.length + 1) cc)) (by have := hVe.out; have := hRe.out; omega)
     rw [hlw] at hfW hfL hfV hfR
     go_wp2
     go_roundw
     case rel => exact ⟨k + 1, by omega, by go_num, lw ++ [⟨n, oa, oc⟩], some ⟨gg, 0, none⟩, cc, by show _ = _; rw [List.length_append, hlw]; rfl, by show _ = _; rw [List.map_append, hlm2.out, take_snoc _ _ hlt2, ← hvk.out]; rfl, hfL, hfW, by rw [List.length_append, hlw]; exact hfV, hfR, gse hbel5 (by have := hVe.out; show w.heap.size ≤ V; omega) _⟩
     case measure => simp [intOf]; omega
    ·
     obtain rfl : k = d.waiting.length := by omega
     rw [List.take_length] at hlm2
     have y0 := hV.v0
     have y1 := hV.v1
     have z0 := hR.v0
     have z1 := hR.v1
     have zf := hR.vf
     obtain ⟨c0, c1, K⟩ := ret2 (A := .slice ba lb.length bc) (B := .slice wa lw.length wc) z0 z1
     have hRV : R < V := by have := hVe.out; have := hRe.out; omega
     have hfL := ((hL.set (V := R) (by omega) 0 (.slice ba lb.length bc)).set (V := R) (by omega) 1 (.slice wa lw.length wc)).le (base' := w.heap.size) (by have := hVe.out; have := hXe.out; omega)
     have hfW := ((hW.set (V := R) (by omega) 0 (.slice ba lb.length bc)).set (V := R) (by omega) 1 (.slice wa lw.length wc)).le (base' := w.heap.size) (by have := hVe.out; have := hXe.out; omega)
     have hbel := hb.trans (K.below hb.size (fun z hz e => by have := hRe.out; have := hXe.out; omega))
     clear K hRV
     go_wp2
     refine bodyPost_ret (v := .agg #[.slice ba lb.length bc, .slice wa lw.length wc]) (by simp [results, Tryz.results68, go_sem, c0, c1]) rfl ⟨lb, lw, ba, bc, wa, wc, by rw [DD.val, hll.out, hll2.out], hlm.out, hlm2.out, hfL, hfW, hap.out, hbel⟩
theorem l3copy_any (d : DD) (l : DL) (w : World) (hs : d.Small) (ha : DAt w l d) : Calls Tryz.prog 68 #[d.val l] w (CPost d w) :=
 (l3copy_far d l w hs ha).mono fun _ _ ⟨lb, lw, ba, bc, wa, wc, he, h1, h2, h3, h4, _, h6⟩ => ⟨lb, lw, ba, bc, wa, wc, he, h1, h2, h3, h4, h6⟩
def keepAll (_ : Nat) : Bool := true
theorem syncKeeps_any (j : Nat) (w : World) : Calls Tryz.prog 132 #[.int .i64 j] w fun e w' => e = .returned (.bool (keepAll j)) ∧ Below w.heap.size w w' := by
 go_enter Tryz.func132, Tryz.ntmps132
 go_wp2
 go_ret
 exact ⟨rfl, gre _⟩
def BoolsAt (w : World) (a : Option Addr) (ks : List Bool) : Prop := ∀ i, i < ks.length → ∃ b off, a = some ⟨b, off, none⟩ ∧ w.cell? ⟨b, off + i, none⟩ = some (.bool ks[i]!)
theorem BoolsAt.grow {w w' : World} {a : Option Addr} {ks : List Bool} (h : BoolsAt w a ks) (hb : Below w.heap.size w w') : BoolsAt w' a ks := fun i hi => by
 obtain ⟨b, off, ha, hc⟩ := h i hi
 exact ⟨b, off, ha, cell_later hb hc⟩
def keepOf (ks : List Bool) (i : Nat) : Bool := decide (i < ks.length) && ks[i]!
theorem powerSyncK_any (p : Nat) (bl : List (List Nat)) (pa : Option Addr) (pc : Nat) (ws : List DW) (w : World) (hw : ws.length ≤ 201) (hwb : ∀ x, x ∈ ws → 0 ≤ x.block ∧ x.block < 130) (h : Dr w p bl pa pc ws (.func (.func 132) #[] #[])) :
  Calls Tryz.prog 56 #[.pointer (some ⟨p, 0, none⟩)] w fun e w' => e = .returned (.tuple #[]) ∧ Dr w' p (settleN keepAll bl ws ws.length) none 0 [] (.func (.func 132) #[] #[]) ∧ Kept (fun z => z = p) w w' := by
 have hz65 := (zero_of_info zero_pending).1
 have x0 := h.d.ws
 have hpl0 := h.d.lt
 go_enter Tryz.func56, Tryz.ntmps56
 go_wp2
 go_loopw [9] (fun i wr => ∃ k : Nat, k ≤ ws.length ∧ i = .int .i64 k ∧ Dr wr p (settleN keepAll bl ws k) pa pc ws (.func (.func 132) #[] #[]) ∧ Kept (fun z => z = p) w wr) (fun i _ => ws.length - (intOf i).toNat)
 case atStart => exact ⟨0, Nat.zero_le _, rfl, h, Kept.refl _ _⟩
 case round =>
  obtain ⟨k, hk, rfl, hD, hb⟩ := hrel
  clear x0
  by_cases hlt : k < ws.length
  ·
   obtain ⟨g, rfl, hg1, hgl, hrg⟩ := owns_pend hD.own hD.w64 hlt
   obtain ⟨n, hn⟩ := hid_ex ws[k]!
   rw [← hn.out] at hrg
   have hnm : n ∈ ws := by rw [hn.out]; exact mem_at hlt
   have hn64 : Hid (n.bytes.length = 64) := h.w64 _ hnm
   have hpl : n.pc.length = 65 := pc_length hn64.out
   have hbl64 : (bcells n.bytes).length = 64 := by rw [bcells_length]; exact hn64.out
   obtain ⟨hn0, hn1⟩ := hwb n hnm
   obtain ⟨m, hm⟩ : ∃ m : Nat, n.block = (m : Int) := ⟨n.block.toNat, by omega⟩
   have i0 : (0 : Int) ≤ (k : Int) := by omega
   have i1 : (k : Int) < (ws.length : Int) := by omega
   go_upto_region 3 with (first
    | (refine wpList_load_mid rfl 160 _ rfl g (k * 65) rfl n.pc _ hrg Tryz.underlying160 rfl (by rw [size_pending, hpl]) ?_)
    | (refine wpList_alloc_big rfl 160 rfl _ hz65 ?_)
    | (refine wpList_store_new rfl 160 _ _ rfl _ n.pc.toArray rfl rfl (by rw [size_pending]; simp [hpl]) (by simp [zeros, hpl]) (all_oneCell_toArray pc_one) ?_))
   have hDA := hD.grow (gal (gre wr) (.cells n.pc.toArray 160))
   have hbA : Kept (fun z => z = p) w (wr.alloc (.cells n.pc.toArray 160)) := hb.alloc _
   have hrn := range_new wr n.pc 160
   have hr1 : (wr.alloc (.cells n.pc.toArray 160)).rangeAt wr.heap.size 1 (bcells n.bytes) := range_drop (cs := [.int .i64 n.block]) hrn
   have hq1 : (wr.alloc (.cells n.pc.toArray 160)).cell? ⟨wr.heap.size, 0, none⟩ = some (.int .i64 (m : Int)) := by rw [← hm]; exact hrn 0 _ rfl
   have hsC : (wr.alloc (.cells n.pc.toArray 160)).heap.size = wr.heap.size + 1 := by simp
   generalize wr.alloc (.cells n.pc.toArray 160) = wC at hDA hbA hr1 hq1 hsC ⊢
   clear hrn hrg
   generalize wr.heap.size = Q at hr1 hq1 hsC hgl ⊢
   have kf := hDA.d.kf
   have hm130 : m < 130 := by omega
   have j0 : (0 : Int) ≤ (m : Int) := by omega
   have j1 : (m : Int) < 130 := by omega
   have hmt : n.block.toNat = m := by omega
   have hmt' : Hid _ := hmt
   have hm' : Hid _ := hm
   have hn0' : Hid _ := hn0
   have hn1' : Hid _ := hn1
   clear hmt hm hn0 hn1
   cases hkp : keepAll k with
   | true =>
    have hkp' : Hid _ := hkp
    have hst : Hid (settleN keepAll bl ws (k + 1) = setB (settleN keepAll bl ws k) n) := by show _ = _; simp only [settleN]; rw [if_pos hkp, ← hn.out]
    clear hkp
    go_upto_region 4 with (go_at_call 132; refine (syncKeeps_any k _).mono ?_; rintro e w2 ⟨rfl, hb2⟩; obtain ⟨hD2, hb2A, hq2, hr2⟩ : Dr w2 p (settleN keepAll bl ws k) (some ⟨g, 0, none⟩) pc ws (.func (.func 132) #[] #[]) ∧ Kept (fun z => z = p) w w2 ∧ w2.cell? ⟨Q, 0, none⟩ = some (.int .i64 (m : Int)) ∧ w2.rangeAt Q 1 (bcells n.bytes) := ⟨hDA.grow hb2, hbA.trans (Kept.of_below hb2 (fun z => z = p)) (fun _ _ e => e), cell_later hb2 hq1, range_grow hr1 hb2⟩; rw [hkp'.out])
    refine wp_regionU (fun u => u.cell? ⟨Q, 0, none⟩ = some (.int .i64 (m : Int)) ∧ u.rangeAt Q 1 (bcells n.bytes)) 8 (by kernel_rfl) ⟨hq2, hr2⟩ (fun hS0 => ?_)
    refine anyU_tk (i := 0) rfl hS0 (fun u hSu => by obtain ⟨s0, s1⟩ := hSu; go_simp <;> with_reducible rfl) ?_
    refine anyU_tk (i := 1) rfl hS0 (fun u hSu => by obtain ⟨s0, s1⟩ := hSu; go_simp <;> with_reducible rfl) ?_
    refine anyU_tk (i := 2) rfl hS0 (fun u hSu => by obtain ⟨s0, s1⟩ := hSu; go_simp <;> with_reducible rfl) ?_
    refine anyU_tk (i := 3) rfl hS0 (fun u hSu => by obtain ⟨s0, s1⟩ := hSu; go_simp <;> with_reducible rfl) ?_
    simp only [Act.put, List.getElem_toArray, List.getElem_cons_zero, List.getElem_cons_succ, List.setIfInBounds_toArray, List.set_cons_zero, List.set_cons_succ]
    refine anyU_take (i := 4) rfl (by kernel_rfl) (by kernel_rfl) (by kernel_rfl) (by kernel_rfl) (fun _ _ _ h => h) (yieldsIf_load_mid (by rfl) 106 (.tmp 23) rfl Q 1 (by rfl) (bcells n.bytes) _ (fun _ hS => hS.2) Tryz.underlying106 rfl (by rw [size_content, hbl64])) hS0 ?_
    simp only [Act.put, List.getElem_toArray, List.getElem_cons_zero, List.getElem_cons_succ, List.setIfInBounds_toArray, List.set_cons_zero, List.set_cons_succ]
    obtain ⟨s0, s1⟩ := id hS0
    refine anyU_one (i := 5) (by kernel_rfl) rfl (fun K hK => ?_)
    go_simp
    refine hK.out _ _ hS0 ?_
    clear hK
    refine anyU_one (i := 6) (by kernel_rfl) rfl (fun K hK => ?_)
    go_simp
    refine hK.out _ _ hS0 ?_
    clear hK
    refine anyU_one (i := 7) (by kernel_rfl) rfl (fun K hK => ?_)
    go_simp
    refine hK.out _ _ hS0 ?_
    clear hK
    refine anyU_last (by kernel_rfl) rfl (by kernel_rfl) (fun K hK => ?_)
    rw [if_pos (by rfl)]
    refine wp_store_mid 106 (.tmp 27) (.tmp 24) rfl p (m * 64) (bcells n.bytes).toArray (by rfl) (by rfl) (by rw [List.size_toArray, hbl64]; exact there_part (hD2.d.grow (gdr (gre w2))).th (Nat.zero_le _) (by omega)) (by rw [size_content, List.size_toArray, hbl64]) (all_oneCell_toArray cells_u8) ?_
    refine hK.out _ _ ?_
    clear hK
    simp only [Act.put, List.getElem_toArray, List.getElem_cons_zero, List.getElem_cons_succ]
    have hfin := (hD2.d.grow (gdr (gre w2))).setB (x := n) hn0'.out hn1'.out hn64.out
    rw [hmt'.out, ← hst.out] at hfin
    have hKs := Kept.setCells (p := fun z => z = p) (bcells n.bytes) (m * 64) (Kept.refl _ w2.drew) (fun _ => rfl)
    go_wp2
    go_roundw
    case rel => exact ⟨k + 1, by omega, by go_num, ⟨hfin, hKs.owns (hD2.grow (gdr (gre w2))).own (fun z hz e => by have := (hD2.own.lt z hz).1; omega), h.w64⟩, hb2A.drew.trans hKs (fun _ _ e => e)⟩
    case measure => simp [intOf]; omega
   | false =>
    have hkp' : Hid _ := hkp
    have hst : Hid (settleN keepAll bl ws (k + 1) = settleN keepAll bl ws k) := by show _ = _; simp only [settleN]; rw [if_neg (by rw [hkp]; exact Bool.false_ne_true)]
    clear hkp
    go_wp2_with (go_at_call 132; refine (syncKeeps_any k _).mono ?_; rintro e w2 ⟨rfl, hb2⟩; rw [hkp'.out])
    go_roundw
    case rel => exact ⟨k + 1, by omega, by go_num, by rw [hst.out]; exact hDA.grow hb2, hbA.trans (Kept.of_below hb2 (fun z => z = p)) (fun _ _ e => e)⟩
    case measure => simp [intOf]; omega
  ·
   obtain rfl : k = ws.length := by omega
   have x0 := hD.d.ws
   have xf := hD.d.frozen (o := 8320) (by decide)
   have hfin := hD.d.setW (.slice none 0 0)
   go_wp2
   first | go_end0 | refine bodyPost_ret (results_none rfl _ _ _) rfl ?_
   exact ⟨rfl, ⟨hfin, owns_none _ _ _ _, fun x hx => (by cases hx)⟩, hb.trans (Kept.one wr p 8320 _) (fun _ _ e => e)⟩
theorem owns_at {w : World} {base e n cap g : Nat} {xs : List Value} (h : w.ownsRow base e 1 (.slice (some ⟨g, 0, none⟩) n cap) n xs) {j : Nat} (hj : j < n) : (∃ v, w.cell? ⟨g, j, none⟩ = some v) ∧ ∀ o, w.frozen? ⟨g, o, none⟩ = false := by
 rcases h.2 with ⟨e0, _⟩ | ⟨g', cap', cur, hv, hb, hg, h1, h2, h3, h4⟩
 · simp at e0
 ·
  simp only [Value.slice.injEq] at hv
  obtain ⟨e1, _, rfl⟩ := hv
  obtain rfl := some_addr e1
  refine ⟨⟨cur[j]'(by omega), ?_⟩, fun o => ?_⟩
  · simp [World.cell?, hg, show j < cur.size by omega]
  · simp [World.frozen?, hg]
theorem owns_set {w : World} {base e n cap g : Nat} {xs : List Value} (h : w.ownsRow base e 1 (.slice (some ⟨g, 0, none⟩) n cap) n xs) (j : Nat) (v : Value) : (w.setCell ⟨g, j, none⟩ v).ownsRow base e 1 (.slice (some ⟨g, 0, none⟩) n cap) n (xs.set j v) := by
 refine ⟨by rw [List.length_set]; exact h.1, ?_⟩
 rcases h.2 with ⟨e0, _⟩ | ⟨g', cap', cur, hv, hb, hg, h1, h2, h3, h4⟩
 · simp at e0
 ·
  simp only [Value.slice.injEq] at hv
  obtain ⟨e1, _, rfl⟩ := hv
  obtain rfl := some_addr e1
  refine Or.inr ⟨g, cap, cur.setIfInBounds j v, rfl, hb, by simp [World.setCell, Array.getElem?_modify, hg], h1, h2, by rw [Array.size_setIfInBounds]; exact h3, ?_⟩
  rw [Array.toList_setIfInBounds, List.take_set, h4]
theorem SB.setAt {base : Nat} {w : World} {g bc : Nat} {lb : List LB} (h : SB base w (some ⟨g, 0, none⟩) bc lb) {y : LB} {j : Nat} (_hj : j < lb.length) (hy : w.ownsRow base 5 1 (.slice y.a y.l.length y.cap) y.l.length (bcells y.l)) : SB base (w.setCell ⟨g, j, none⟩ y.v) (some ⟨g, 0, none⟩) bc (lb.set j y) := by
 have hb : ∀ {x : LB}, w.ownsRow base 5 1 (.slice x.a x.l.length x.cap) x.l.length (bcells x.l) → (w.setCell ⟨g, j, none⟩ y.v).ownsRow base 5 1 (.slice x.a x.l.length x.cap) x.l.length (bcells x.l) := fun hx => (Kept.one w g j y.v).owns hx (fun z hz e => by subst e; exact not_B_of_S (owns_isS h.own (z := z) rfl).1 (owns_isB hx hz).1)
 refine ⟨by rw [List.length_set, List.map_set]; exact owns_set h.own j y.v, fun x hx => ?_⟩
 rcases List.mem_or_eq_of_mem_set hx with e | e
 · exact hb (h.byt x e)
 · subst e; exact hb hy
theorem settleN_congr {keep keep' : Nat → Bool} (bl : List (List Nat)) (ws : List DW) : ∀ j, (∀ i, i < j → keep i = keep' i) → settleN keep bl ws j = settleN keep' bl ws j
 | 0, _ => rfl
 | j + 1, h => by
  simp only [settleN]
  rw [h j (by omega), settleN_congr bl ws j (fun i hi => h i (by omega))]
def SSInv (w wr : World) (d : DD) (ks : List Bool) (base g bc R V k : Nat) : Prop := ∃ lb : List LB, Hid (lb.length = 130) ∧ Hid (lb.map (·.l) = settleN (keepOf ks) d.blocks d.waiting k) ∧ SB base wr (some ⟨g, 0, none⟩) bc lb ∧ VB wr V (.slice (some ⟨g, 0, none⟩) lb.length bc) (.slice none 0 0) ∧ VB wr R (.slice none 0 0) (.slice none 0 0) ∧ Below w.heap.size w wr
theorem l3settle_any (d : DD) (l : DL) (ka : Option Addr) (ks : List Bool) (kc : Nat) (w : World) (hd : d.Fit) (ha : DAt w l d) (hkl : ks.length ≤ maxLen) (hk0 : BoolsAt w ka ks) : Calls Tryz.prog 71 #[d.val l, .slice ka ks.length kc] w (CPost ⟨settleN (keepOf ks) d.blocks d.waiting d.waiting.length, []⟩ w) := by
 have hs : d.Small := ⟨by have := hd.bl; omega, fun b hb => by have := hd.bb b hb; omega, by have := hd.wl; omega, fun x hx => by have := (hd.wb x hx).2.2; omega⟩
 unfold maxLen at hkl
 have hw0 := gal (gre w) (.cells #[.slice l.ba d.blocks.length l.bc, .slice l.wa d.waiting.length l.wc] 46)
 have hX0 := DBox.new w d l 46
 have hs0 : (w.alloc (.cells #[.slice l.ba d.blocks.length l.bc, .slice l.wa d.waiting.length l.wc] 46)).heap.size = w.heap.size + 1 := by simp
 go_enter Tryz.func71, Tryz.ntmps71
 go_upto_region 1 with fail
 generalize hXe0 : w.heap.size = X0 at hX0 hs0 hw0 ⊢
 generalize w.alloc (.cells #[.slice l.ba d.blocks.length l.bc, .slice l.wa d.waiting.length l.wc] 46) = w0 at hw0 hX0 hs0 ⊢
 have hw1 := gal (gre w0) (.cells #[.slice none 0 0, .slice none 0 0] 46)
 have hR := VB.new_at w0 (.slice none 0 0) (.slice none 0 0) 46 (X0 + 1) hs0.symm
 have hX := hX0.grow hw1
 have hs1 : (w0.alloc (.cells #[.slice none 0 0, .slice none 0 0] 46)).heap.size = X0 + 1 + 1 := by simp [hs0]
 generalize w0.alloc (.cells #[.slice none 0 0, .slice none 0 0] 46) = wA at hw1 hR hX hs1 ⊢
 have hwA : Below w.heap.size w wA := by rw [← hXe0] at hw0; exact gca hw0 hw1
 have hXe : Hid (X0 = w.heap.size) := hXe0.symm
 obtain ⟨R, hRe⟩ := hid_ex (X0 + 1)
 rw [← hRe.out] at hR ⊢
 have x0 := hX.c0
 have x1 := hX.c1
 have haA := ha.grow hwA
 clear hX0 hw0 hs0 hw1
 go_upto_region 3 with (go_at_call 68; refine (l3copy_any d l _ hs haA).mono ?_; rintro e w2 ⟨lb0, lw0, ba, bc, wa0, wc0, rfl, hlb0, hlw0, hL0, hW0, hb2⟩)
 have hlen0 : lb0.length = 130 := by rw [← hd.bl, ← hlb0]; simp
 obtain ⟨g, rfl⟩ : ∃ g, ba = some ⟨g, 0, none⟩ := by
  obtain ⟨g, c, e, _⟩ := hL0.own.form (by omega)
  simp only [Value.slice.injEq] at e
  exact ⟨g, e.1⟩
 have hgl := (hL0.own.lt g rfl).2
 have hgb := (hL0.own.lt g rfl).1
 have hA3 := gal (gre w2) (.cells #[.slice (some ⟨g, 0, none⟩) d.blocks.length bc, .slice none 0 0] 46)
 have hV0 := VB.new w2 (.slice (some ⟨g, 0, none⟩) d.blocks.length bc) (.slice none 0 0) 46
 have hb3 := gca hb2 hA3
 have hX3 := hX.grow hb3
 have hI0 : SSInv w (w2.alloc (.cells #[.slice (some ⟨g, 0, none⟩) d.blocks.length bc, .slice none 0 0] 46)) d ks (X0 + 1 + 1) g bc R w2.heap.size 0 :=
  ⟨lb0, hlen0, hlb0, by rw [← hs1]; exact hL0.grow hA3, by rw [hlen0, ← hd.bl]; exact hV0, hR.grow hb3, hwA.trans (hb3.mono hwA.size)⟩
 generalize w2.alloc (.cells #[.slice (some ⟨g, 0, none⟩) d.blocks.length bc, .slice none 0 0] 46) = w3 at hA3 hV0 hb3 hX3 hI0 ⊢
 generalize w2.heap.size = V at hI0 hgl ⊢
 obtain ⟨base, hbe⟩ := hid_ex (X0 + 1 + 1)
 rw [← hbe.out] at hI0
 rw [hs1, ← hbe.out] at hgb
 have y1 := hX3.c1
 clear hV0 hL0 hW0 hb2 hA3 hb3 hX3 x0 x1 hX hR haA hwA hlb0 hlw0 hlen0 hs1
 go_wp2
 go_loopw [14] (fun i wr => ∃ k : Nat, k ≤ d.waiting.length ∧ i = .int .i64 k ∧ SSInv w wr d ks base g bc R V k) (fun i _ => d.waiting.length - (intOf i).toNat)
 case atStart => exact ⟨0, Nat.zero_le _, rfl, hI0⟩
 case round =>
  obtain ⟨k, hk, rfl, lb, hll, hlm, hL, hV, hR, hb⟩ := hrel
  clear hI0 y1
  by_cases hlt : k < d.waiting.length
  ·
   obtain ⟨n, b, off, av, cv, hvk, hvm, hba, c0, c1, hva⟩ := (ha.w.grow hb).get hlt
   rw [hba]
   have i0 : (0 : Int) ≤ (k : Int) := by omega
   have i1 : (k : Int) < (d.waiting.length : Int) := by omega
   have hwl := hd.wl
   obtain ⟨hn0, hn1, hn64'⟩ := hd.wb n hvm
   have hn64 : Hid _ := hn64'
   clear hn64'
   obtain ⟨m, hm⟩ : ∃ m : Nat, n.block = (m : Int) := ⟨n.block.toNat, by omega⟩
   rw [hm] at c0
   go_upto_region 6 with fail
   have hAl := gal (gre wr) (.cells #[.int .i64 (m : Int), .slice av n.bytes.length cv] 125)
   have hLA := hL.grow hAl
   have hVA := hV.grow hAl
   have hRA := hR.grow hAl
   have hbA := gal hb (.cells #[.int .i64 (m : Int), .slice av n.bytes.length cv] 125)
   have hvaA := hva.grow hAl
   have hkA := hk0.grow hbA
   have q0 : (wr.alloc (.cells #[.int .i64 (m : Int), .slice av n.bytes.length cv] 125)).cell? ⟨wr.heap.size, 0, none⟩ = some (.int .i64 (m : Int)) := by simp
   have q1 : (wr.alloc (.cells #[.int .i64 (m : Int), .slice av n.bytes.length cv] 125)).cell? ⟨wr.heap.size, 1, none⟩ = some (.slice av n.bytes.length cv) := by simp
   have hsC : (wr.alloc (.cells #[.int .i64 (m : Int), .slice av n.bytes.length cv] 125)).heap.size = wr.heap.size + 1 := by simp
   generalize wr.alloc (.cells #[.int .i64 (m : Int), .slice av n.bytes.length cv] 125) = wC at hAl hLA hVA hRA hbA hvaA hkA q0 q1 hsC ⊢
   generalize hQ : wr.heap.size = Q at q0 q1 hsC ⊢
   have hm130 : m < 130 := by omega
   have j0 : (0 : Int) ≤ (m : Int) := by omega
   have j1 : (m : Int) < (lb.length : Int) := by have := hll.out; omega
   have hmt' : Hid (n.block.toNat = m) := by show _ = _; omega
   have hm' : Hid _ := hm
   clear hva hL hV hR hb c0 c1 hAl hm hn0 hn1
   have hll' := hll.out
   have hSk : ∀ (u u' : World), Below u.heap.size u u' → (u.cell? ⟨V, 0, none⟩ = some (.slice (some ⟨g, 0, none⟩) lb.length bc) ∧ u.cell? ⟨Q, 0, none⟩ = some (.int .i64 (m : Int)) ∧ u.cell? ⟨Q, 1, none⟩ = some (.slice av n.bytes.length cv)) → (u'.cell? ⟨V, 0, none⟩ = some (.slice (some ⟨g, 0, none⟩) lb.length bc) ∧ u'.cell? ⟨Q, 0, none⟩ = some (.int .i64 (m : Int)) ∧ u'.cell? ⟨Q, 1, none⟩ = some (.slice av n.bytes.length cv)) := fun u u' hb h => ⟨cell_later hb h.1, cell_later hb h.2.1, cell_later hb h.2.2⟩
   have hll2 : Hid _ := hll'
   clear hll'
   by_cases hkk : k < ks.length
   ·
    obtain ⟨kb, ko, rfl, hkc⟩ := hkA k hkk
    have l1 : (k : Int) < (ks.length : Int) := by omega
    cases hx : ks[k]! with
    | true =>
     rw [hx] at hkc
     have hst : Hid (settleN (keepOf ks) d.blocks d.waiting (k + 1) = setB (settleN (keepOf ks) d.blocks d.waiting k) n) := by show _ = _; simp only [settleN]; rw [if_pos (by simp only [keepOf, hx, hkk, decide_true, Bool.and_self]), ← hvk.out]
     clear hx
     go_upto_region 7 with fail
     refine wp_regionU (fun u => u.cell? ⟨V, 0, none⟩ = some (.slice (some ⟨g, 0, none⟩) lb.length bc) ∧ u.cell? ⟨Q, 0, none⟩ = some (.int .i64 (m : Int)) ∧ u.cell? ⟨Q, 1, none⟩ = some (.slice av n.bytes.length cv)) 8 (by kernel_rfl) ⟨(hVA.grow (gdr (gre wC))).v0, q0, q1⟩ (fun hS0 => ?_)
     have hLd := hLA.grow (gdr (gre wC))
     have hVd := hVA.grow (gdr (gre wC))
     have hRd := hRA.grow (gdr (gre wC))
     have hbd := gdr hbA
     have hvd := hvaA.grow (gdr (gre wC))
     generalize wC.drew = wd at hLd hVd hRd hbd hvd hS0 ⊢
     refine anyU_tk (i := 0) rfl hS0 (fun u hSu => by obtain ⟨s0, s1, s2⟩ := hSu; go_simp <;> with_reducible rfl) ?_
     refine anyU_tk (i := 1) rfl hS0 (fun u hSu => by obtain ⟨s0, s1, s2⟩ := hSu; go_simp <;> with_reducible rfl) ?_
     refine anyU_tk (i := 2) rfl hS0 (fun u hSu => by obtain ⟨s0, s1, s2⟩ := hSu; go_simp <;> with_reducible rfl) ?_
     refine anyU_tk (i := 3) rfl hS0 (fun u hSu => by obtain ⟨s0, s1, s2⟩ := hSu; go_simp <;> with_reducible rfl) ?_
     refine anyU_tk (i := 4) rfl hS0 (fun u hSu => by obtain ⟨s0, s1, s2⟩ := hSu; go_simp <;> with_reducible rfl) ?_
     refine anyU_tk (i := 5) rfl hS0 (fun u hSu => by obtain ⟨s0, s1, s2⟩ := hSu; go_simp <;> with_reducible rfl) ?_
     simp only [Act.put, List.getElem_toArray, List.getElem_cons_zero, List.getElem_cons_succ, List.setIfInBounds_toArray, List.set_cons_zero, List.set_cons_succ]
     refine anyU_one (i := 6) (by kernel_rfl) rfl (fun K hK => ?_)
     go_simp
     refine (l2copy_any av n.bytes cv _ (hs.wb n hvm) hvd).mono ?_
     rintro e w1 ⟨oa, oc, rfl, hoy, hB1⟩
     have hS1 := hSk _ _ hB1 hS0
     refine hK.out _ _ hS1 ?_
     clear hK
     have hL1 := hLd.grow hB1
     have hV1 := hVd.grow hB1
     have hR1 := hRd.grow hB1
     have hbel1 := gca hbd hB1
     have hy : w1.ownsRow base 5 1 (.slice oa n.bytes.length oc) n.bytes.length (bcells n.bytes) := owns_le hoy (by have := hVd.lt; omega)
     refine anyU_one (i := 7) (by kernel_rfl) rfl (fun K hK => ?_)
     go_simp
     refine hK.out _ _ hS1 ?_
     clear hK
     obtain ⟨⟨rv, rc⟩, rf⟩ := owns_at hL1.own (j := m) (by have := hll2.out; omega)
     refine anyU_last (by kernel_rfl) rfl (by kernel_rfl) (fun K hK => ?_)
     go_simp
     refine hK.out _ _ ?_
     clear hK
     have hL2 := hL1.setAt (y := ⟨n.bytes, oa, oc⟩) (j := m) (by have := hll2.out; omega) hy
     have hKs := Kept.one w1 g m (.slice oa n.bytes.length oc)
     have hV2 := hV1.kept hKs (by have := hll2.out; omega)
     have hR2 := hR1.kept hKs (by have := hRe.out; have := hbe.out; have hgb := (owns_isS hL1.own (z := g) rfl).2; omega)
     have hbel2 := hbel1.trans (hKs.below (B := w.heap.size) hbel1.size (fun z hz e => by have hgb := (owns_isS hL1.own (z := g) rfl).2; have := hXe.out; have := hbe.out; omega))
     go_wp2
     go_roundw
     case rel => exact ⟨k + 1, by omega, by go_num, lb.set m ⟨n.bytes, oa, oc⟩, by show _ = _; rw [List.length_set]; exact hll.out, by show _ = _; rw [hst.out, List.map_set, hlm.out, setB, hmt'.out], hL2, by rw [List.length_set]; exact hV2, hR2, hbel2⟩
     case measure => simp [intOf]; omega
    | false =>
     rw [hx] at hkc
     have hst : Hid (settleN (keepOf ks) d.blocks d.waiting (k + 1) = settleN (keepOf ks) d.blocks d.waiting k) := by show _ = _; simp only [settleN]; rw [if_neg (by simp [keepOf, hx])]
     clear hx
     go_wp2
     go_roundw
     case rel => exact ⟨k + 1, by omega, by go_num, lb, hll, by show _ = _; rw [hst.out]; exact hlm.out, hLA, hVA, hRA, hbA⟩
     case measure => simp [intOf]; omega
   ·
    have l1 : ¬ ((k : Int) < (ks.length : Int)) := by omega
    have hst : Hid (settleN (keepOf ks) d.blocks d.waiting (k + 1) = settleN (keepOf ks) d.blocks d.waiting k) := by show _ = _; simp only [settleN]; rw [if_neg (by simp [keepOf, hkk])]
    go_wp2
    go_roundw
    case rel => exact ⟨k + 1, by omega, by go_num, lb, hll, by show _ = _; rw [hst.out]; exact hlm.out, hLA, hVA, hRA, hbA⟩
    case measure => simp [intOf]; omega
  ·
   obtain rfl : k = d.waiting.length := by omega
   have y0 := hV.v0
   have y1 := hV.v1
   have z0 := hR.v0
   have z1 := hR.v1
   have zf := hR.vf
   obtain ⟨c0, c1, K⟩ := ret2 (A := .slice (some ⟨g, 0, none⟩) lb.length bc) (B := .slice none 0 0) z0 z1
   have hRb : R < base := by have := hbe.out; have := hRe.out; omega
   have hfL := ((hL.set (V := R) hRb 0 (.slice (some ⟨g, 0, none⟩) lb.length bc)).set (V := R) hRb 1 (.slice none 0 0)).le (base' := w.heap.size) (by have := hbe.out; have := hXe.out; omega)
   have hbel := hb.trans (K.below hb.size (fun z hz e => by have := hRe.out; have := hXe.out; omega))
   have hlen2 : Hid ((settleN (keepOf ks) d.blocks d.waiting d.waiting.length).length = lb.length) := by show _ = _; rw [settleN_length, hd.bl, hll.out]
   clear K hRb
   go_wp2
   refine bodyPost_ret (v := .agg #[.slice (some ⟨g, 0, none⟩) lb.length bc, .slice none 0 0]) (by simp [results, Tryz.results71, go_sem, c0, c1]) rfl ⟨lb, [], some ⟨g, 0, none⟩, bc, none, 0, by rw [DD.val, hlen2.out]; rfl, hlm.out, rfl, hfL, SW.nil _ _, hbel⟩
theorem info_bool : (Tryz.prog.info? 4).map (fun i => (i.zero, i.size, i.bytes)) = some (some (.bool false), 1, 1) := by kernel_rfl
theorem l3all_any (n : Nat) (w : World) (hn : n ≤ 1048576) :
  Calls Tryz.prog 139 #[.int .i64 n] w fun e w' => ∃ b, e = .returned (.slice (some ⟨b, 0, none⟩) n n) ∧ BoolsAt w' (some ⟨b, 0, none⟩) (List.replicate n true) ∧ Below w.heap.size w w' := by
 obtain ⟨i0, hi, hz0, hz1, hz2⟩ := info_parts info_bool
 have hmk : ∀ u : World, (Instr.makeSlice 39 (.int .i64 (n : Int)) (.int .i64 (n : Int))).run Tryz.prog u =
   .ok (.slice (some ⟨u.heap.size, 0, none⟩) n n) (u.alloc (.cells (madeCells #[.bool false] n) 4)) := fun u => by
  have h := run_make (P := Tryz.prog) u 39 4 i0 _ Tryz.underlying39 hi hz0 .i64 .i64 (n : Int) (n : Int) (by omega) (Int.le_refl _) (by rw [hz2]; omega) (by omega)
  simpa [hz1, Value.cells] using h
 go_enter Tryz.func139, Tryz.ntmps139
 go_wp2
 go_loopw [9] (fun i wr => ∃ (k : Nat) (f : Nat → Value), k ≤ n ∧ i = .int .i64 k ∧ wr.rowIs w.heap.size 4 n f ∧ (∀ j, j < k → f j = .bool true) ∧ Below w.heap.size w wr) (fun i _ => n - (intOf i).toNat)
 case atStart => exact ⟨0, _, Nat.zero_le _, rfl, rowIs_made_any _ _ _ _, fun i hi => absurd hi (Nat.not_lt_zero _), (Below.refl _ _).alloc (Nat.le_refl _) _⟩
 case round =>
  obtain ⟨k, f, hk, rfl, hrow, hin, hb⟩ := hrel
  by_cases hlt : k < n
  ·
   have d0 := hrow.cell hlt
   have f0 := hrow.frozen
   have i0' : (0 : Int) ≤ (k : Int) := by omega
   have i1 : (k : Int) < (n : Int) := by omega
   go_wp2
   go_roundw
   case rel =>
    refine ⟨k + 1, _, by omega, by go_num, hrow.set _ _, fun j hj => ?_, hb.setCell (Nat.le_refl _) _⟩
    show (if j = k then _ else _) = _
    split
    · rfl
    · exact hin j (by omega)
   case measure => simp [intOf]; omega
  ·
   obtain rfl : k = n := by omega
   go_wp2
   go_ret
   refine ⟨_, rfl, fun i hi => ⟨_, 0, rfl, ?_⟩, hb⟩
   have hi' : i < k := by simpa using hi
   rw [Nat.zero_add, getElem!_pos _ i hi, List.getElem_replicate, ← hin i hi']
   exact hrow.cell hi'
theorem keepOf_all {n i : Nat} (h : i < n) : keepOf (List.replicate n true) i = keepAll i := by
 simp [keepOf, keepAll, h]
theorem settle_yes {d : DD} (h : d.ok = true) (keep : Nat → Bool) : d.settle keep = ⟨settleN keep d.blocks d.waiting d.waiting.length, []⟩ := if_pos h
theorem settle_no {d : DD} (h : d.ok = false) (keep : Nat → Bool) : d.settle keep = zeroD := if_neg (by rw [h]; exact Bool.false_ne_true)
def masksF (bs : List Nat) (k : Nat) : Nat → List Bool × Nat
 | 0 => ([], k)
 | i + 1 => ((masksF bs k i).1 ++ [((pickV bs (masksF bs k i).2 2 : Int) == 0)], pickA (masksF bs k i).2 2)
def maskF (bs : List Nat) (k : Nat) : List Bool × Nat := masksF bs (pickA k 70) (pickV bs k 70)
def kcells (ks : List Bool) : List Value := ks.map Value.bool
theorem kcells_snoc (ks : List Bool) (k : Bool) : kcells (ks ++ [k]) = kcells ks ++ [.bool k] := by simp [kcells]
def MaskS (w : World) (b : Nat) (sa : Option Addr) (bs : List Nat) (cap at_ : Nat) (e : Ending) (w' : World) : Prop :=
 ∃ (oa : Option Addr) (c : Nat) (ks : List Bool) (at' : Nat), Hid ((ks, at') = maskF bs at_) ∧ ks.length ≤ 70 ∧ at' ≤ at_ + 142 ∧ e = .returned (.slice oa ks.length c) ∧ w'.ownsRow w.heap.size 4 1 (.slice oa ks.length c) ks.length (kcells ks) ∧ DSK w w' b sa bs cap at'
theorem kcells_at {w : World} {base t cap : Nat} {a : Option Addr} {ks : List Bool} (h : w.ownsRow base t 1 (.slice a ks.length cap) ks.length (kcells ks)) : BoolsAt w a ks := fun i hi => by
 obtain ⟨g, ha, _, _, hc⟩ := owns_cell h (show (kcells ks)[i]? = some (.bool ks[i]!) by rw [getElem!_pos ks i hi]; simp [kcells, hi])
 exact ⟨g, 0, ha, by rw [Nat.zero_add]; exact hc⟩
theorem f6mask_any (b : Nat) (sa : Option Addr) (bs : List Nat) (cap at_ : Nat) (w : World) (hc : DS w b sa bs cap at_) (hat : at_ + 200 < 4611686018427387904) :
  Calls Tryz.prog 60 #[.pointer (some ⟨b, 0, none⟩)] w (MaskS w b sa bs cap at_) := by
 obtain ⟨i0, hi, hz0, hz1, hz2⟩ := info_parts info_bool
 have hbl := hc.dc.lt
 have hsl := hc.dc.sl
 go_enter Tryz.func60, Tryz.ntmps60
 go_wp2_with (go_at_call_of 37 ((70 : Int)); refine (f6pick_of b sa bs cap at_ 70 70 _ rfl hc (by omega) (by omega) (by omega)).mono ?_; rintro e w1 ⟨n, at1, hnE, haE, hn, ha1, rfl, hk1⟩)
 go_loopw [3, 4] (fun o i wr => ∃ (j at' : Nat) (oa : Option Addr) (c : Nat) (ks : List Bool), j ≤ n ∧ i = .int .i64 (j : Int) ∧ o = .slice oa ks.length c ∧ Hid ((ks, at') = masksF bs at1 ks.length) ∧ Hid (ks.length + j = n) ∧ at' ≤ at1 + 2 * (n - j) ∧ wr.ownsRow w.heap.size 4 1 (.slice oa ks.length c) ks.length (kcells ks) ∧ DSK w wr b sa bs cap at') (fun _ i _ => (intOf i).toNat)
 case atStart => exact ⟨n, at1, none, 0, [], Nat.le_refl _, rfl, rfl, rfl, by show 0 + n = n; omega, by omega, owns_none _ _ _ _, hk1⟩
 case round =>
  obtain ⟨j, at2, oa, c, ks, hj, rfl, rfl, hksE, hkl, ha2, hO, hd⟩ := hrel
  by_cases hlt : 0 < j
  ·
   have hjl : (0 : Int) < (j : Int) := by omega
   have hksl : ks.length ≤ 70 := by have := hkl.out; omega
   have hwr := hd.kept.size
   go_wp2_with (first
    | (go_at_call_of 37 ((2 : Int)); refine (f6pick_of b sa bs cap at2 2 2 _ rfl hd.ds (by omega) (by omega) (by omega)).mono ?_; rintro e w3 ⟨x, at3, hxE, ha3E, hx, ha3, rfl, hk3⟩; have hO3 := hk3.kept.owns hO (fun z hz e => by have := (hO.lt z hz).1; omega); have hw3 := hk3.kept.size)
    | (at_builtin; refine wpList_append_lies _ rfl (.tmp 11) (.tmp 15) 39 rfl w.heap.size 4 i0 (.bool false) 1 1 Tryz.underlying39 hi hz0 hz1 hz2 rfl (by decide) _ _ _ rfl (hO3.alloc _) ⟨w3.heap.size, 0, none⟩ 1 1 [.bool ((x : Int) == 0)] rfl rfl (World.news_of_block (cs := #[.bool ((x : Int) == 0)]) (t := 4) (fr := (0, 0)) (blk_new_at _ _ _ (by simp))) (by simp [Value.oneCell']) (by decide) (by unfold maxLen; omega) (by omega) (by simp; omega) (w3.heap.size + 1) (by simp) ?_; intro g1 cc1 wa ho1 hg1 _ _))
   have hz : ∀ z, (Value.slice oa ks.length c).ownBlock = some z → w.heap.size ≤ z := fun z e => (hO3.lt z e).1
   have hd3 := hd.trans hk3
   have hBal := gal (gre w3) (.cells #[.bool ((x : Int) == 0)] 4)
   have hKg := Kept.of_grown hg1
   have hdw : DSK w wa b sa bs cap at3 := ⟨(hd3.ds.kept (Kept.of_below hBal (fun _ => False)) (fun e => e) (fun _ _ _ e => e)).kept hKg (fun e => by have := hz b e; omega) (fun g off e e2 => by have := hz g e2; have := hsl g off e; omega), (hd3.kept.trans (Kept.of_below hBal (fun _ => False)) (fun _ _ e => e.elim)).trans hKg (fun z hz2 e => by have := hz z e; omega)⟩
   go_roundw
   case rel => exact ⟨j - 1, at3, some ⟨g1, 0, none⟩, cc1, ks ++ [((x : Int) == 0)], by omega, by rw [show ((j - 1 : Nat) : Int) = (j : Int) - 1 by omega], by rw [List.length_append]; rfl, by show (_, _) = _; rw [List.length_append, List.length_singleton, masksF, ← hksE.out]; dsimp only; rw [← hxE.out, ← ha3E.out], by show _ = _; rw [List.length_append]; have := hkl.out; simp; omega, by omega, by rw [List.length_append, kcells_snoc]; exact ho1, hdw⟩
   case measure => simp [intOf]; omega
  ·
   obtain rfl : j = 0 := by omega
   go_wp2
   go_ret
   exact ⟨oa, c, ks, at2, by have h9 := hkl.out; show (_, _) = _; rw [maskF, ← haE.out, ← hnE.out, ← h9, Nat.add_zero]; exact hksE.out, by have := hkl.out; omega, by omega, rfl, hO, hd⟩
structure AC where
 op : Int
 graph : GG
 steps : Int
 kept : List Bool
 block : Int
 byte : Int
 xor : Int
instance : Inhabited AC := ⟨⟨0, ⟨default, []⟩, 0, [], 0, 0, 0⟩⟩
abbrev AC.val (x : AC) (ga : Option Addr) (gc : Nat) (ka : Option Addr) (kc : Nat) : Value :=
 .agg #[.int .i64 x.op, .int .i64 x.graph.root.kind, .int .i64 x.graph.root.num, .string x.graph.root.text, .int .i64 x.graph.root.node, .slice ga x.graph.nodes.length gc, .int .i64 x.steps, .slice ka x.kept.length kc, .int .i64 x.block, .int .i64 x.byte, .int .i64 x.xor]
structure AC.Ok (x : AC) : Prop where
 op : I64 x.op
 graph : x.graph.Ok
 steps : I64 x.steps
 kept : x.kept.length ≤ maxLen
 block : I64 x.block
 byte : I64 x.byte
 xor : I64 x.xor
structure ActAt (w : World) (b off : Nat) (x : AC) (ga : Option Addr) (gc : Nat) (ka : Option Addr) (kc : Nat) : Prop where
 c0 : w.cell? ⟨b, off, none⟩ = some (.int .i64 x.op)
 c1 : w.cell? ⟨b, off + 1, none⟩ = some (.int .i64 x.graph.root.kind)
 c2 : w.cell? ⟨b, off + 2, none⟩ = some (.int .i64 x.graph.root.num)
 c3 : w.cell? ⟨b, off + 3, none⟩ = some (.string x.graph.root.text)
 c4 : w.cell? ⟨b, off + 4, none⟩ = some (.int .i64 x.graph.root.node)
 c5 : w.cell? ⟨b, off + 5, none⟩ = some (.slice ga x.graph.nodes.length gc)
 c6 : w.cell? ⟨b, off + 6, none⟩ = some (.int .i64 x.steps)
 c7 : w.cell? ⟨b, off + 7, none⟩ = some (.slice ka x.kept.length kc)
 c8 : w.cell? ⟨b, off + 8, none⟩ = some (.int .i64 x.block)
 c9 : w.cell? ⟨b, off + 9, none⟩ = some (.int .i64 x.byte)
 c10 : w.cell? ⟨b, off + 10, none⟩ = some (.int .i64 x.xor)
theorem ActAt.grow {w w' : World} {b off : Nat} {x : AC} {ga : Option Addr} {gc : Nat} {ka : Option Addr} {kc : Nat} (h : ActAt w b off x ga gc ka kc) (hb : Below w.heap.size w w') : ActAt w' b off x ga gc ka kc :=
 ⟨cell_later hb h.c0, cell_later hb h.c1, cell_later hb h.c2, cell_later hb h.c3, cell_later hb h.c4, cell_later hb h.c5, cell_later hb h.c6, cell_later hb h.c7, cell_later hb h.c8, cell_later hb h.c9, cell_later hb h.c10⟩
def ActsAt (w : World) (a : Option Addr) (ls : List AC) : Prop :=
 ∀ i, i < ls.length → ∃ b off ga gc ka kc, a = some ⟨b, off, none⟩ ∧ ActAt w b (off + i * 11) ls[i]! ga gc ka kc ∧ NodesAt w.heap.size w ga ls[i]!.graph.nodes ∧ BoolsAt w ka ls[i]!.kept
theorem ActsAt.get {w : World} {a : Option Addr} {ls : List AC} (h : ActsAt w a ls) {k : Nat} (hk : k < ls.length) :
  ∃ x b off ga gc ka kc, Hid (x = ls[k]!) ∧ x ∈ ls ∧ a = some ⟨b, off, none⟩ ∧ ActAt w b (off + k * 11) x ga gc ka kc ∧ NodesAt w.heap.size w ga x.graph.nodes ∧ BoolsAt w ka x.kept := by
 obtain ⟨b, off, ga, gc, ka, kc, ha, hc, hn, hk'⟩ := h k hk
 exact ⟨ls[k]!, b, off, ga, gc, ka, kc, rfl, mem_at hk, ha, hc, hn, hk'⟩
theorem ActsAt.grow {w w' : World} {a : Option Addr} {ls : List AC} (h : ActsAt w a ls) (hb : Below w.heap.size w w') : ActsAt w' a ls := fun i hi => by
 obtain ⟨b, off, ga, gc, ka, kc, ha, hc, hn, hk⟩ := h i hi
 exact ⟨b, off, ga, gc, ka, kc, ha, hc.grow hb, hn.grow hb, hk.grow hb⟩
structure LA where
 x : AC
 ga : Option Addr
 gc : Nat
 ka : Option Addr
 kc : Nat
 lo : Nat
 hi : Nat
instance : Inhabited LA := ⟨⟨default, none, 0, none, 0, 0, 0⟩⟩
def LA.cells (y : LA) : List Value := [.int .i64 y.x.op, .int .i64 y.x.graph.root.kind, .int .i64 y.x.graph.root.num, .string y.x.graph.root.text, .int .i64 y.x.graph.root.node, .slice y.ga y.x.graph.nodes.length y.gc, .int .i64 y.x.steps, .slice y.ka y.x.kept.length y.kc, .int .i64 y.x.block, .int .i64 y.x.byte, .int .i64 y.x.xor]
theorem LA.cells_length (y : LA) : y.cells.length = 11 := rfl
def aCells (l : List LA) : List Value := l.flatMap LA.cells
theorem aCells_app (a b : List LA) : aCells (a ++ b) = aCells a ++ aCells b := by unfold aCells; rw [List.flatMap_append]
theorem aCells_one (y : LA) : aCells [y] = y.cells := by simp [aCells]
theorem aCells_get (l : List LA) (i j : Nat) (hi : i < l.length) (hj : j < 11) : (aCells l)[i * 11 + j]? = l[i]!.cells[j]? := flatMap_get LA.cells_length l i j hi hj
theorem info_act : (Tryz.prog.info? 41).map (fun i => (i.zero, i.size, i.bytes)) = some (some (.agg #[.int .i64 0, .int .i64 0, .int .i64 0, .string .empty, .int .i64 0, .slice none 0 0, .int .i64 0, .slice none 0 0, .int .i64 0, .int .i64 0, .int .i64 0]), 11, 128) := by kernel_rfl
structure SAc (base : Nat) (w : World) (oa : Option Addr) (oc : Nat) (lt : List LA) : Prop where
 own : w.ownsRow base 41 11 (.slice oa lt.length oc) lt.length (aCells lt)
 rng : ∀ y, y ∈ lt → base ≤ y.lo ∧ y.lo ≤ y.hi ∧ y.hi ≤ w.heap.size
 row : ∀ y, y ∈ lt → ∀ z, (Value.slice oa lt.length oc).ownBlock = some z → z < y.lo ∨ y.hi ≤ z
 nod : ∀ y, y ∈ lt → ∀ w', Kept (fun z => z < y.lo ∨ y.hi ≤ z) w w' → NodesAt w'.heap.size w' y.ga y.x.graph.nodes ∧ BoolsAt w' y.ka y.x.kept
theorem SAc.nil (base : Nat) (w : World) : SAc base w none 0 [] := ⟨owns_none _ _ _ _, fun y hy => (by cases hy), fun y hy => (by cases hy), fun y hy => (by cases hy)⟩
theorem SAc.kept {p : Nat → Prop} {base : Nat} {w w' : World} {oa : Option Addr} {oc : Nat} {lt : List LA} (h : SAc base w oa oc lt) (K : Kept p w w') (hr : ∀ z, (Value.slice oa lt.length oc).ownBlock = some z → ¬ p z) (hp : ∀ y, y ∈ lt → ∀ z, p z → z < w.heap.size → z < y.lo ∨ y.hi ≤ z) : SAc base w' oa oc lt :=
 ⟨K.owns h.own hr, fun y hy => ⟨(h.rng y hy).1, (h.rng y hy).2.1, Nat.le_trans (h.rng y hy).2.2 K.size⟩, h.row, fun y hy w'' k => h.nod y hy w'' ((K.mono (fun z hz e => hp y hy z e hz)).trans k (fun _ _ e => e))⟩
theorem SAc.grow {base : Nat} {w w' : World} {oa : Option Addr} {oc : Nat} {lt : List LA} (h : SAc base w oa oc lt) (hb : Below w.heap.size w w') : SAc base w' oa oc lt := h.kept (Kept.of_below hb (fun _ => False)) (fun _ _ e => e) (fun _ _ _ e => e.elim)
theorem SAc.at_ {base : Nat} {w : World} {oa : Option Addr} {oc : Nat} {lt : List LA} (h : SAc base w oa oc lt) : ActsAt w oa (lt.map (·.x)) := fun i hi => by
 have hi' : i < lt.length := by simpa using hi
 have e : (lt.map (·.x))[i]! = lt[i]!.x := by rw [getElem!_pos _ i hi, getElem!_pos lt i hi']; simp
 obtain ⟨g, f, ha, _, _, hr, hc, hf⟩ := owns_row h.own (by omega)
 have cell : ∀ j u, j < 11 → lt[i]!.cells[j]? = some u → w.cell? ⟨g, 0 + i * 11 + j, none⟩ = some u := fun j u hj hu => by
  rw [Nat.zero_add, ← hf _ _ ((aCells_get lt i j hi' hj).trans hu)]
  exact hr.cell (by omega)
 rw [e]
 exact ⟨g, 0, lt[i]!.ga, lt[i]!.gc, lt[i]!.ka, lt[i]!.kc, ha, ⟨cell 0 _ (by omega) rfl, cell 1 _ (by omega) rfl, cell 2 _ (by omega) rfl, cell 3 _ (by omega) rfl, cell 4 _ (by omega) rfl, cell 5 _ (by omega) rfl, cell 6 _ (by omega) rfl, cell 7 _ (by omega) rfl, cell 8 _ (by omega) rfl, cell 9 _ (by omega) rfl, cell 10 _ (by omega) rfl⟩, h.nod _ (mem_at hi') w (Kept.refl _ _)⟩
theorem SAc.push {base : Nat} {w w5 : World} {oa : Option Addr} {oc : Nat} {lt : List LA} (h : SAc base w oa oc lt) {y : LA} (hr : base ≤ y.lo ∧ y.lo ≤ y.hi ∧ y.hi ≤ w.heap.size) (ho : ∀ z, (Value.slice oa lt.length oc).ownBlock = some z → z < y.lo ∨ y.hi ≤ z) (hn : ∀ w', Kept (fun z => z < y.lo ∨ y.hi ≤ z) w w' → NodesAt w'.heap.size w' y.ga y.x.graph.nodes ∧ BoolsAt w' y.ka y.x.kept) {gg cc : Nat}
  (hown : w5.ownsRow base 41 11 (.slice (some ⟨gg, 0, none⟩) (lt.length + 1) cc) (lt.length + 1) (aCells lt ++ y.cells)) (hgrow : w.grownBy w5 (Value.slice oa lt.length oc).ownBlock) (hat : (Value.slice oa lt.length oc).ownBlock = some gg ∨ gg = w.heap.size) : SAc base w5 (some ⟨gg, 0, none⟩) cc (lt ++ [y]) := by
 have K := Kept.of_grown hgrow
 have hK : ∀ x, x ∈ lt ++ [y] → (base ≤ x.lo ∧ x.lo ≤ x.hi ∧ x.hi ≤ w.heap.size) ∧ (∀ z, (Value.slice oa lt.length oc).ownBlock = some z → z < x.lo ∨ x.hi ≤ z) ∧ ∀ w', Kept (fun z => z < x.lo ∨ x.hi ≤ z) w w' → NodesAt w'.heap.size w' x.ga x.x.graph.nodes ∧ BoolsAt w' x.ka x.x.kept := fun x hx => by
  rcases List.mem_append.1 hx with e | e
  · exact ⟨h.rng x e, h.row x e, h.nod x e⟩
  ·
   obtain rfl : x = y := by simpa using e
   exact ⟨hr, ho, hn⟩
 refine ⟨by rw [aCells_app, aCells_one, List.length_append]; exact hown, fun x hx => ?_, fun x hx z hz => ?_, fun x hx w' k => ?_⟩
 ·
  obtain ⟨h1, _, _⟩ := hK x hx
  exact ⟨h1.1, h1.2.1, Nat.le_trans h1.2.2 K.size⟩
 ·
  obtain ⟨h1, h2, _⟩ := hK x hx
  have e : z = gg := by simpa [Value.ownBlock] using hz.symm
  subst e
  rcases hat with e | e
  · exact h2 z e
  · exact Or.inr (by omega)
 ·
  obtain ⟨_, h2, h3⟩ := hK x hx
  exact h3 w' ((K.mono (fun z _ e => h2 z e)).trans k (fun _ _ e => e))
def st1F (bs : List Nat) (k : Nat) : AC × Nat :=
 if pickV bs k 3 = 0 then (⟨1, (graphF bs (pickA k 3)).1, 0, [], 0, 0, 0⟩, (graphF bs (pickA k 3)).2)
 else if pickV bs k 3 = 1 then (⟨2, (graphF bs (pickA k 3)).1, (pickV bs (graphF bs (pickA k 3)).2 9 : Int), (maskF bs (pickA (graphF bs (pickA k 3)).2 9)).1, 0, 0, 0⟩, (maskF bs (pickA (graphF bs (pickA k 3)).2 9)).2)
 else (⟨3, ⟨⟨0, 0, ⟨#[]⟩, 0⟩, []⟩, 0, [], 0, 0, 0⟩, pickA k 3)
def st2F (bs : List Nat) (r : AC × Nat) : AC × Nat :=
 if pickV bs r.2 9 = 0 then (⟨4, ⟨⟨0, 0, ⟨#[]⟩, 0⟩, []⟩, 0, [], ((pickV bs (pickA r.2 9) 3 + 63 * pickV bs (pickA (pickA r.2 9) 3) 2 : Nat) : Int), (pickV bs (pickA (pickA (pickA r.2 9) 3) 2) 64 : Int), ((1 + pickV bs (pickA (pickA (pickA (pickA r.2 9) 3) 2) 64) 255 : Nat) : Int)⟩, pickA (pickA (pickA (pickA (pickA r.2 9) 3) 2) 64) 255)
 else (r.1, pickA r.2 9)
def st3F (bs : List Nat) (r : AC × Nat) : AC × Nat :=
 if pickV bs r.2 25 = 0 then (⟨(pickV bs (pickA (pickA (pickA r.2 25) 2) 202) 6 : Int), r.1.graph, (pickV bs (pickA (pickA r.2 25) 2) 202 : Int), r.1.kept, r.1.block, r.1.byte, (pickV bs (pickA r.2 25) 2 : Int)⟩, pickA (pickA (pickA (pickA r.2 25) 2) 202) 6)
 else (r.1, pickA r.2 25)
def actF1 (bs : List Nat) (k : Nat) : AC × Nat := st3F bs (st2F bs (st1F bs k))
def actsN (bs : List Nat) (k : Nat) : Nat → List AC × Nat
 | 0 => ([], k)
 | j + 1 => ((actsN bs k j).1 ++ [(actF1 bs (actsN bs k j).2).1], (actF1 bs (actsN bs k j).2).2)
def actsF (bs : List Nat) (k : Nat) : List AC × Nat :=
 if pickV bs (pickA k 10) 40 = 0 then actsN bs (pickA (pickA (pickA k 10) 40) 3) (59 + pickV bs (pickA (pickA k 10) 40) 3) else actsN bs (pickA (pickA k 10) 40) (pickV bs k 10)
end Go.Proofs.YtmdpmdmilgbfiaaGreatDoor
