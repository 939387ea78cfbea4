import Derived.Test.YthjddpkegooobaaPartE

/-
  SL3: the specification's copy of a disk. Own work.
-/
namespace Go.Proofs.Ythjddpkegooobaa
open Go.RowKit

/-- the block that holds a list of bytes -/
def LB.own (y : LB) : Option Nat := (Value.slice y.a y.l.length y.cap).ownBlock
/-- lists of bytes, no two in one block -/
def AparL (lb : List LB) : Prop := lb.Pairwise fun x y => ∀ z, x.own = some z → y.own ≠ some z
theorem AparL.push {lb : List LB} {y : LB} {B : Nat} (h : AparL lb) (hb : ∀ x, x ∈ lb → ∀ z, x.own = some z → z < B) (hy : ∀ z, y.own = some z → B ≤ z) : AparL (lb ++ [y]) :=
  List.pairwise_append.2 ⟨h, List.pairwise_singleton _ _, fun x hx u hu z hz e => by
    obtain rfl : u = y := by simpa using hu
    have := hb x hx z hz
    have := hy z e
    omega⟩
def CInv (w wr : World) (d : DD) (l : DL) (X R V k : Nat) : Prop := ∃ (lb : List LB) (ba : Option Addr) (bc : Nat), Hid (lb.length = k) ∧ Hid (lb.map (·.l) = d.blocks.take k) ∧ Hid (AparL lb) ∧ SB (V + 1) wr ba bc lb ∧ VB wr V (.slice ba lb.length bc) (.slice none 0 0) ∧ VB wr R (.slice none 0 0) (.slice none 0 0) ∧ DBox wr X d l ∧ Below w.heap.size w wr
def CInv2 (w wr : World) (d : DD) (R V : Nat) (lb : List LB) (ba : Option Addr) (bc k : Nat) : Prop := ∃ (lw : List LW) (wa : Option Addr) (wc : Nat), Hid (lw.length = k) ∧ Hid (lw.map (·.x) = d.waiting.take k) ∧ SB (V + 1) wr ba bc lb ∧ SW (V + 1) wr wa wc lw ∧ VB wr V (.slice ba lb.length bc) (.slice wa lw.length wc) ∧ VB wr R (.slice none 0 0) (.slice none 0 0) ∧ Below w.heap.size w wr

/-- a copy -/
def CPost (d : DD) (w : World) (e : Ending) (w' : World) : Prop := ∃ (lb : List LB) (lw : List LW) (ba : Option Addr) (bc : Nat) (wa : Option Addr) (wc : Nat), e = .returned (d.val ⟨ba, bc, wa, wc⟩) ∧ lb.map (·.l) = d.blocks ∧ lw.map (·.x) = d.waiting ∧ SB w.heap.size w' ba bc lb ∧ SW w.heap.size w' wa wc lw ∧ Below w.heap.size w w'

/-- a copy, its blocks apart -/
def CPostF (d : DD) (w : World) (e : Ending) (w' : World) : Prop := ∃ (lb : List LB) (lw : List LW) (ba : Option Addr) (bc : Nat) (wa : Option Addr) (wc : Nat), e = .returned (d.val ⟨ba, bc, wa, wc⟩) ∧ lb.map (·.l) = d.blocks ∧ lw.map (·.x) = d.waiting ∧ SB w.heap.size w' ba bc lb ∧ SW w.heap.size w' wa wc lw ∧ AparL lb ∧ Below w.heap.size w w'
theorem SB.le {base base' : Nat} {w : World} {ba : Option Addr} {bc : Nat} {lb : List LB} (h : SB base w ba bc lb) (hb : base' ≤ base) : SB base' w ba bc lb := ⟨owns_le h.own hb, fun y hy => owns_le (h.byt y hy) hb⟩
theorem SW.le {base base' : Nat} {w : World} {wa : Option Addr} {wc : Nat} {lw : List LW} (h : SW base w wa wc lw) (hb : base' ≤ base) : SW base' w wa wc lw := ⟨owns_le h.own hb, fun y hy => owns_le (h.byt y hy) hb⟩

set_option maxHeartbeats 4000000 in
set_option maxRecDepth 100000 in
theorem l3copy_far (d : DD) (l : DL) (w : World) (hs : d.Small) (ha : DAt w l d) : Calls Try.prog 84 #[d.val l] w (CPostF d w) := by
  obtain ⟨j0, hj, hy0, hy1, hy2'⟩ := info_parts info_bytes
  obtain ⟨k0, hkk, hk0, hk1, hk2⟩ := info_parts info_implWrite
  go_enter Try.func84, Try.ntmps84
  go_upto_region 2 with fail
  have hw0 := gal (gre w) (.cells #[.slice l.ba d.blocks.length l.bc, .slice l.wa d.waiting.length l.wc] 44)
  have hX0 := DBox.new w d l 44
  have hs0 : (w.alloc (.cells #[.slice l.ba d.blocks.length l.bc, .slice l.wa d.waiting.length l.wc] 44)).heap.size = w.heap.size + 1 := by simp
  generalize hXe0 : w.heap.size = X0 at hX0 hs0 hw0 ⊢
  generalize w.alloc (.cells #[.slice l.ba d.blocks.length l.bc, .slice l.wa d.waiting.length l.wc] 44) = w0 at hw0 hX0 hs0 ⊢
  have hw1 := gal (gal (gre w0) (.cells #[.slice none 0 0, .slice none 0 0] 44)) (.cells #[.slice none 0 0, .slice none 0 0] 44)
  have hR := (VB.new_at w0 (.slice none 0 0) (.slice none 0 0) 44 (X0 + 1) hs0.symm).grow (gal (gre _) (.cells #[.slice none 0 0, .slice none 0 0] 44))
  have hV := VB.new_at (w0.alloc (.cells #[.slice none 0 0, .slice none 0 0] 44)) (.slice none 0 0) (.slice none 0 0) 44 (X0 + 1 + 1) (by simp [hs0])
  have hX := hX0.grow hw1
  generalize (w0.alloc (.cells #[.slice none 0 0, .slice none 0 0] 44)).alloc (.cells #[.slice none 0 0, .slice none 0 0] 44) = wA at hw1 hR hV hX ⊢
  have hwA : Below w.heap.size w wA := by rw [← hXe0] at hw0; exact gca hw0 hw1
  have hXe : Hid (X0 = w.heap.size) := hXe0.symm
  obtain ⟨R, hRe⟩ := hid_ex (X0 + 1)
  obtain ⟨V, hVe⟩ := hid_ex (X0 + 1 + 1)
  rw [← hVe.out] at hV ⊢
  rw [← hRe.out] at hR ⊢
  have hI0 : CInv w wA d l X0 R V 0 := ⟨[], none, 0, rfl, rfl, List.Pairwise.nil, SB.nil _ _, hV, hR, hX, hwA⟩
  have x0 := hX.c0
  have x1 := hX.c1
  clear hw1 hR hV hX0 hw0 hs0 hwA hX
  go_wp2
  go_loopw [11] (fun i wr => ∃ k : Nat, k ≤ d.blocks.length ∧ i = .int .i64 k ∧ CInv w wr d l X0 R V k) (fun i _ => d.blocks.length - (intOf i).toNat)
  case atStart => exact ⟨0, Nat.zero_le _, rfl, hI0⟩
  case round =>
    obtain ⟨k, hk, rfl, lb, ba, bc, hll, hlm, hap, hL, hV, hR, hX, hb⟩ := hrel
    clear hI0 x0 x1
    by_cases hlt : k < d.blocks.length
    · obtain ⟨n, b, off, av, cv, hvk, hvm, hba, c0, hva⟩ := (ha.b.grow hb).get hlt
      rw [hba]
      have i0 : (0 : Int) ≤ (k : Int) := by omega
      have i1 : (k : Int) < (d.blocks.length : Int) := by omega
      go_wp2
      refine wp_regionU (fun u => u.cell? ⟨V, 0, none⟩ = some (.slice ba lb.length bc)) 7 (by kernel_rfl) (hV.grow (gdr (gre wr))).v0 (fun hS0 => ?_)
      have hLd := hL.grow (gdr (gre wr))
      have hVd := hV.grow (gdr (gre wr))
      have hRd := hR.grow (gdr (gre wr))
      have hXd := hX.grow (gdr (gre wr))
      have hbd := gdr hb
      have hvd := hva.grow (gdr (gre wr))
      generalize wr.drew = wd at hLd hVd hRd hXd hbd hvd hS0 ⊢
      refine anyU_take (i := 0) (v := ?_) rfl (by kernel_rfl) (by kernel_rfl) (by kernel_rfl) (by kernel_rfl) (fun _ _ _ h => h) (Or.inl ⟨by rfl, ?_⟩) hS0 ?_
      rotate_left
      · intro u hSu; (try dsimp only at hSu); go_simp <;> with_reducible rfl
      simp only [Act.put, List.getElem_toArray, List.getElem_cons_zero, List.setIfInBounds_toArray, List.set_cons_zero, List.set_cons_succ]
      refine anyU_take (i := 1) (v := ?_) rfl (by kernel_rfl) (by kernel_rfl) (by kernel_rfl) (by kernel_rfl) (fun _ _ _ h => h) (Or.inl ⟨by rfl, ?_⟩) hS0 ?_
      rotate_left
      · intro u hSu; (try dsimp only at hSu); go_simp <;> with_reducible rfl
      simp only [Act.put, List.getElem_toArray, List.getElem_cons_zero, List.getElem_cons_succ, List.setIfInBounds_toArray, List.set_cons_zero, List.set_cons_succ]
      refine anyU_take (i := 2) (v := ?_) rfl (by kernel_rfl) (by kernel_rfl) (by kernel_rfl) (by kernel_rfl) (fun _ _ _ h => h) (Or.inl ⟨by rfl, ?_⟩) hS0 ?_
      rotate_left
      · intro u hSu; (try dsimp only at hSu); go_simp <;> with_reducible rfl
      simp only [Act.put, List.getElem_toArray, List.getElem_cons_zero, List.getElem_cons_succ, List.setIfInBounds_toArray, List.set_cons_zero, List.set_cons_succ]
      refine anyU_one (i := 3) (by kernel_rfl) rfl (fun K hK => ?_)
      go_simp
      refine (l2copy_any av n cv _ (hs.bb n hvm) hvd).mono ?_
      rintro e w1 ⟨oa, oc, rfl, hoy, hB1⟩
      have hap2 : Hid (AparL (lb ++ [⟨n, oa, oc⟩])) := AparL.push (B := wd.heap.size) hap.out (fun x hx z hz => by
        obtain ⟨⟨c, hc⟩, _⟩ := owns_isB (hLd.byt x hx) hz
        exact (Array.getElem?_eq_some_iff.1 hc).1) (fun z hz => (owns_isB hoy hz).2)
      have hS1 := cell_later hB1 hS0
      refine hK.out _ _ hS1 ?_
      clear hK
      have hL1 := hLd.grow hB1
      have hV1 := hVd.grow hB1
      have hR1 := hRd.grow hB1
      have hX1 := hXd.grow hB1
      have hbel1 := gca hbd hB1
      have hy : w1.ownsRow (V + 1) 5 1 (.slice oa n.length oc) n.length (bcells n) := owns_le hoy (by have := hVd.lt; omega)
      have hB2 := gal (gre w1) (.cells #[.slice oa n.length oc] 22)
      have hS2 := cell_later hB2 hS1
      have hS2' : Hid _ := hS2
      clear hS2
      refine anyU_one (i := 4) (by kernel_rfl) rfl (fun K hK => ?_)
      go_simp
      refine hK.out _ _ hS2'.out ?_
      clear hK
      have hL2 := hL1.grow hB2
      have hV2 := hV1.grow hB2
      have hR2 := hR1.grow hB2
      have hX2 := hX1.grow hB2
      have hbel2 := gca hbel1 hB2
      have hy2 := (Kept.of_below hB2 (fun _ => False)).owns hy (fun _ _ e => e)
      have hnew := World.news_of_block (cs := #[.slice oa n.length oc]) (t := 22) (fr := (0, 0)) (blk_new_at w1 (.cells #[.slice oa n.length oc] 22) _ rfl)
      have hs2 : (w1.alloc (.cells #[.slice oa n.length oc] 22)).heap.size = w1.heap.size + 1 := by simp
      generalize w1.alloc (.cells #[.slice oa n.length oc] 22) = w2 at hB2 hS2' hL2 hV2 hR2 hX2 hbel2 hy2 hnew hs2 ⊢
      have hlw := hll.out
      have hbl := hs.bl
      refine anyU_one (i := 5) (by kernel_rfl) rfl (fun K hK => ?_)
      refine step_append_lies _ (by rfl) (.tmp 16) (.tmp 19) 41 rfl (V + 1) 22 j0 _ 1 24 Try.underlying41 hj hy0 hy1 hy2' rfl (by decide) (.slice ba lb.length bc) lb.length (lb.map LB.v) (by rfl) hL2.own ⟨w1.heap.size, 0, none⟩ 1 1 [.slice oa n.length oc] (by rfl) rfl hnew (by simp [Value.oneCell']) (by decide) (by unfold maxLen; omega) (by omega) (by have := hV2.lt; omega) (w1.heap.size + 1) hs2 ?_
      intro gg cc w5 hown5 hgrow5 hat5 hlt5
      have K5 := Kept.of_grown hgrow5
      have hz5 : ∀ z, (Value.slice ba lb.length bc).ownBlock = some z → V + 1 ≤ z := fun z e => (owns_isS hL2.own e).2
      have hL5 := hL2.push (y := ⟨n, oa, oc⟩) hy2 hown5 hgrow5
      have hV5 := hV2.kept K5 (fun e => by have := hz5 _ e; omega)
      refine hK.out _ _ hV5.v0 ?_
      clear hK
      simp only [Act.put, List.getElem_toArray, List.getElem_cons_zero, List.getElem_cons_succ, List.setIfInBounds_toArray, List.set_cons_zero, List.set_cons_succ]
      refine anyU_one (i := 6) (by kernel_rfl) rfl (fun K hK => ?_)
      go_simp
      refine hK.out _ _ hV5.v0 ?_
      clear hK
      have fz := hV5.vf
      have c8 := hV5.v0
      refine anyU_last (by kernel_rfl) rfl (by kernel_rfl) (fun K hK => ?_)
      go_simp
      refine hK.out _ _ ?_
      clear hK
      have hbel5 := hbel2.trans (K5.below (B := w.heap.size) hbel2.size (fun z hz e => by have := hz5 _ e; have := hVe.out; omega))
      have hfin : SB (V + 1) (w5.setCell ⟨V, 0, none⟩ (.slice (some ⟨gg, 0, none⟩) (lb.length + 1) cc)) (some ⟨gg, 0, none⟩) cc (lb ++ [⟨n, oa, oc⟩]) := hL5.set (by omega) _ _
      have hfV := hV5.set0 (.slice (some ⟨gg, 0, none⟩) (lb.length + 1) cc)
      have hfR := (hR2.kept K5 (fun e => by have := hz5 _ e; have := hVe.out; have := hRe.out; omega)).kept (Kept.one w5 V 0 (.slice (some ⟨gg, 0, none⟩) (lb.length + 1) cc)) (by have := hVe.out; have := hRe.out; omega)
      have hfX := (hX2.kept K5 (fun e => by have := hz5 _ e; have := hVe.out; have := hXe.out; omega)).kept (Kept.one w5 V 0 (.slice (some ⟨gg, 0, none⟩) (lb.length + 1) cc)) (by have := hVe.out; have := hXe.out; omega)
      rw [hlw] at hfin hfV hfR hfX
      go_wp2
      go_roundw
      case rel => exact ⟨k + 1, by omega, by go_num, lb ++ [⟨n, oa, oc⟩], some ⟨gg, 0, none⟩, cc, by show _ = _; rw [List.length_append, hlw]; rfl, by show _ = _; rw [List.map_append, hlm.out, take_snoc _ _ hlt, ← hvk.out]; rfl, hap2, hfin, by rw [List.length_append, hlw]; exact hfV, hfR, hfX, gse hbel5 (by have := hVe.out; show w.heap.size ≤ V; omega) _⟩
      case measure => simp [intOf]; omega
    · obtain rfl : k = d.blocks.length := by omega
      rw [List.take_length] at hlm
      have y0 := hX.c0
      have y1 := hX.c1
      have hJ0 : CInv2 w wr d R V lb ba bc 0 := ⟨[], none, 0, rfl, rfl, hL, SW.nil _ _, hV, hR, hb⟩
      clear hL hV hR hb hX
      go_wp2
      go_loopw [26] (fun i wr => ∃ k : Nat, k ≤ d.waiting.length ∧ i = .int .i64 k ∧ CInv2 w wr d R V lb ba bc k) (fun i _ => d.waiting.length - (intOf i).toNat)
      case atStart => exact ⟨0, Nat.zero_le _, rfl, hJ0⟩
      case round =>
        obtain ⟨k, hk2', rfl, lw, wa, wc, hll2, hlm2, hL, hW, hV, hR, hb⟩ := hrel
        clear hJ0 y0 y1
        by_cases hlt2 : k < d.waiting.length
        · obtain ⟨n, b, off, av, cv, hvk, hvm, hba, c0, c1, hva⟩ := (ha.w.grow hb).get hlt2
          rw [hba]
          have i0 : (0 : Int) ≤ (k : Int) := by omega
          have i1 : (k : Int) < (d.waiting.length : Int) := by omega
          go_upto_region 10 with fail
          have hAl := gal (gre wr) (.cells #[.int .i64 n.block, .slice av n.bytes.length cv] 104)
          have hLA := hL.grow hAl
          have hWA := hW.grow hAl
          have hVA := hV.grow hAl
          have hRA := hR.grow hAl
          have hbA := gal hb (.cells #[.int .i64 n.block, .slice av n.bytes.length cv] 104)
          have hvaA := hva.grow hAl
          have q0 : (wr.alloc (.cells #[.int .i64 n.block, .slice av n.bytes.length cv] 104)).cell? ⟨wr.heap.size, 0, none⟩ = some (.int .i64 n.block) := by simp
          have q1 : (wr.alloc (.cells #[.int .i64 n.block, .slice av n.bytes.length cv] 104)).cell? ⟨wr.heap.size, 1, none⟩ = some (.slice av n.bytes.length cv) := by simp
          have hsC : (wr.alloc (.cells #[.int .i64 n.block, .slice av n.bytes.length cv] 104)).heap.size = wr.heap.size + 1 := by simp
          generalize wr.alloc (.cells #[.int .i64 n.block, .slice av n.bytes.length cv] 104) = wC at hAl hLA hWA hVA hRA hbA hvaA q0 q1 hsC ⊢
          generalize hQ : wr.heap.size = Q at q0 q1 hsC ⊢
          clear hva hL hV hR hb c0 c1 hAl
          have hSk : ∀ (u u' : World), Below u.heap.size u u' → (u.cell? ⟨V, 1, none⟩ = some (.slice wa lw.length wc) ∧ u.cell? ⟨Q, 0, none⟩ = some (.int .i64 n.block) ∧ u.cell? ⟨Q, 1, none⟩ = some (.slice av n.bytes.length cv)) → (u'.cell? ⟨V, 1, none⟩ = some (.slice wa lw.length wc) ∧ u'.cell? ⟨Q, 0, none⟩ = some (.int .i64 n.block) ∧ u'.cell? ⟨Q, 1, none⟩ = some (.slice av n.bytes.length cv)) := fun u u' hb h => ⟨cell_later hb h.1, cell_later hb h.2.1, cell_later hb h.2.2⟩
          refine wp_regionU (fun u => u.cell? ⟨V, 1, none⟩ = some (.slice wa lw.length wc) ∧ u.cell? ⟨Q, 0, none⟩ = some (.int .i64 n.block) ∧ u.cell? ⟨Q, 1, none⟩ = some (.slice av n.bytes.length cv)) 11 (by kernel_rfl) ⟨(hVA.grow (gdr (gre wC))).v1, q0, q1⟩ (fun hS0 => ?_)
          have hLd := hLA.grow (gdr (gre wC))
          have hWd := hWA.grow (gdr (gre wC))
          have hVd := hVA.grow (gdr (gre wC))
          have hRd := hRA.grow (gdr (gre wC))
          skip
          have hbd := gdr hbA
          have hvd := hvaA.grow (gdr (gre wC))
          have hsd : wC.drew.heap.size = wC.heap.size := rfl
          generalize wC.drew = wd at hLd hWd hVd hRd hbd hvd hS0 hsd ⊢
          refine anyU_take (i := 0) (v := ?_) rfl (by kernel_rfl) (by kernel_rfl) (by kernel_rfl) (by kernel_rfl) (fun _ _ _ h => h) (Or.inl ⟨by rfl, ?_⟩) hS0 ?_
          rotate_left
          · intro u hSu; obtain ⟨s0, s1, s2⟩ := hSu; go_simp <;> with_reducible rfl
          simp only [Act.put, List.getElem_toArray, List.getElem_cons_zero, List.setIfInBounds_toArray, List.set_cons_zero, List.set_cons_succ]
          refine anyU_take (i := 1) (v := ?_) rfl (by kernel_rfl) (by kernel_rfl) (by kernel_rfl) (by kernel_rfl) (fun _ _ _ h => h) (Or.inl ⟨by rfl, ?_⟩) hS0 ?_
          rotate_left
          · intro u hSu; obtain ⟨s0, s1, s2⟩ := hSu; go_simp <;> with_reducible rfl
          simp only [Act.put, List.getElem_toArray, List.getElem_cons_zero, List.getElem_cons_succ, List.setIfInBounds_toArray, List.set_cons_zero, List.set_cons_succ]
          refine anyU_take (i := 2) (v := ?_) rfl (by kernel_rfl) (by kernel_rfl) (by kernel_rfl) (by kernel_rfl) (fun _ _ _ h => h) (Or.inl ⟨by rfl, ?_⟩) hS0 ?_
          rotate_left
          · intro u hSu; obtain ⟨s0, s1, s2⟩ := hSu; go_simp <;> with_reducible rfl
          simp only [Act.put, List.getElem_toArray, List.getElem_cons_zero, List.getElem_cons_succ, List.setIfInBounds_toArray, List.set_cons_zero, List.set_cons_succ]
          refine anyU_take (i := 3) (v := ?_) rfl (by kernel_rfl) (by kernel_rfl) (by kernel_rfl) (by kernel_rfl) (fun _ _ _ h => h) (Or.inl ⟨by rfl, ?_⟩) hS0 ?_
          rotate_left
          · intro u hSu; obtain ⟨s0, s1, s2⟩ := hSu; go_simp <;> with_reducible rfl
          simp only [Act.put, List.getElem_toArray, List.getElem_cons_zero, List.getElem_cons_succ, List.setIfInBounds_toArray, List.set_cons_zero, List.set_cons_succ]
          refine anyU_take (i := 4) (v := ?_) rfl (by kernel_rfl) (by kernel_rfl) (by kernel_rfl) (by kernel_rfl) (fun _ _ _ h => h) (Or.inl ⟨by rfl, ?_⟩) hS0 ?_
          rotate_left
          · intro u hSu; obtain ⟨s0, s1, s2⟩ := hSu; go_simp <;> with_reducible rfl
          simp only [Act.put, List.getElem_toArray, List.getElem_cons_zero, List.getElem_cons_succ, List.setIfInBounds_toArray, List.set_cons_zero, List.set_cons_succ]
          refine anyU_take (i := 5) (v := ?_) rfl (by kernel_rfl) (by kernel_rfl) (by kernel_rfl) (by kernel_rfl) (fun _ _ _ h => h) (Or.inl ⟨by rfl, ?_⟩) hS0 ?_
          rotate_left
          · intro u hSu; obtain ⟨s0, s1, s2⟩ := hSu; go_simp <;> with_reducible rfl
          simp only [Act.put, List.getElem_toArray, List.getElem_cons_zero, List.getElem_cons_succ, List.setIfInBounds_toArray, List.set_cons_zero, List.set_cons_succ]
          refine anyU_one (i := 6) (by kernel_rfl) rfl (fun K hK => ?_)
          go_simp
          refine (l2copy_any av n.bytes cv _ (hs.wb n hvm) hvd).mono ?_
          rintro e w1 ⟨oa, oc, rfl, hoy, hB1⟩
          have hS1 := hSk _ _ hB1 hS0
          refine hK.out _ _ hS1 ?_
          clear hK
          have hL1 := hLd.grow hB1
          have hW1 := hWd.grow hB1
          have hV1 := hVd.grow hB1
          have hR1 := hRd.grow hB1
          skip
          have hbel1 := gca hbd hB1
          have hy : w1.ownsRow (V + 1) 5 1 (.slice oa n.bytes.length oc) n.bytes.length (bcells n.bytes) := owns_le hoy (by have := hVd.lt; omega)
          refine anyU_one (i := 7) (by kernel_rfl) rfl (fun K hK => ?_)
          go_simp
          refine hK.out _ _ hS1 ?_
          clear hK
          have hB2 := gal (gre w1) (.cells #[.int .i64 n.block, .slice oa n.bytes.length oc] 104)
          have hS2 := hSk _ _ hB2 hS1
          have hS2' : Hid _ := hS2
          clear hS2
          refine anyU_one (i := 8) (by kernel_rfl) rfl (fun K hK => ?_)
          go_simp
          refine hK.out _ _ hS2'.out ?_
          clear hK
          have hL2 := hL1.grow hB2
          have hW2 := hW1.grow hB2
          have hV2 := hV1.grow hB2
          have hR2 := hR1.grow hB2
          skip
          have hbel2 := gca hbel1 hB2
          have hy2 := (Kept.of_below hB2 (fun _ => False)).owns hy (fun _ _ e => e)
          have hnew := World.news_of_block (cs := #[.int .i64 n.block, .slice oa n.bytes.length oc]) (t := 104) (fr := (0, 0)) (blk_new_at w1 (.cells #[.int .i64 n.block, .slice oa n.bytes.length oc] 104) _ rfl)
          have hs2 : (w1.alloc (.cells #[.int .i64 n.block, .slice oa n.bytes.length oc] 104)).heap.size = w1.heap.size + 1 := by simp
          have hs1 := hB1.size
          generalize w1.alloc (.cells #[.int .i64 n.block, .slice oa n.bytes.length oc] 104) = w2 at hB2 hS2' hL2 hW2 hV2 hR2 hbel2 hy2 hnew hs2 ⊢
          have hlw := hll2.out
          have hwl := hs.wl
          refine anyU_one (i := 9) (by kernel_rfl) rfl (fun K hK => ?_)
          refine step_append_lies _ (by rfl) (.tmp 31) (.tmp 38) 42 rfl (V + 1) 104 k0 _ 2 32 Try.underlying42 hkk hk0 hk1 hk2 rfl (by decide) (.slice wa lw.length wc) lw.length (wCells lw) (by rfl) hW2.own ⟨w1.heap.size, 0, none⟩ 1 1 [.int .i64 n.block, .slice oa n.bytes.length oc] (by rfl) rfl hnew (by simp [Value.oneCell']) (by decide) (by unfold maxLen; omega) (by omega) (by have := hV2.lt; omega) (w1.heap.size + 1) hs2 ?_
          intro gg cc w5 hown5 hgrow5 hat5 hlt5
          have K5 := Kept.of_grown hgrow5
          have hz5 : ∀ z, (Value.slice wa lw.length wc).ownBlock = some z → IsW w2 z ∧ V + 1 ≤ z := fun z e => owns_isW hW2.own e
          have hzQ : ∀ z, (Value.slice wa lw.length wc).ownBlock = some z → z < Q := fun z e => by obtain ⟨c, hc⟩ := (owns_isW hW.own e).1; have := (Array.getElem?_eq_some_iff.1 hc).1; omega
          have hW5 := hW2.push (y := ⟨n, oa, oc⟩) hy2 hown5 hgrow5
          have hL5 := hL2.kept K5 (fun z e _ => ⟨fun hS => not_W_of_S hS (hz5 z e).1, not_B_of_W (hz5 z e).1⟩)
          have hV5 := hV2.kept K5 (fun e => by have := (hz5 _ e).2; omega)
          have hS5 : w5.cell? ⟨V, 1, none⟩ = some (.slice wa lw.length wc) ∧ w5.cell? ⟨Q, 0, none⟩ = some (.int .i64 n.block) ∧ w5.cell? ⟨Q, 1, none⟩ = some (.slice av n.bytes.length cv) := ⟨hV5.v1, K5.cell hS2'.out.2.1 (fun e => by have := hzQ _ e; omega), K5.cell hS2'.out.2.2 (fun e => by have := hzQ _ e; omega)⟩
          refine hK.out _ _ hS5 ?_
          clear hK
          simp only [Act.put, List.getElem_toArray, List.getElem_cons_zero, List.getElem_cons_succ, List.setIfInBounds_toArray, List.set_cons_zero, List.set_cons_succ]
          refine anyU_one (i := 10) (by kernel_rfl) rfl (fun K hK => ?_)
          go_simp
          refine hK.out _ _ hS5 ?_
          clear hK
          have fz := hV5.vf
          have c8 := hV5.v1
          refine anyU_last (by kernel_rfl) rfl (by kernel_rfl) (fun K hK => ?_)
          go_simp
          refine hK.out _ _ ?_
          clear hK
          have hbel5 := hbel2.trans (K5.below (B := w.heap.size) hbel2.size (fun z hz e => by have := (hz5 _ e).2; have := hVe.out; omega))
          have hfW : SW (V + 1) (w5.setCell ⟨V, 1, none⟩ (.slice (some ⟨gg, 0, none⟩) (lw.length + 1) cc)) (some ⟨gg, 0, none⟩) cc (lw ++ [⟨n, oa, oc⟩]) := hW5.set (by omega) _ _
          have hfL : SB (V + 1) (w5.setCell ⟨V, 1, none⟩ (.slice (some ⟨gg, 0, none⟩) (lw.length + 1) cc)) ba bc lb := hL5.set (by omega) _ _
          have hfV := hV5.set1 (.slice (some ⟨gg, 0, none⟩) (lw.length + 1) cc)
          have hfR := (hR2.kept K5 (fun e => by have := (hz5 _ e).2; have := hVe.out; have := hRe.out; omega)).kept (Kept.one w5 V 1 (.slice (some ⟨gg, 0, none⟩) (lw.length + 1) cc)) (by have := hVe.out; have := hRe.out; omega)
          rw [hlw] at hfW hfL hfV hfR
          go_wp2
          go_roundw
          case rel => exact ⟨k + 1, by omega, by go_num, lw ++ [⟨n, oa, oc⟩], some ⟨gg, 0, none⟩, cc, by show _ = _; rw [List.length_append, hlw]; rfl, by show _ = _; rw [List.map_append, hlm2.out, take_snoc _ _ hlt2, ← hvk.out]; rfl, hfL, hfW, by rw [List.length_append, hlw]; exact hfV, hfR, gse hbel5 (by have := hVe.out; show w.heap.size ≤ V; omega) _⟩
          case measure => simp [intOf]; omega
        · obtain rfl : k = d.waiting.length := by omega
          rw [List.take_length] at hlm2
          have y0 := hV.v0
          have y1 := hV.v1
          have z0 := hR.v0
          have z1 := hR.v1
          have zf := hR.vf
          obtain ⟨c0, c1, K⟩ := ret2 (A := .slice ba lb.length bc) (B := .slice wa lw.length wc) z0 z1
          have hRV : R < V := by have := hVe.out; have := hRe.out; omega
          have hfL := ((hL.set (V := R) (by omega) 0 (.slice ba lb.length bc)).set (V := R) (by omega) 1 (.slice wa lw.length wc)).le (base' := w.heap.size) (by have := hVe.out; have := hXe.out; omega)
          have hfW := ((hW.set (V := R) (by omega) 0 (.slice ba lb.length bc)).set (V := R) (by omega) 1 (.slice wa lw.length wc)).le (base' := w.heap.size) (by have := hVe.out; have := hXe.out; omega)
          have hbel := hb.trans (K.below hb.size (fun z hz e => by have := hRe.out; have := hXe.out; omega))
          clear K hRV
          go_wp2
          refine bodyPost_ret (v := .agg #[.slice ba lb.length bc, .slice wa lw.length wc]) (by simp [results, Try.results84, go_sem, c0, c1]) rfl ⟨lb, lw, ba, bc, wa, wc, by rw [DD.val, hll.out, hll2.out], hlm.out, hlm2.out, hfL, hfW, hap.out, hbel⟩

theorem l3copy_any (d : DD) (l : DL) (w : World) (hs : d.Small) (ha : DAt w l d) : Calls Try.prog 84 #[d.val l] w (CPost d w) :=
  (l3copy_far d l w hs ha).mono fun _ _ ⟨lb, lw, ba, bc, wa, wc, he, h1, h2, h3, h4, _, h6⟩ => ⟨lb, lw, ba, bc, wa, wc, he, h1, h2, h3, h4, h6⟩

end Go.Proofs.Ythjddpkegooobaa

/-
  DPOW: the power goes. Own work.
-/
namespace Go.Proofs.Ythjddpkegooobaa
open Go.RowKit

def keepAll (_ : Nat) : Bool := true

set_option maxRecDepth 100000 in
theorem syncKeeps_any (j : Nat) (w : World) : Calls Try.prog 135 #[.int .i64 j] w fun e w' => e = .returned (.bool (keepAll j)) ∧ Below w.heap.size w w' := by
  go_enter Try.func135, Try.ntmps135
  go_wp2
  go_ret
  exact ⟨rfl, gre _⟩

/-- bools at a place -/
def BoolsAt (w : World) (a : Option Addr) (ks : List Bool) : Prop := ∀ i, i < ks.length → ∃ b off, a = some ⟨b, off, none⟩ ∧ w.cell? ⟨b, off + i, none⟩ = some (.bool ks[i]!)
theorem BoolsAt.grow {w w' : World} {a : Option Addr} {ks : List Bool} (h : BoolsAt w a ks) (hb : Below w.heap.size w w') : BoolsAt w' a ks := fun i hi => by
  obtain ⟨b, off, ha, hc⟩ := h i hi
  exact ⟨b, off, ha, cell_later hb hc⟩
def keepOf (ks : List Bool) (i : Nat) : Bool := decide (i < ks.length) && ks[i]!

set_option maxHeartbeats 4000000 in
set_option maxRecDepth 100000 in
theorem powerSyncK_any (p : Nat) (bl : List (List Nat)) (pa : Option Addr) (pc : Nat) (ws : List DW) (w : World) (hw : ws.length ≤ 201) (hwb : ∀ x, x ∈ ws → 0 ≤ x.block ∧ x.block < 130) (h : Dr w p bl pa pc ws (.func (.func 135) #[] #[])) :
    Calls Try.prog 90 #[.pointer (some ⟨p, 0, none⟩)] w fun e w' => e = .returned (.tuple #[]) ∧ Dr w' p (settleN keepAll bl ws ws.length) none 0 [] (.func (.func 135) #[] #[]) ∧ Kept (fun z => z = p) w w' := by
  have hz65 := (zero_of_info zero_pending).1
  have x0 := h.d.ws
  have hpl0 := h.d.lt
  go_enter Try.func90, Try.ntmps90
  go_wp2
  go_loopw [9] (fun i wr => ∃ k : Nat, k ≤ ws.length ∧ i = .int .i64 k ∧ Dr wr p (settleN keepAll bl ws k) pa pc ws (.func (.func 135) #[] #[]) ∧ Kept (fun z => z = p) w wr) (fun i _ => ws.length - (intOf i).toNat)
  case atStart => exact ⟨0, Nat.zero_le _, rfl, h, Kept.refl _ _⟩
  case round =>
    obtain ⟨k, hk, rfl, hD, hb⟩ := hrel
    clear x0
    by_cases hlt : k < ws.length
    · obtain ⟨g, rfl, hg1, hgl, hrg⟩ := owns_pend hD.own hD.w64 hlt
      obtain ⟨n, hn⟩ := hid_ex ws[k]!
      rw [← hn.out] at hrg
      have hnm : n ∈ ws := by rw [hn.out]; exact mem_at hlt
      have hn64 : Hid (n.bytes.length = 64) := h.w64 _ hnm
      have hpl : n.pc.length = 65 := pc_length hn64.out
      have hbl64 : (bcells n.bytes).length = 64 := by rw [bcells_length]; exact hn64.out
      obtain ⟨hn0, hn1⟩ := hwb n hnm
      obtain ⟨m, hm⟩ : ∃ m : Nat, n.block = (m : Int) := ⟨n.block.toNat, by omega⟩
      have i0 : (0 : Int) ≤ (k : Int) := by omega
      have i1 : (k : Int) < (ws.length : Int) := by omega
      go_upto_region 3 with (first
        | (refine wpList_load_mid rfl 166 _ rfl g (k * 65) rfl n.pc _ hrg Try.underlying166 rfl (by rw [size_pending, hpl]) ?_)
        | (refine wpList_alloc_big rfl 166 rfl _ hz65 ?_)
        | (refine wpList_store_new rfl 166 _ _ rfl _ n.pc.toArray rfl rfl (by rw [size_pending]; simp [hpl]) (by simp [zeros, hpl]) (all_oneCell_toArray pc_one) ?_))
      have hDA := hD.grow (gal (gre wr) (.cells n.pc.toArray 166))
      have hbA : Kept (fun z => z = p) w (wr.alloc (.cells n.pc.toArray 166)) := hb.alloc _
      have hrn := range_new wr n.pc 166
      have hr1 : (wr.alloc (.cells n.pc.toArray 166)).rangeAt wr.heap.size 1 (bcells n.bytes) := range_drop (cs := [.int .i64 n.block]) hrn
      have hq1 : (wr.alloc (.cells n.pc.toArray 166)).cell? ⟨wr.heap.size, 0, none⟩ = some (.int .i64 (m : Int)) := by rw [← hm]; exact hrn 0 _ rfl
      have hsC : (wr.alloc (.cells n.pc.toArray 166)).heap.size = wr.heap.size + 1 := by simp
      generalize wr.alloc (.cells n.pc.toArray 166) = wC at hDA hbA hr1 hq1 hsC ⊢
      clear hrn hrg
      generalize wr.heap.size = Q at hr1 hq1 hsC hgl ⊢
      have kf := hDA.d.kf
      have hm130 : m < 130 := by omega
      have j0 : (0 : Int) ≤ (m : Int) := by omega
      have j1 : (m : Int) < 130 := by omega
      have hmt : n.block.toNat = m := by omega
      have hmt' : Hid _ := hmt
      have hm' : Hid _ := hm
      have hn0' : Hid _ := hn0
      have hn1' : Hid _ := hn1
      clear hmt hm hn0 hn1
      cases hkp : keepAll k with
      | true =>
        have hkp' : Hid _ := hkp
        have hst : Hid (settleN keepAll bl ws (k + 1) = setB (settleN keepAll bl ws k) n) := by show _ = _; simp only [settleN]; rw [if_pos hkp, ← hn.out]
        clear hkp
        go_upto_region 4 with (go_at_call 135; refine (syncKeeps_any k _).mono ?_; rintro e w2 ⟨rfl, hb2⟩; obtain ⟨hD2, hb2A, hq2, hr2⟩ : Dr w2 p (settleN keepAll bl ws k) (some ⟨g, 0, none⟩) pc ws (.func (.func 135) #[] #[]) ∧ Kept (fun z => z = p) w w2 ∧ w2.cell? ⟨Q, 0, none⟩ = some (.int .i64 (m : Int)) ∧ w2.rangeAt Q 1 (bcells n.bytes) := ⟨hDA.grow hb2, hbA.trans (Kept.of_below hb2 (fun z => z = p)) (fun _ _ e => e), cell_later hb2 hq1, range_grow hr1 hb2⟩; rw [hkp'.out])
        refine wp_regionU (fun u => u.cell? ⟨Q, 0, none⟩ = some (.int .i64 (m : Int)) ∧ u.rangeAt Q 1 (bcells n.bytes)) 8 (by kernel_rfl) ⟨hq2, hr2⟩ (fun hS0 => ?_)
        refine anyU_take (i := 0) (v := ?_) rfl (by kernel_rfl) (by kernel_rfl) (by kernel_rfl) (by kernel_rfl) (fun _ _ _ h => h) (Or.inl ⟨by rfl, ?_⟩) hS0 ?_
        rotate_left
        · intro u hSu; obtain ⟨s0, s1⟩ := hSu; go_simp <;> with_reducible rfl
        simp only [Act.put, List.getElem_toArray, List.getElem_cons_zero, List.setIfInBounds_toArray, List.set_cons_zero, List.set_cons_succ]
        refine anyU_take (i := 1) (v := ?_) rfl (by kernel_rfl) (by kernel_rfl) (by kernel_rfl) (by kernel_rfl) (fun _ _ _ h => h) (Or.inl ⟨by rfl, ?_⟩) hS0 ?_
        rotate_left
        · intro u hSu; obtain ⟨s0, s1⟩ := hSu; go_simp <;> with_reducible rfl
        simp only [Act.put, List.getElem_toArray, List.getElem_cons_zero, List.getElem_cons_succ, List.setIfInBounds_toArray, List.set_cons_zero, List.set_cons_succ]
        refine anyU_take (i := 2) (v := ?_) rfl (by kernel_rfl) (by kernel_rfl) (by kernel_rfl) (by kernel_rfl) (fun _ _ _ h => h) (Or.inl ⟨by rfl, ?_⟩) hS0 ?_
        rotate_left
        · intro u hSu; obtain ⟨s0, s1⟩ := hSu; go_simp <;> with_reducible rfl
        simp only [Act.put, List.getElem_toArray, List.getElem_cons_zero, List.getElem_cons_succ, List.setIfInBounds_toArray, List.set_cons_zero, List.set_cons_succ]
        refine anyU_take (i := 3) (v := ?_) rfl (by kernel_rfl) (by kernel_rfl) (by kernel_rfl) (by kernel_rfl) (fun _ _ _ h => h) (Or.inl ⟨by rfl, ?_⟩) hS0 ?_
        rotate_left
        · intro u hSu; obtain ⟨s0, s1⟩ := hSu; go_simp <;> with_reducible rfl
        simp only [Act.put, List.getElem_toArray, List.getElem_cons_zero, List.getElem_cons_succ, List.setIfInBounds_toArray, List.set_cons_zero, List.set_cons_succ]
        refine anyU_take (i := 4) rfl (by kernel_rfl) (by kernel_rfl) (by kernel_rfl) (by kernel_rfl) (fun _ _ _ h => h) (yieldsIf_load_mid (by rfl) 110 (.tmp 23) rfl Q 1 (by rfl) (bcells n.bytes) _ (fun _ hS => hS.2) Try.underlying110 rfl (by rw [size_content, hbl64])) hS0 ?_
        simp only [Act.put, List.getElem_toArray, List.getElem_cons_zero, List.getElem_cons_succ, List.setIfInBounds_toArray, List.set_cons_zero, List.set_cons_succ]
        obtain ⟨s0, s1⟩ := id hS0
        refine anyU_one (i := 5) (by kernel_rfl) rfl (fun K hK => ?_)
        go_simp
        refine hK.out _ _ hS0 ?_
        clear hK
        refine anyU_one (i := 6) (by kernel_rfl) rfl (fun K hK => ?_)
        go_simp
        refine hK.out _ _ hS0 ?_
        clear hK
        refine anyU_one (i := 7) (by kernel_rfl) rfl (fun K hK => ?_)
        go_simp
        refine hK.out _ _ hS0 ?_
        clear hK
        refine anyU_last (by kernel_rfl) rfl (by kernel_rfl) (fun K hK => ?_)
        rw [if_pos (by rfl)]
        refine wp_store_mid 110 (.tmp 27) (.tmp 24) rfl p (m * 64) (bcells n.bytes).toArray (by rfl) (by rfl) (by rw [List.size_toArray, hbl64]; exact there_part (hD2.d.grow (gdr (gre w2))).th (Nat.zero_le _) (by omega)) (by rw [size_content, List.size_toArray, hbl64]) (all_oneCell_toArray cells_u8) ?_
        refine hK.out _ _ ?_
        clear hK
        simp only [Act.put, List.getElem_toArray, List.getElem_cons_zero, List.getElem_cons_succ]
        have hfin := (hD2.d.grow (gdr (gre w2))).setB (x := n) hn0'.out hn1'.out hn64.out
        rw [hmt'.out, ← hst.out] at hfin
        have hKs := Kept.setCells (p := fun z => z = p) (bcells n.bytes) (m * 64) (Kept.refl _ w2.drew) (fun _ => rfl)
        go_wp2
        go_roundw
        case rel => exact ⟨k + 1, by omega, by go_num, ⟨hfin, hKs.owns (hD2.grow (gdr (gre w2))).own (fun z hz e => by have := (hD2.own.lt z hz).1; omega), h.w64⟩, hb2A.drew.trans hKs (fun _ _ e => e)⟩
        case measure => simp [intOf]; omega
      | false =>
        have hkp' : Hid _ := hkp
        have hst : Hid (settleN keepAll bl ws (k + 1) = settleN keepAll bl ws k) := by show _ = _; simp only [settleN]; rw [if_neg (by rw [hkp]; exact Bool.false_ne_true)]
        clear hkp
        go_wp2_with (go_at_call 135; refine (syncKeeps_any k _).mono ?_; rintro e w2 ⟨rfl, hb2⟩; rw [hkp'.out])
        go_roundw
        case rel => exact ⟨k + 1, by omega, by go_num, by rw [hst.out]; exact hDA.grow hb2, hbA.trans (Kept.of_below hb2 (fun z => z = p)) (fun _ _ e => e)⟩
        case measure => simp [intOf]; omega
    · obtain rfl : k = ws.length := by omega
      have x0 := hD.d.ws
      have xf := hD.d.frozen (o := 8320) (by decide)
      have hfin := hD.d.setW (.slice none 0 0)
      go_wp2
      first | go_end0 | refine bodyPost_ret (results_none rfl _ _ _) rfl ?_
      exact ⟨rfl, ⟨hfin, owns_none _ _ _ _, fun x hx => (by cases hx)⟩, hb.trans (Kept.one wr p 8320 _) (fun _ _ e => e)⟩

theorem powerSync_any (p : Nat) (bl : List (List Nat)) (pa : Option Addr) (pc : Nat) (ws : List DW) (w : World) (hw : ws.length ≤ 201) (hwb : ∀ x, x ∈ ws → 0 ≤ x.block ∧ x.block < 130) (h : Dr w p bl pa pc ws (.func (.func 135) #[] #[])) :
    Calls Try.prog 90 #[.pointer (some ⟨p, 0, none⟩)] w fun e w' => e = .returned (.tuple #[]) ∧ Dr w' p (settleN keepAll bl ws ws.length) none 0 [] (.func (.func 135) #[] #[]) ∧ Below p w w' :=
  (powerSyncK_any p bl pa pc ws w hw hwb h).mono fun _ _ ⟨he, hD, hK⟩ => ⟨he, hD, hK.below (by have := h.d.lt; omega) (fun z hz e => by omega)⟩

end Go.Proofs.Ythjddpkegooobaa
