/-
  SL3: the specification's copy of a disk. Own work.
-/
import Derived.Test.YthjddpkegooobabSBlankA
namespace Go.Proofs.Ythjddpkegooobab
open Go.RowKit

/-- the block that holds a list of bytes -/
def LB.own (y : LB) : Option Nat := (Value.slice y.a y.l.length y.cap).ownBlock
/-- lists of bytes, no two in one block -/
def AparL (lb : List LB) : Prop := lb.Pairwise fun x y => ∀ z, x.own = some z → y.own ≠ some z
theorem AparL.push {lb : List LB} {y : LB} {B : Nat} (h : AparL lb) (hb : ∀ x, x ∈ lb → ∀ z, x.own = some z → z < B) (hy : ∀ z, y.own = some z → B ≤ z) : AparL (lb ++ [y]) :=
  List.pairwise_append.2 ⟨h, List.pairwise_singleton _ _, fun x hx u hu z hz e => by
    obtain rfl : u = y := by simpa using hu
    have := hb x hx z hz
    have := hy z e
    omega⟩
def CInv (w wr : World) (d : DD) (l : DL) (X R V k : Nat) : Prop := ∃ (lb : List LB) (ba : Option Addr) (bc : Nat), Hid (lb.length = k) ∧ Hid (lb.map (·.l) = d.blocks.take k) ∧ Hid (AparL lb) ∧ SB (V + 1) wr ba bc lb ∧ VB wr V (.slice ba lb.length bc) (.slice none 0 0) ∧ VB wr R (.slice none 0 0) (.slice none 0 0) ∧ DBox wr X d l ∧ Below w.heap.size w wr
def CInv2 (w wr : World) (d : DD) (R V : Nat) (lb : List LB) (ba : Option Addr) (bc k : Nat) : Prop := ∃ (lw : List LW) (wa : Option Addr) (wc : Nat), Hid (lw.length = k) ∧ Hid (lw.map (·.x) = d.waiting.take k) ∧ SB (V + 1) wr ba bc lb ∧ SW (V + 1) wr wa wc lw ∧ VB wr V (.slice ba lb.length bc) (.slice wa lw.length wc) ∧ VB wr R (.slice none 0 0) (.slice none 0 0) ∧ Below w.heap.size w wr

/-- a copy -/
def CPost (d : DD) (w : World) (e : Ending) (w' : World) : Prop := ∃ (lb : List LB) (lw : List LW) (ba : Option Addr) (bc : Nat) (wa : Option Addr) (wc : Nat), e = .returned (d.val ⟨ba, bc, wa, wc⟩) ∧ lb.map (·.l) = d.blocks ∧ lw.map (·.x) = d.waiting ∧ SB w.heap.size w' ba bc lb ∧ SW w.heap.size w' wa wc lw ∧ Below w.heap.size w w'

/-- a copy, its blocks apart -/
def CPostF (d : DD) (w : World) (e : Ending) (w' : World) : Prop := ∃ (lb : List LB) (lw : List LW) (ba : Option Addr) (bc : Nat) (wa : Option Addr) (wc : Nat), e = .returned (d.val ⟨ba, bc, wa, wc⟩) ∧ lb.map (·.l) = d.blocks ∧ lw.map (·.x) = d.waiting ∧ SB w.heap.size w' ba bc lb ∧ SW w.heap.size w' wa wc lw ∧ AparL lb ∧ Below w.heap.size w w'
theorem SB.le {base base' : Nat} {w : World} {ba : Option Addr} {bc : Nat} {lb : List LB} (h : SB base w ba bc lb) (hb : base' ≤ base) : SB base' w ba bc lb := ⟨owns_le h.own hb, fun y hy => owns_le (h.byt y hy) hb⟩
theorem SW.le {base base' : Nat} {w : World} {wa : Option Addr} {wc : Nat} {lw : List LW} (h : SW base w wa wc lw) (hb : base' ≤ base) : SW base' w wa wc lw := ⟨owns_le h.own hb, fun y hy => owns_le (h.byt y hy) hb⟩

set_option maxHeartbeats 4000000 in
set_option maxRecDepth 100000 in
theorem l3copy_far (d : DD) (l : DL) (w : World) (hs : d.Small) (ha : DAt w l d) : Calls Try.prog 102 #[d.val l] w (CPostF d w) := by
  obtain ⟨j0, hj, hy0, hy1, hy2'⟩ := info_parts info_bytes
  obtain ⟨k0, hkk, hk0, hk1, hk2⟩ := info_parts info_implWrite
  go_enter Try.func102, Try.ntmps102
  go_upto_region 2 with fail
  have hw0 := gal (gre w) (.cells #[.slice l.ba d.blocks.length l.bc, .slice l.wa d.waiting.length l.wc] 50)
  have hX0 := DBox.new w d l 50
  have hs0 : (w.alloc (.cells #[.slice l.ba d.blocks.length l.bc, .slice l.wa d.waiting.length l.wc] 50)).heap.size = w.heap.size + 1 := by simp
  generalize hXe0 : w.heap.size = X0 at hX0 hs0 hw0 ⊢
  generalize w.alloc (.cells #[.slice l.ba d.blocks.length l.bc, .slice l.wa d.waiting.length l.wc] 50) = w0 at hw0 hX0 hs0 ⊢
  have hw1 := gal (gal (gre w0) (.cells #[.slice none 0 0, .slice none 0 0] 50)) (.cells #[.slice none 0 0, .slice none 0 0] 50)
  have hR := (VB.new_at w0 (.slice none 0 0) (.slice none 0 0) 50 (X0 + 1) hs0.symm).grow (gal (gre _) (.cells #[.slice none 0 0, .slice none 0 0] 50))
  have hV := VB.new_at (w0.alloc (.cells #[.slice none 0 0, .slice none 0 0] 50)) (.slice none 0 0) (.slice none 0 0) 50 (X0 + 1 + 1) (by simp [hs0])
  have hX := hX0.grow hw1
  generalize (w0.alloc (.cells #[.slice none 0 0, .slice none 0 0] 50)).alloc (.cells #[.slice none 0 0, .slice none 0 0] 50) = wA at hw1 hR hV hX ⊢
  have hwA : Below w.heap.size w wA := by rw [← hXe0] at hw0; exact gca hw0 hw1
  have hXe : Hid (X0 = w.heap.size) := hXe0.symm
  obtain ⟨R, hRe⟩ := hid_ex (X0 + 1)
  obtain ⟨V, hVe⟩ := hid_ex (X0 + 1 + 1)
  rw [← hVe.out] at hV ⊢
  rw [← hRe.out] at hR ⊢
  have hI0 : CInv w wA d l X0 R V 0 := ⟨[], none, 0, rfl, rfl, List.Pairwise.nil, SB.nil _ _, hV, hR, hX, hwA⟩
  have x0 := hX.c0
  have x1 := hX.c1
  clear hw1 hR hV hX0 hw0 hs0 hwA hX
  go_wp2
  go_loopw [11] (fun i wr => ∃ k : Nat, k ≤ d.blocks.length ∧ i = .int .i64 k ∧ CInv w wr d l X0 R V k) (fun i _ => d.blocks.length - (intOf i).toNat)
  case atStart => exact ⟨0, Nat.zero_le _, rfl, hI0⟩
  case round =>
    obtain ⟨k, hk, rfl, lb, ba, bc, hll, hlm, hap, hL, hV, hR, hX, hb⟩ := hrel
    clear hI0 x0 x1
    by_cases hlt : k < d.blocks.length
    · obtain ⟨n, b, off, av, cv, hvk, hvm, hba, c0, hva⟩ := (ha.b.grow hb).get hlt
      rw [hba]
      have i0 : (0 : Int) ≤ (k : Int) := by omega
      have i1 : (k : Int) < (d.blocks.length : Int) := by omega
      go_wp2
      refine wp_regionU (fun u => u.cell? ⟨V, 0, none⟩ = some (.slice ba lb.length bc)) 7 (by kernel_rfl) (hV.grow (gdr (gre wr))).v0 (fun hS0 => ?_)
      have hLd := hL.grow (gdr (gre wr))
      have hVd := hV.grow (gdr (gre wr))
      have hRd := hR.grow (gdr (gre wr))
      have hXd := hX.grow (gdr (gre wr))
      have hbd := gdr hb
      have hvd := hva.grow (gdr (gre wr))
      generalize wr.drew = wd at hLd hVd hRd hXd hbd hvd hS0 ⊢
      refine anyU_take (i := 0) (v := ?_) rfl (by kernel_rfl) (by kernel_rfl) (by kernel_rfl) (by kernel_rfl) (fun _ _ _ h => h) (Or.inl ⟨by rfl, ?_⟩) hS0 ?_
      rotate_left
      · intro u hSu; (try dsimp only at hSu); go_simp <;> with_reducible rfl
      simp only [Act.put, List.getElem_toArray, List.getElem_cons_zero, List.setIfInBounds_toArray, List.set_cons_zero, List.set_cons_succ]
      refine anyU_take (i := 1) (v := ?_) rfl (by kernel_rfl) (by kernel_rfl) (by kernel_rfl) (by kernel_rfl) (fun _ _ _ h => h) (Or.inl ⟨by rfl, ?_⟩) hS0 ?_
      rotate_left
      · intro u hSu; (try dsimp only at hSu); go_simp <;> with_reducible rfl
      simp only [Act.put, List.getElem_toArray, List.getElem_cons_zero, List.getElem_cons_succ, List.setIfInBounds_toArray, List.set_cons_zero, List.set_cons_succ]
      refine anyU_take (i := 2) (v := ?_) rfl (by kernel_rfl) (by kernel_rfl) (by kernel_rfl) (by kernel_rfl) (fun _ _ _ h => h) (Or.inl ⟨by rfl, ?_⟩) hS0 ?_
      rotate_left
      · intro u hSu; (try dsimp only at hSu); go_simp <;> with_reducible rfl
      simp only [Act.put, List.getElem_toArray, List.getElem_cons_zero, List.getElem_cons_succ, List.setIfInBounds_toArray, List.set_cons_zero, List.set_cons_succ]
      refine anyU_one (i := 3) (by kernel_rfl) rfl (fun K hK => ?_)
      go_simp
      refine (l2copy_any av n cv _ (hs.bb n hvm) hvd).mono ?_
      rintro e w1 ⟨oa, oc, rfl, hoy, hB1⟩
      have hap2 : Hid (AparL (lb ++ [⟨n, oa, oc⟩])) := AparL.push (B := wd.heap.size) hap.out (fun x hx z hz => by
        obtain ⟨⟨c, hc⟩, _⟩ := owns_isB (hLd.byt x hx) hz
        exact (Array.getElem?_eq_some_iff.1 hc).1) (fun z hz => (owns_isB hoy hz).2)
      have hS1 := cell_later hB1 hS0
      refine hK.out _ _ hS1 ?_
      clear hK
      have hL1 := hLd.grow hB1
      have hV1 := hVd.grow hB1
      have hR1 := hRd.grow hB1
      have hX1 := hXd.grow hB1
      have hbel1 := gca hbd hB1
      have hy : w1.ownsRow (V + 1) 5 1 (.slice oa n.length oc) n.length (bcells n) := owns_le hoy (by have := hVd.lt; omega)
      have hB2 := gal (gre w1) (.cells #[.slice oa n.length oc] 28)
      have hS2 := cell_later hB2 hS1
      have hS2' : Hid _ := hS2
      clear hS2
      refine anyU_one (i := 4) (by kernel_rfl) rfl (fun K hK => ?_)
      go_simp
      refine hK.out _ _ hS2'.out ?_
      clear hK
      have hL2 := hL1.grow hB2
      have hV2 := hV1.grow hB2
      have hR2 := hR1.grow hB2
      have hX2 := hX1.grow hB2
      have hbel2 := gca hbel1 hB2
      have hy2 := (Kept.of_below hB2 (fun _ => False)).owns hy (fun _ _ e => e)
      have hnew := World.news_of_block (cs := #[.slice oa n.length oc]) (t := 28) (fr := (0, 0)) (blk_new_at w1 (.cells #[.slice oa n.length oc] 28) _ rfl)
      have hs2 : (w1.alloc (.cells #[.slice oa n.length oc] 28)).heap.size = w1.heap.size + 1 := by simp
      generalize w1.alloc (.cells #[.slice oa n.length oc] 28) = w2 at hB2 hS2' hL2 hV2 hR2 hX2 hbel2 hy2 hnew hs2 ⊢
      have hlw := hll.out
      have hbl := hs.bl
      refine anyU_one (i := 5) (by kernel_rfl) rfl (fun K hK => ?_)
      refine step_append_lies _ (by rfl) (.tmp 16) (.tmp 19) 47 rfl (V + 1) 28 j0 _ 1 24 Try.underlying47 hj hy0 hy1 hy2' rfl (by decide) (.slice ba lb.length bc) lb.length (lb.map LB.v) (by rfl) hL2.own ⟨w1.heap.size, 0, none⟩ 1 1 [.slice oa n.length oc] (by rfl) rfl hnew (by simp [Value.oneCell']) (by decide) (by unfold maxLen; omega) (by omega) (by have := hV2.lt; omega) (w1.heap.size + 1) hs2 ?_
      intro gg cc w5 hown5 hgrow5 hat5 hlt5
      have K5 := Kept.of_grown hgrow5
      have hz5 : ∀ z, (Value.slice ba lb.length bc).ownBlock = some z → V + 1 ≤ z := fun z e => (owns_isS hL2.own e).2
      have hL5 := hL2.push (y := ⟨n, oa, oc⟩) hy2 hown5 hgrow5
      have hV5 := hV2.kept K5 (fun e => by have := hz5 _ e; omega)
      refine hK.out _ _ hV5.v0 ?_
      clear hK
      simp only [Act.put, List.getElem_toArray, List.getElem_cons_zero, List.getElem_cons_succ, List.setIfInBounds_toArray, List.set_cons_zero, List.set_cons_succ]
      refine anyU_one (i := 6) (by kernel_rfl) rfl (fun K hK => ?_)
      go_simp
      refine hK.out _ _ hV5.v0 ?_
      clear hK
      have fz := hV5.vf
      have c8 := hV5.v0
      refine anyU_last (by kernel_rfl) rfl (by kernel_rfl) (fun K hK => ?_)
      go_simp
      refine hK.out _ _ ?_
      clear hK
      have hbel5 := hbel2.trans (K5.below (B := w.heap.size) hbel2.size (fun z hz e => by have := hz5 _ e; have := hVe.out; omega))
      have hfin : SB (V + 1) (w5.setCell ⟨V, 0, none⟩ (.slice (some ⟨gg, 0, none⟩) (lb.length + 1) cc)) (some ⟨gg, 0, none⟩) cc (lb ++ [⟨n, oa, oc⟩]) := hL5.set (by omega) _ _
      have hfV := hV5.set0 (.slice (some ⟨gg, 0, none⟩) (lb.length + 1) cc)
      have hfR := (hR2.kept K5 (fun e => by have := hz5 _ e; have := hVe.out; have := hRe.out; omega)).kept (Kept.one w5 V 0 (.slice (some ⟨gg, 0, none⟩) (lb.length + 1) cc)) (by have := hVe.out; have := hRe.out; omega)
      have hfX := (hX2.kept K5 (fun e => by have := hz5 _ e; have := hVe.out; have := hXe.out; omega)).kept (Kept.one w5 V 0 (.slice (some ⟨gg, 0, none⟩) (lb.length + 1) cc)) (by have := hVe.out; have := hXe.out; omega)
      rw [hlw] at hfin hfV hfR hfX
      go_wp2
      go_roundw
      case rel => exact ⟨k + 1, by omega, by go_num, lb ++ [⟨n, oa, oc⟩], some ⟨gg, 0, none⟩, cc, by show _ = _; rw [List.length_append, hlw]; rfl, by show _ = _; rw [List.map_append, hlm.out, take_snoc _ _ hlt, ← hvk.out]; rfl, hap2, hfin, by rw [List.length_append, hlw]; exact hfV, hfR, hfX, gse hbel5 (by have := hVe.out; show w.heap.size ≤ V; omega) _⟩
      case measure => simp [intOf]; omega
    · obtain rfl : k = d.blocks.length := by omega
      rw [List.take_length] at hlm
      have y0 := hX.c0
      have y1 := hX.c1
      have hJ0 : CInv2 w wr d R V lb ba bc 0 := ⟨[], none, 0, rfl, rfl, hL, SW.nil _ _, hV, hR, hb⟩
      clear hL hV hR hb hX
      go_wp2
      go_loopw [26] (fun i wr => ∃ k : Nat, k ≤ d.waiting.length ∧ i = .int .i64 k ∧ CInv2 w wr d R V lb ba bc k) (fun i _ => d.waiting.length - (intOf i).toNat)
      case atStart => exact ⟨0, Nat.zero_le _, rfl, hJ0⟩
      case round =>
        obtain ⟨k, hk2', rfl, lw, wa, wc, hll2, hlm2, hL, hW, hV, hR, hb⟩ := hrel
        clear hJ0 y0 y1
        by_cases hlt2 : k < d.waiting.length
        · obtain ⟨n, b, off, av, cv, hvk, hvm, hba, c0, c1, hva⟩ := (ha.w.grow hb).get hlt2
          rw [hba]
          have i0 : (0 : Int) ≤ (k : Int) := by omega
          have i1 : (k : Int) < (d.waiting.length : Int) := by omega
          go_upto_region 10 with fail
          have hAl := gal (gre wr) (.cells #[.int .i64 n.block, .slice av n.bytes.length cv] 133)
          have hLA := hL.grow hAl
          have hWA := hW.grow hAl
          have hVA := hV.grow hAl
          have hRA := hR.grow hAl
          have hbA := gal hb (.cells #[.int .i64 n.block, .slice av n.bytes.length cv] 133)
          have hvaA := hva.grow hAl
          have q0 : (wr.alloc (.cells #[.int .i64 n.block, .slice av n.bytes.length cv] 133)).cell? ⟨wr.heap.size, 0, none⟩ = some (.int .i64 n.block) := by simp
          have q1 : (wr.alloc (.cells #[.int .i64 n.block, .slice av n.bytes.length cv] 133)).cell? ⟨wr.heap.size, 1, none⟩ = some (.slice av n.bytes.length cv) := by simp
          have hsC : (wr.alloc (.cells #[.int .i64 n.block, .slice av n.bytes.length cv] 133)).heap.size = wr.heap.size + 1 := by simp
          generalize wr.alloc (.cells #[.int .i64 n.block, .slice av n.bytes.length cv] 133) = wC at hAl hLA hWA hVA hRA hbA hvaA q0 q1 hsC ⊢
          generalize hQ : wr.heap.size = Q at q0 q1 hsC ⊢
          clear hva hL hV hR hb c0 c1 hAl
          have hSk : ∀ (u u' : World), Below u.heap.size u u' → (u.cell? ⟨V, 1, none⟩ = some (.slice wa lw.length wc) ∧ u.cell? ⟨Q, 0, none⟩ = some (.int .i64 n.block) ∧ u.cell? ⟨Q, 1, none⟩ = some (.slice av n.bytes.length cv)) → (u'.cell? ⟨V, 1, none⟩ = some (.slice wa lw.length wc) ∧ u'.cell? ⟨Q, 0, none⟩ = some (.int .i64 n.block) ∧ u'.cell? ⟨Q, 1, none⟩ = some (.slice av n.bytes.length cv)) := fun u u' hb h => ⟨cell_later hb h.1, cell_later hb h.2.1, cell_later hb h.2.2⟩
          refine wp_regionU (fun u => u.cell? ⟨V, 1, none⟩ = some (.slice wa lw.length wc) ∧ u.cell? ⟨Q, 0, none⟩ = some (.int .i64 n.block) ∧ u.cell? ⟨Q, 1, none⟩ = some (.slice av n.bytes.length cv)) 11 (by kernel_rfl) ⟨(hVA.grow (gdr (gre wC))).v1, q0, q1⟩ (fun hS0 => ?_)
          have hLd := hLA.grow (gdr (gre wC))
          have hWd := hWA.grow (gdr (gre wC))
          have hVd := hVA.grow (gdr (gre wC))
          have hRd := hRA.grow (gdr (gre wC))
          skip
          have hbd := gdr hbA
          have hvd := hvaA.grow (gdr (gre wC))
          have hsd : wC.drew.heap.size = wC.heap.size := rfl
          generalize wC.drew = wd at hLd hWd hVd hRd hbd hvd hS0 hsd ⊢
          refine anyU_take (i := 0) (v := ?_) rfl (by kernel_rfl) (by kernel_rfl) (by kernel_rfl) (by kernel_rfl) (fun _ _ _ h => h) (Or.inl ⟨by rfl, ?_⟩) hS0 ?_
          rotate_left
          · intro u hSu; obtain ⟨s0, s1, s2⟩ := hSu; go_simp <;> with_reducible rfl
          simp only [Act.put, List.getElem_toArray, List.getElem_cons_zero, List.setIfInBounds_toArray, List.set_cons_zero, List.set_cons_succ]
          refine anyU_take (i := 1) (v := ?_) rfl (by kernel_rfl) (by kernel_rfl) (by kernel_rfl) (by kernel_rfl) (fun _ _ _ h => h) (Or.inl ⟨by rfl, ?_⟩) hS0 ?_
          rotate_left
          · intro u hSu; obtain ⟨s0, s1, s2⟩ := hSu; go_simp <;> with_reducible rfl
          simp only [Act.put, List.getElem_toArray, List.getElem_cons_zero, List.getElem_cons_succ, List.setIfInBounds_toArray, List.set_cons_zero, List.set_cons_succ]
          refine anyU_take (i := 2) (v := ?_) rfl (by kernel_rfl) (by kernel_rfl) (by kernel_rfl) (by kernel_rfl) (fun _ _ _ h => h) (Or.inl ⟨by rfl, ?_⟩) hS0 ?_
          rotate_left
          · intro u hSu; obtain ⟨s0, s1, s2⟩ := hSu; go_simp <;> with_reducible rfl
          simp only [Act.put, List.getElem_toArray, List.getElem_cons_zero, List.getElem_cons_succ, List.setIfInBounds_toArray, List.set_cons_zero, List.set_cons_succ]
          refine anyU_take (i := 3) (v := ?_) rfl (by kernel_rfl) (by kernel_rfl) (by kernel_rfl) (by kernel_rfl) (fun _ _ _ h => h) (Or.inl ⟨by rfl, ?_⟩) hS0 ?_
          rotate_left
          · intro u hSu; obtain ⟨s0, s1, s2⟩ := hSu; go_simp <;> with_reducible rfl
          simp only [Act.put, List.getElem_toArray, List.getElem_cons_zero, List.getElem_cons_succ, List.setIfInBounds_toArray, List.set_cons_zero, List.set_cons_succ]
          refine anyU_take (i := 4) (v := ?_) rfl (by kernel_rfl) (by kernel_rfl) (by kernel_rfl) (by kernel_rfl) (fun _ _ _ h => h) (Or.inl ⟨by rfl, ?_⟩) hS0 ?_
          rotate_left
          · intro u hSu; obtain ⟨s0, s1, s2⟩ := hSu; go_simp <;> with_reducible rfl
          simp only [Act.put, List.getElem_toArray, List.getElem_cons_zero, List.getElem_cons_succ, List.setIfInBounds_toArray, List.set_cons_zero, List.set_cons_succ]
          refine anyU_take (i := 5) (v := ?_) rfl (by kernel_rfl) (by kernel_rfl) (by kernel_rfl) (by kernel_rfl) (fun _ _ _ h => h) (Or.inl ⟨by rfl, ?_⟩) hS0 ?_
          rotate_left
          · intro u hSu; obtain ⟨s0, s1, s2⟩ := hSu; go_simp <;> with_reducible rfl
          simp only [Act.put, List.getElem_toArray, List.getElem_cons_zero, List.getElem_cons_succ, List.setIfInBounds_toArray, List.set_cons_zero, List.set_cons_succ]
          refine anyU_one (i := 6) (by kernel_rfl) rfl (fun K hK => ?_)
          go_simp
          refine (l2copy_any av n.bytes cv _ (hs.wb n hvm) hvd).mono ?_
          rintro e w1 ⟨oa, oc, rfl, hoy, hB1⟩
          have hS1 := hSk _ _ hB1 hS0
          refine hK.out _ _ hS1 ?_
          clear hK
          have hL1 := hLd.grow hB1
          have hW1 := hWd.grow hB1
          have hV1 := hVd.grow hB1
          have hR1 := hRd.grow hB1
          skip
          have hbel1 := gca hbd hB1
          have hy : w1.ownsRow (V + 1) 5 1 (.slice oa n.bytes.length oc) n.bytes.length (bcells n.bytes) := owns_le hoy (by have := hVd.lt; omega)
          refine anyU_one (i := 7) (by kernel_rfl) rfl (fun K hK => ?_)
          go_simp
          refine hK.out _ _ hS1 ?_
          clear hK
          have hB2 := gal (gre w1) (.cells #[.int .i64 n.block, .slice oa n.bytes.length oc] 133)
          have hS2 := hSk _ _ hB2 hS1
          have hS2' : Hid _ := hS2
          clear hS2
          refine anyU_one (i := 8) (by kernel_rfl) rfl (fun K hK => ?_)
          go_simp
          refine hK.out _ _ hS2'.out ?_
          clear hK
          have hL2 := hL1.grow hB2
          have hW2 := hW1.grow hB2
          have hV2 := hV1.grow hB2
          have hR2 := hR1.grow hB2
          skip
          have hbel2 := gca hbel1 hB2
          have hy2 := (Kept.of_below hB2 (fun _ => False)).owns hy (fun _ _ e => e)
          have hnew := World.news_of_block (cs := #[.int .i64 n.block, .slice oa n.bytes.length oc]) (t := 133) (fr := (0, 0)) (blk_new_at w1 (.cells #[.int .i64 n.block, .slice oa n.bytes.length oc] 133) _ rfl)
          have hs2 : (w1.alloc (.cells #[.int .i64 n.block, .slice oa n.bytes.length oc] 133)).heap.size = w1.heap.size + 1 := by simp
          have hs1 := hB1.size
          generalize w1.alloc (.cells #[.int .i64 n.block, .slice oa n.bytes.length oc] 133) = w2 at hB2 hS2' hL2 hW2 hV2 hR2 hbel2 hy2 hnew hs2 ⊢
          have hlw := hll2.out
          have hwl := hs.wl
          refine anyU_one (i := 9) (by kernel_rfl) rfl (fun K hK => ?_)
          refine step_append_lies _ (by rfl) (.tmp 31) (.tmp 38) 48 rfl (V + 1) 133 k0 _ 2 32 Try.underlying48 hkk hk0 hk1 hk2 rfl (by decide) (.slice wa lw.length wc) lw.length (wCells lw) (by rfl) hW2.own ⟨w1.heap.size, 0, none⟩ 1 1 [.int .i64 n.block, .slice oa n.bytes.length oc] (by rfl) rfl hnew (by simp [Value.oneCell']) (by decide) (by unfold maxLen; omega) (by omega) (by have := hV2.lt; omega) (w1.heap.size + 1) hs2 ?_
          intro gg cc w5 hown5 hgrow5 hat5 hlt5
          have K5 := Kept.of_grown hgrow5
          have hz5 : ∀ z, (Value.slice wa lw.length wc).ownBlock = some z → IsW w2 z ∧ V + 1 ≤ z := fun z e => owns_isW hW2.own e
          have hzQ : ∀ z, (Value.slice wa lw.length wc).ownBlock = some z → z < Q := fun z e => by obtain ⟨c, hc⟩ := (owns_isW hW.own e).1; have := (Array.getElem?_eq_some_iff.1 hc).1; omega
          have hW5 := hW2.push (y := ⟨n, oa, oc⟩) hy2 hown5 hgrow5
          have hL5 := hL2.kept K5 (fun z e _ => ⟨fun hS => not_W_of_S hS (hz5 z e).1, not_B_of_W (hz5 z e).1⟩)
          have hV5 := hV2.kept K5 (fun e => by have := (hz5 _ e).2; omega)
          have hS5 : w5.cell? ⟨V, 1, none⟩ = some (.slice wa lw.length wc) ∧ w5.cell? ⟨Q, 0, none⟩ = some (.int .i64 n.block) ∧ w5.cell? ⟨Q, 1, none⟩ = some (.slice av n.bytes.length cv) := ⟨hV5.v1, K5.cell hS2'.out.2.1 (fun e => by have := hzQ _ e; omega), K5.cell hS2'.out.2.2 (fun e => by have := hzQ _ e; omega)⟩
          refine hK.out _ _ hS5 ?_
          clear hK
          simp only [Act.put, List.getElem_toArray, List.getElem_cons_zero, List.getElem_cons_succ, List.setIfInBounds_toArray, List.set_cons_zero, List.set_cons_succ]
          refine anyU_one (i := 10) (by kernel_rfl) rfl (fun K hK => ?_)
          go_simp
          refine hK.out _ _ hS5 ?_
          clear hK
          have fz := hV5.vf
          have c8 := hV5.v1
          refine anyU_last (by kernel_rfl) rfl (by kernel_rfl) (fun K hK => ?_)
          go_simp
          refine hK.out _ _ ?_
          clear hK
          have hbel5 := hbel2.trans (K5.below (B := w.heap.size) hbel2.size (fun z hz e => by have := (hz5 _ e).2; have := hVe.out; omega))
          have hfW : SW (V + 1) (w5.setCell ⟨V, 1, none⟩ (.slice (some ⟨gg, 0, none⟩) (lw.length + 1) cc)) (some ⟨gg, 0, none⟩) cc (lw ++ [⟨n, oa, oc⟩]) := hW5.set (by omega) _ _
          have hfL : SB (V + 1) (w5.setCell ⟨V, 1, none⟩ (.slice (some ⟨gg, 0, none⟩) (lw.length + 1) cc)) ba bc lb := hL5.set (by omega) _ _
          have hfV := hV5.set1 (.slice (some ⟨gg, 0, none⟩) (lw.length + 1) cc)
          have hfR := (hR2.kept K5 (fun e => by have := (hz5 _ e).2; have := hVe.out; have := hRe.out; omega)).kept (Kept.one w5 V 1 (.slice (some ⟨gg, 0, none⟩) (lw.length + 1) cc)) (by have := hVe.out; have := hRe.out; omega)
          rw [hlw] at hfW hfL hfV hfR
          go_wp2
          go_roundw
          case rel => exact ⟨k + 1, by omega, by go_num, lw ++ [⟨n, oa, oc⟩], some ⟨gg, 0, none⟩, cc, by show _ = _; rw [List.length_append, hlw]; rfl, by show _ = _; rw [List.map_append, hlm2.out, take_snoc _ _ hlt2, ← hvk.out]; rfl, hfL, hfW, by rw [List.length_append, hlw]; exact hfV, hfR, gse hbel5 (by have := hVe.out; show w.heap.size ≤ V; omega) _⟩
          case measure => simp [intOf]; omega
        · obtain rfl : k = d.waiting.length := by omega
          rw [List.take_length] at hlm2
          have y0 := hV.v0
          have y1 := hV.v1
          have z0 := hR.v0
          have z1 := hR.v1
          have zf := hR.vf
          obtain ⟨c0, c1, K⟩ := ret2 (A := .slice ba lb.length bc) (B := .slice wa lw.length wc) z0 z1
          have hRV : R < V := by have := hVe.out; have := hRe.out; omega
          have hfL := ((hL.set (V := R) (by omega) 0 (.slice ba lb.length bc)).set (V := R) (by omega) 1 (.slice wa lw.length wc)).le (base' := w.heap.size) (by have := hVe.out; have := hXe.out; omega)
          have hfW := ((hW.set (V := R) (by omega) 0 (.slice ba lb.length bc)).set (V := R) (by omega) 1 (.slice wa lw.length wc)).le (base' := w.heap.size) (by have := hVe.out; have := hXe.out; omega)
          have hbel := hb.trans (K.below hb.size (fun z hz e => by have := hRe.out; have := hXe.out; omega))
          clear K hRV
          go_wp2
          refine bodyPost_ret (v := .agg #[.slice ba lb.length bc, .slice wa lw.length wc]) (by simp [results, Try.results102, go_sem, c0, c1]) rfl ⟨lb, lw, ba, bc, wa, wc, by rw [DD.val, hll.out, hll2.out], hlm.out, hlm2.out, hfL, hfW, hap.out, hbel⟩

theorem l3copy_any (d : DD) (l : DL) (w : World) (hs : d.Small) (ha : DAt w l d) : Calls Try.prog 102 #[d.val l] w (CPost d w) :=
  (l3copy_far d l w hs ha).mono fun _ _ ⟨lb, lw, ba, bc, wa, wc, he, h1, h2, h3, h4, _, h6⟩ => ⟨lb, lw, ba, bc, wa, wc, he, h1, h2, h3, h4, h6⟩

end Go.Proofs.Ythjddpkegooobab
