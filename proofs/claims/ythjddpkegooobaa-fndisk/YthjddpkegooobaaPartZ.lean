import Derived.Test.YthjddpkegooobaaPartY

/-
  SBLANK: the specification's Blank. Own work.
-/
namespace Go.Proofs.Ythjddpkegooobaa
open Go.RowKit

set_option maxHeartbeats 4000000 in
set_option maxRecDepth 100000 in
theorem specBlank_own (w : World) : Calls Try.prog 159 #[] w (BOwn w) := by
  obtain ⟨i0, hi, hz0, hz1, hz2⟩ := info_parts info_u8
  obtain ⟨j0, hj, hy0, hy1, hy2'⟩ := info_parts info_bytes
  obtain ⟨M, hM⟩ := hid_ex (madeCells #[Value.int .u8 0] 64)
  have : ∀ u : World, (Instr.makeSlice 22 (.int .i64 64) (.int .i64 64)).run Try.prog u =
      .ok (.slice (some ⟨u.heap.size, 0, none⟩) 64 64) (u.alloc (.cells M 5)) := fun u => by
    have h := run_make (P := Try.prog) u 22 5 i0 _ Try.underlying22 hi hz0 .i64 .i64 (64 : Int) (64 : Int) (by omega) (Int.le_refl _) (by rw [hz2]; omega) (by omega)
    rw [hM.out]
    simpa [hz1, Value.cells] using h
  have hmo : ∀ {base : Nat} (u : World), base ≤ u.heap.size → (u.alloc (.cells M 5)).ownsRow base 5 1 (.slice (some ⟨u.heap.size, 0, none⟩) (List.replicate 64 0).length 64) (List.replicate 64 0).length (bcells (List.replicate 64 0)) := fun u hb => by
    have := owns_made (n := 64) hb (by unfold maxLen; omega)
    rw [← hM.out] at this
    simpa using this
  go_enter Try.func159, Try.ntmps159
  go_upto_region 2 with fail
  have hw1 := gal (gal (gre w) (.cells #[.slice none 0 0, .slice none 0 0] 44)) (.cells #[.slice none 0 0, .slice none 0 0] 44)
  have hR := (VB.new w (.slice none 0 0) (.slice none 0 0) 44).grow (gal (gre _) (.cells #[.slice none 0 0, .slice none 0 0] 44))
  have hV := VB.new_at (w.alloc (.cells #[.slice none 0 0, .slice none 0 0] 44)) (.slice none 0 0) (.slice none 0 0) 44 (w.heap.size + 1) (by simp)
  generalize (w.alloc (.cells #[.slice none 0 0, .slice none 0 0] 44)).alloc (.cells #[.slice none 0 0, .slice none 0 0] 44) = wA at hw1 hR hV ⊢
  obtain ⟨R, hRe⟩ := hid_ex w.heap.size
  obtain ⟨V, hVe⟩ := hid_ex (w.heap.size + 1)
  rw [← hVe.out] at hV ⊢
  rw [← hRe.out] at hR ⊢
  have hI0 : BInv w wA R V 0 := ⟨[], none, 0, rfl, rfl, SB.nil _ _, hV, hR, hw1⟩
  clear hw1 hR hV
  go_wp2
  go_loopw [2] (fun i wr => ∃ k : Nat, k ≤ 130 ∧ i = .int .i64 k ∧ BInv w wr R V k) (fun i _ => 130 - (intOf i).toNat)
  case atStart => exact ⟨0, Nat.zero_le _, rfl, hI0⟩
  case round =>
    obtain ⟨k, hk, rfl, lb, ba, bc, hll, hlm, hL, hV, hR, hb⟩ := hrel
    by_cases hlt : k < 130
    · have i1 : (k : Int) < 130 := by omega
      clear hI0
      go_wp2
      refine wp_regionU (fun u => u.cell? ⟨V, 0, none⟩ = some (.slice ba lb.length bc)) 6 (by kernel_rfl) (hV.grow (gdr (gre wr))).v0 (fun hS0 => ?_)
      have hLd := hL.grow (gdr (gre wr))
      have hVd := hV.grow (gdr (gre wr))
      have hRd := hR.grow (gdr (gre wr))
      have hbd := gdr hb
      generalize wr.drew = wd at hLd hVd hRd hbd hS0 ⊢
      refine anyU_take (i := 0) (v := ?_) rfl (by kernel_rfl) (by kernel_rfl) (by kernel_rfl) (by kernel_rfl) (fun _ _ _ h => h) (Or.inl ⟨by rfl, ?_⟩) hS0 ?_
      rotate_left
      · intro u hSu; (try dsimp only at hSu); go_simp <;> with_reducible rfl
      simp only [Act.put, List.getElem_toArray, List.getElem_cons_zero, List.setIfInBounds_toArray, List.set_cons_zero, List.set_cons_succ]
      refine anyU_take (i := 1) (v := ?_) rfl (by kernel_rfl) (by kernel_rfl) (by kernel_rfl) (by kernel_rfl) (fun _ _ _ h => h) (Or.inl ⟨by rfl, ?_⟩) hS0 ?_
      rotate_left
      · intro u hSu; (try dsimp only at hSu); go_simp <;> with_reducible rfl
      simp only [Act.put, List.getElem_toArray, List.getElem_cons_zero, List.getElem_cons_succ, List.setIfInBounds_toArray, List.set_cons_zero, List.set_cons_succ]
      have hB1 := gal (gre wd) (.cells M 5)
      have hS1 := cell_later hB1 hS0
      have hS1' : Hid _ := hS1
      clear hS1
      refine anyU_one (i := 2) (by kernel_rfl) rfl (fun K hK => ?_)
      go_simp
      refine hK.out _ _ hS1'.out ?_
      clear hK
      have hy : (wd.alloc (.cells M 5)).ownsRow (V + 1) 5 1 (.slice (some ⟨wd.heap.size, 0, none⟩) (List.replicate 64 0).length 64) (List.replicate 64 0).length (bcells (List.replicate 64 0)) := hmo wd (by have := hVd.lt; omega)
      have hL1 := hLd.grow hB1
      have hV1 := hVd.grow hB1
      have hs1 : (wd.alloc (.cells M 5)).heap.size = wd.heap.size + 1 := by simp
      have hbel1 := gca hbd hB1
      generalize wd.alloc (.cells M 5) = w1 at hB1 hS1' hy hL1 hV1 hs1 hbel1 ⊢
      have hB2 := gal (gre w1) (.cells #[.slice (some ⟨wd.heap.size, 0, none⟩) 64 64] 22)
      have hS2 := cell_later hB2 hS1'.out
      have hS2' : Hid _ := hS2
      clear hS2
      refine anyU_one (i := 3) (by kernel_rfl) rfl (fun K hK => ?_)
      go_simp
      refine hK.out _ _ hS2'.out ?_
      clear hK
      have hL2 := hL1.grow hB2
      have hV2 := hV1.grow hB2
      have hbel2 := gca hbel1 hB2
      have hy2 := (Kept.of_below hB2 (fun _ => False)).owns hy (fun _ _ e => e)
      have hnew := World.news_of_block (cs := #[.slice (some ⟨wd.heap.size, 0, none⟩) 64 64]) (t := 22) (fr := (0, 0)) (blk_new_at w1 (.cells #[.slice (some ⟨wd.heap.size, 0, none⟩) 64 64] 22) (wd.heap.size + 1) hs1.symm)
      have hs2 : (w1.alloc (.cells #[.slice (some ⟨wd.heap.size, 0, none⟩) 64 64] 22)).heap.size = wd.heap.size + 1 + 1 := by simp [hs1]
      generalize w1.alloc (.cells #[.slice (some ⟨wd.heap.size, 0, none⟩) 64 64] 22) = w2 at hB2 hS2' hL2 hV2 hbel2 hy2 hnew hs2 ⊢
      have hlw := hll.out
      refine anyU_one (i := 4) (by kernel_rfl) rfl (fun K hK => ?_)
      refine step_append_lies _ (by rfl) (.tmp 8) (.tmp 10) 41 rfl (V + 1) 22 j0 _ 1 24 Try.underlying41 hj hy0 hy1 hy2' rfl (by decide) (.slice ba lb.length bc) lb.length (lb.map LB.v) (by rfl) hL2.own ⟨wd.heap.size + 1, 0, none⟩ 1 1 [.slice (some ⟨wd.heap.size, 0, none⟩) 64 64] (by rfl) rfl hnew (by simp [Value.oneCell']) (by decide) (by unfold maxLen; omega) (by omega) (by have := hV2.lt; omega) (wd.heap.size + 1 + 1) hs2 ?_
      intro gg cc w5 hown5 hgrow5 hat5 hlt5
      have K5 := Kept.of_grown hgrow5
      have hL5 := hL2.push (y := ⟨List.replicate 64 0, some ⟨wd.heap.size, 0, none⟩, 64⟩) hy2 hown5 hgrow5
      have hV5 := hV2.kept K5 (fun e => by have := (owns_isS hL2.own e).2; omega)
      refine hK.out _ _ hV5.v0 ?_
      clear hK
      simp only [Act.put, List.getElem_toArray, List.getElem_cons_zero, List.getElem_cons_succ, List.setIfInBounds_toArray, List.set_cons_zero, List.set_cons_succ]
      refine anyU_one (i := 5) (by kernel_rfl) rfl (fun K hK => ?_)
      go_simp
      refine hK.out _ _ hV5.v0 ?_
      clear hK
      have fz := hV5.vf
      have c8 := hV5.v0
      refine anyU_last (by kernel_rfl) rfl (by kernel_rfl) (fun K hK => ?_)
      go_simp
      refine hK.out _ _ ?_
      clear hK
      have hbel5 := hbel2.trans (K5.below (B := w.heap.size) hbel2.size (fun z hz e => by have := (owns_isS hL2.own e).2; have := hVe.out; omega))
      have hfin : SB (V + 1) (w5.setCell ⟨V, 0, none⟩ (.slice (some ⟨gg, 0, none⟩) (lb.length + 1) cc)) (some ⟨gg, 0, none⟩) cc (lb ++ [⟨List.replicate 64 0, some ⟨wd.heap.size, 0, none⟩, 64⟩]) := hL5.set (by omega) _ _
      have hfV := hV5.set0 (.slice (some ⟨gg, 0, none⟩) (lb.length + 1) cc)
      have hfR := (((hRd.grow hB1).grow hB2).kept K5 (fun e => by have := (owns_isS hL2.own e).2; have := hVe.out; have := hRe.out; omega)).kept (Kept.one w5 V 0 (.slice (some ⟨gg, 0, none⟩) (lb.length + 1) cc)) (by have := hVe.out; have := hRe.out; omega)
      rw [hlw] at hfin hfV hfR
      go_wp2
      go_roundw
      case rel => exact ⟨k + 1, by omega, by go_num, lb ++ [⟨List.replicate 64 0, some ⟨wd.heap.size, 0, none⟩, 64⟩], some ⟨gg, 0, none⟩, cc, by show _ = _; rw [List.length_append, hlw]; rfl, by show _ = _; rw [List.map_append, hlm.out]; exact (List.replicate_succ' (n := k)).symm, hfin, by rw [List.length_append, hlw]; exact hfV, hfR, gse hbel5 (by have := hVe.out; show w.heap.size ≤ V; omega) _⟩
      case measure => simp [intOf]; omega
    · obtain rfl : k = 130 := by omega
      have y0 := hV.v0
      have y1 := hV.v1
      have z0 := hR.v0
      have z1 := hR.v1
      have zf := hR.vf
      obtain ⟨c0, c1, K⟩ := ret2 (A := .slice ba lb.length bc) (B := .slice none 0 0) z0 z1
      go_wp2
      refine bodyPost_ret (v := .agg #[.slice ba lb.length bc, .slice none 0 0]) (by simp [results, Try.results159, go_sem, c0, c1]) rfl ⟨lb, ba, bc, by rw [hll.out]; simp [DD.val, blankD], hlm.out, ?_, ?_⟩
      · exact ((hL.set (V := R) (by have := hVe.out; have := hRe.out; omega) 0 (.slice ba lb.length bc)).set (V := R) (by have := hVe.out; have := hRe.out; omega) 1 (.slice none 0 0)).leB (by have := hVe.out; omega)
      · exact hb.trans (K.below hb.size (fun z hz e => by have := hRe.out; omega))
theorem specBlank_any (w : World) : Calls Try.prog 159 #[] w (SBPost blankD w) := (specBlank_own w).mono fun e w' ⟨lb, ba, bc, he, hm, hS, hb⟩ => ⟨⟨ba, bc, none, 0⟩, he, ⟨by rw [← hm]; exact hS.at_, fun i hi => absurd hi (Nat.not_lt_zero _)⟩, hb⟩

end Go.Proofs.Ythjddpkegooobaa

/-
  SPECCANON: the specification's one form, walked. Own work.
-/
namespace Go.Proofs.Ythjddpkegooobaa
open Go.RowKit

/-- what the one form leaves, in memory of its own -/
def CanonNew (g : GG) (w : World) (e : Ending) (w' : World) : Prop :=
  ∃ na ncap, e = .returned ((canon g).val na ncap) ∧ (∀ p w'', Kept p w' w'' → (∀ b, p b → b < w.heap.size) → NodesAt w''.heap.size w'' na (canon g).nodes) ∧ Below w.heap.size w w'

set_option maxHeartbeats 1000000 in
set_option maxRecDepth 100000 in
theorem specCanon_new (a : Option Addr) (cap : Nat) (g : GG) (w : World) (hok : okG g = true) (ha : NodesAt w.heap.size w a g.nodes) :
    Calls Try.prog 57 #[g.val a cap] w (CanonNew g w) := by
  obtain ⟨hn, hroot, hnodes⟩ := okG_parts hok
  obtain ⟨i0, hi, hz0, hz1, hz2⟩ := info_parts info_int
  obtain ⟨j0, hj, hy0, hy1, hy2⟩ := info_parts info_implVal
  obtain ⟨m0, hm, hx0, hx1, hx2⟩ := info_parts info_implNode
  have hmk := fun u => run_make_row' (P := Try.prog) 144 3 (.int .i64 0) 8 Try.underlying144 info_int rfl .i64 .i64 g.nodes.length (by omega) (by omega) u
  go_enter Try.func57, Try.ntmps57
  go_wp2
  go_loopw [19] (fun i wr => ∃ k : Nat, k ≤ g.nodes.length ∧ i = .int .i64 k ∧ CStart g a cap w wr (fun i => if i < k then .int .i64 (-1) else .int .i64 0)) (fun i _ => g.nodes.length - (intOf i).toNat)
  case atStart =>
    refine ⟨0, Nat.zero_le _, rfl, ?_, ?_, ?_, ?_, ?_, ?_⟩
    · exact gal (gal (gal (gal (gre _) _) _) _) _
    · simp
    · exact (GBox.new w g a cap _).grow (gal (gal (gal (gre _) _) _) _)
    · exact (Five.new_at _ ⟨0, 0, .empty, 0⟩ _ _ _ (by simp)).kept (Kept.of_below (gal (gal (gre _) _) _) (fun _ => False)) (fun h => h)
    · exact (Five.new_at _ ⟨0, 0, .empty, 0⟩ _ _ _ (by simp)).kept (Kept.of_below (gal (gre _) _) (fun _ => False)) (fun h => h)
    · exact ⟨_, blk_new_at _ _ _ (by simp), size_madeCells _ _, fun i hi => by simp [madeCells, hi, Nat.mod_one]⟩
  case round =>
    obtain ⟨k, hk, rfl, hst⟩ := hrel
    by_cases hlt : k < g.nodes.length
    · have d0 := hst.wher.cell hlt
      have df := hst.wher.frozen k
      rw [if_neg (by omega)] at d0
      go_wp2
      go_roundw
      case rel =>
        have h := hst.set k (.int .i64 (-1))
        refine ⟨k + 1, by omega, by go_num, h.low, h.base, h.box, h.res, h.out, h.wher.congr fun i _ => ?_⟩
        by_cases e : i = k
        · rw [if_pos e, if_pos (by omega)]
        · rw [if_neg e]
          by_cases e2 : i < k
          · rw [if_pos e2, if_pos (by omega)]
          · rw [if_neg e2, if_neg (by omega)]
      case measure => simp [intOf]; omega
    · have e : k = g.nodes.length := by omega
      subst e
      have hw0 := hst.wher.congr (g := fun i => .int .i64 (whereOf [] i)) (fun i hi => by rw [if_pos hi, whereOf_neg (by simp)])
      have b0 := hst.box.kind
      have b1 := hst.box.num
      have b2 := hst.box.text
      have b3 := hst.box.node
      go_wp2_with (go_at_call 114; refine (l1renamed_any (w.heap.size + 1 + 1 + 1 + 1) g.nodes.length [] g.root (w.heap.size + 1 + 1 + 1) none 0 _ hroot (InvO.nil _) hn (by omega) hst.base hw0 (World.ownsRow_nil _ _ _ _)).mono ?_; rintro e w1 ⟨oa, ocap, rfl, hw1, ho1, hoa, hK1⟩; obtain ⟨zo, o0, o1, o2, o3, o4, of⟩ := hst.out.kept hK1 (by simp))
      have hS := CState.start hst hw1 ho1 hK1
      clear hst hw0 b0 b1 b2 b3 hw1 ho1 hK1 zo o0 o1 o2 o3 o4 of hoa
      go_loopw [6, 7] (fun o i ws => ∃ (k : Nat) (ord : List Nat) (oa : Option Addr) (ocap : Nat) (na : Option Addr) (ncap : Nat) (nl : List NL), Hid (ord = canonO g.nodes (renOrd [] g.root) k) ∧ Hid (nl.map (·.n) = canonN g.nodes (renOrd [] g.root) k) ∧ Hid (nl.length = k) ∧ k ≤ ord.length ∧ i = .int .i64 k ∧ o = .slice oa ord.length ocap ∧ CState g a cap w ws ord oa ocap na ncap nl) (fun _ i _ => g.nodes.length - (intOf i).toNat)
      case atStart => exact ⟨0, _, oa, ocap, none, 0, [], by unfold canonO; rfl, by unfold canonN; rfl, rfl, Nat.zero_le _, rfl, rfl, hS⟩
      case round =>
        clear hS
        rename World => wo
        obtain ⟨k, ord, oa, ocap, na, ncap, nl, hord, hnl, hnk, hkl, rfl, rfl, hS⟩ := hrel
        have hinv : InvO g.nodes.length ord := by rw [hord.out]; exact canonO_inv ((InvO.nil _).ren hroot) hnodes k
        have hol := hinv.le
        by_cases hlt : k < ord.length
        · obtain ⟨x, hx⟩ : ∃ x, Hid (x = ord[k]!) := ⟨_, rfl⟩
          have hxn : x < g.nodes.length := by rw [hx.out]; exact hinv.2 _ (mem_at hlt)
          obtain ⟨og, rfl, hog1, hog2, hoc⟩ := owns_cell hS.ordr (ints_get hlt)
          rw [← hx.out] at hoc
          obtain ⟨n, b, off, av, cv, hnx, hnm, rfl, hbs, hva⟩ := ha.get hxn
          have hva := hva.below hS.low hbs
          have c0 := hva.tag
          have c1 := hva.sl
          have hv1 : ValsAt w.heap.size wo av n.vals := hva.vals
          have hwo := hS.low.size
          have hbx := hS.box.sl
          have hbl := hS.box.lt
          have hbb : b < wo.heap.size := Nat.lt_of_lt_of_le hbs hS.low.size
          have i0' : (0 : Int) ≤ (k : Int) := by omega
          have i1' : (k : Int) < (ord.length : Int) := by omega
          have i2' : (0 : Int) ≤ (x : Int) := by omega
          have i3' : (x : Int) < (g.nodes.length : Int) := by omega
          have ne1 := World.new_ne wo _ hoc
          have ne2 := World.new_ne wo _ c0
          have ne3 := World.new_ne wo _ c1
          have ne4 := World.new_ne wo _ hbx
          go_wp2
          go_region_held3 (fun u => u.cell? ⟨w.heap.size, 4, none⟩ = some (.slice (some ⟨b, off, none⟩) g.nodes.length cap) ∧ u.cell? ⟨og, k, none⟩ = some (.int .i64 (x : Int)) ∧ u.cell? ⟨b, off + x * 2, none⟩ = some (.int .i64 n.tag) ∧ u.cell? ⟨b, off + x * 2 + 1, none⟩ = some (.slice av n.vals.length cv)) (go_keep) (fail)
          go_wp2_with fail
          have hD := DState.start hS n (.slice av n.vals.length cv)
          have hnok := okN_parts (hnodes n hnm)
          have hvl := hnok.1
          clear ne1 ne2 ne3 ne4 hoc c0 c1 hbx
          go_loopw [6, 55] (fun o i ws => ∃ (j : Nat) (ord' : List Nat) (oa' : Option Addr) (ocap' : Nat) (xa : Option Addr) (xcap : Nat) (vs : List GV), Hid (ord' = renOrds ord (n.vals.take j)) ∧ Hid (vs = renVals ord (n.vals.take j)) ∧ Hid (vs.length = j) ∧ j ≤ n.vals.length ∧ i = .int .i64 j ∧ o = .slice oa' ord'.length ocap' ∧ DState g w wo ws n ord' (some ⟨og, 0, none⟩) oa' ocap' xa xcap vs) (fun _ i _ => n.vals.length - (intOf i).toNat)
          case atStart => exact ⟨0, ord, _, ocap, none, 0, [], rfl, rfl, rfl, Nat.zero_le _, rfl, rfl, hD⟩
          case round =>
            clear hD
            obtain ⟨j, ord', oa', ocap', xa, xcap, vs, hord', hvs, hvsl, hjle, rfl, rfl, hD⟩ := hrel
            have hz := hD.size
            have hb2 : Below w.heap.size wo wr := hD.kept.below hwo (fun k hk hp => by
              rcases hp with hp | hp
              · omega
              · have e := congrArg (fun q => q.map Addr.block) hp
                simp only [Option.map_some, Option.some.injEq] at e
                omega)
            by_cases hjl : j < n.vals.length
            · obtain ⟨v, bb, oo, hvj, hvm, rfl, hbs2, hva2⟩ := (hv1.below hb2).get hjl
              have q0 := hva2.kind
              have q1 := hva2.num
              have q2 := hva2.text
              have q3 := hva2.node
              have hb3 : w.heap.size ≤ wr.heap.size := Nat.le_trans hwo hb2.size
              have hbl2 : bb < wr.heap.size := by omega
              have hinv' : InvO g.nodes.length ord' := by rw [hord'.out]; exact hinv.rens (fun v hv => hnok.2 v (List.mem_of_mem_take hv))
              have hvok := hnok.2 v hvm
              have hbase : w.heap.size + 1 + 1 + 1 + 1 ≤ wr.heap.size := by have := hS.base; omega
              have hog0 : ∀ b, (some (⟨og, 0, none⟩ : Addr)) = some ⟨b, 0, none⟩ → b < wo.heap.size := fun b hb => by
                have e := congrArg (fun q => q.map Addr.block) hb
                simp only [Option.map_some, Option.some.injEq] at e
                omega
              have hlo := hS.base
              go_wp2_with (first
                | (go_at_call 114; refine (l1renamed_any (w.heap.size + 1 + 1 + 1 + 1) g.nodes.length ord' v (w.heap.size + 1 + 1 + 1) oa' ocap' _ hvok hinv' hn (by omega) (by simp; omega) ((hD.wher.alloc _).alloc _) ((hD.ordr.alloc _).alloc _)).mono ?_; rintro e w2 ⟨oa2, ocap2, rfl, hw2, ho2, hoa2, hK2⟩; obtain ⟨hy, hx2, hv2⟩ := hD.mid hlo hog0 hK2; obtain ⟨yz, y0, y1, y2, y3, yf⟩ := hy; obtain ⟨xz, x0, x1, xf⟩ := id hx2)
                | (at_builtin; go_must (refine wpList_append_lies _ rfl (.tmp 67) (.tmp 69) 82 rfl (wo.heap.size + 1 + 1) 24 j0 _ 4 40 Try.underlying82 hj hy0 hy1 hy2 rfl (by decide) (.slice xa vs.length xcap) vs.length (valCells vs) rfl (((Kept.put4 w2 (wr.heap.size + 1) (renVal ord' v)).owns hv2 (fun k hk hp => by have h9 := hv2.lt k hk; have h8 := (hD.far hlo hog0).2 k (owns_addr hv2 hk); omega)).alloc _) ⟨w2.heap.size, 0, none⟩ 1 1 (renVal ord' v).four rfl rfl (World.news_of_block (cs := #[.int .i64 (renVal ord' v).kind, .int .i64 (renVal ord' v).num, .string (renVal ord' v).text, .int .i64 (renVal ord' v).node]) (t := 24) (fr := (0, 0)) (blk_new_at _ _ _ (by simp))) (by simp [GV.four, Value.oneCell']) (by decide) (by have h7 := hvsl.out; unfold maxLen; omega) (by have h7 := hvsl.out; omega) (by simp; omega) (w2.heap.size + 1) (by simp) ?_); intro gg cc w3 hown3 hgrow3 hat3 hlt3; obtain ⟨tz, t0, t1, tf⟩ := (hx2.kept ((Kept.put4 w2 (wr.heap.size + 1) (renVal ord' v)).alloc _) (by omega)).kept (Kept.of_grown hgrow3) (fun hp => by have h8 := (hD.far hlo hog0).2 _ (owns_addr hv2 hp); omega)))
              have hfin := hD.step hlo hog0 v hw2 ho2 hoa2 hK2 hown3 hgrow3 hat3
              have hs1 : Hid (renOrds ord (n.vals.take (j + 1)) = renOrd ord' v) := by rw [renOrds_take_succ _ _ _ hjl, ← hvj.out, ← hord'.out]; rfl
              have hs2 : Hid (renVals ord (n.vals.take (j + 1)) = vs ++ [renVal ord' v]) := by rw [renVals_take_succ _ _ _ hjl, ← hvj.out, ← hord'.out, ← hvs.out]; rfl
              go_roundw
              case rel => exact ⟨j + 1, renOrd ord' v, oa2, ocap2, some ⟨gg, 0, none⟩, cc, vs ++ [renVal ord' v], hs1.out.symm, hs2.out.symm, by have := hvsl.out; show (vs ++ [renVal ord' v]).length = j + 1; simp [this], by omega, by go_num, rfl, hfin⟩
              case measure => simp [intOf]; omega
            · have e : j = n.vals.length := by omega
              have hf1 : Hid (canonO g.nodes (renOrd [] g.root) (k + 1) = ord') := by
                rw [canonO_succ, ← hord.out, if_pos hlt, ← hx.out, ← hnx.out]
                rw [hord'.out, e, List.take_length]; rfl
              have hf2 : Hid (canonN g.nodes (renOrd [] g.root) (k + 1) = nl.map (·.n) ++ [⟨n.tag, vs⟩]) := by
                rw [canonN_succ, ← hord.out, if_pos hlt, ← hx.out, ← hnx.out, ← hnl.out]
                rw [hvs.out, e, List.take_length]; rfl
              have hf3 : ord.length ≤ ord'.length := by
                rw [hord'.out]; exact renOrds_le ord _
              obtain ⟨hout, hnr⟩ := hS.seen hD
              obtain ⟨oz, o0, o1, o2, o3, o4, ofr⟩ := id hout
              obtain ⟨xz, x0, x1, xf⟩ := hD.x
              have hlo := hS.base
              go_wp2_with (at_builtin; go_must (refine wpList_append_lies _ rfl (.tmp 74) (.tmp 76) 25 rfl (w.heap.size + 1 + 1 + 1 + 1) 84 m0 _ 2 32 Try.underlying25 hm hx0 hx1 hx2 rfl (by decide) (.slice na nl.length ncap) nl.length (nodeCells nl) rfl (hnr.alloc _) ⟨wr.heap.size, 0, none⟩ 1 1 [.int .i64 n.tag, .slice xa vs.length xcap] rfl rfl (World.news_of_block (cs := #[.int .i64 n.tag, .slice xa vs.length xcap]) (t := 84) (fr := (0, 0)) (blk_new_at _ _ _ (by simp))) (by simp [Value.oneCell']) (by decide) (by have h7 := hnk.out; unfold maxLen; omega) (by have h7 := hnk.out; omega) (by simp; omega) (wr.heap.size + 1) (by simp) ?_); intro gg cc w3 hown3 hgrow3 hat3 hlt3; obtain ⟨tz, t0, t1, t2, t3, t4, tf⟩ := (hout.kept ((Kept.refl (fun _ => False) wr).alloc _) (fun e => e)).kept (Kept.of_grown hgrow3) (fun hp => by have h8 := (hnr.lt _ hp).1; omega))
              have hfin := hS.next hD hown3 hgrow3 hat3
              go_roundw
              case rel => exact ⟨k + 1, ord', oa', ocap', some ⟨gg, 0, none⟩, cc, nl ++ [⟨⟨n.tag, vs⟩, xa, xcap⟩], hf1.out.symm, by rw [hf2.out]; simp [Hid], by have := hnk.out; show (nl ++ [_]).length = k + 1; simp [this], by omega, by go_num, rfl, hfin⟩
              case measure => simp [intOf]; omega
        · have e : ord.length = k := by omega
          have hc : Hid (canon g = ⟨renVal [] g.root, nl.map (·.n)⟩) := by
            rw [hnl.out]
            exact canon_at (by omega) (by rw [← hord.out]; omega)
          obtain ⟨oz, o0, o1, o2, o3, o4, ofr⟩ := hS.out
          obtain ⟨rz, r0, r1, r2, r3, r4, rfr⟩ := hS.res
          have hlow := hS.low
          have hC : Kept (fun k => k = w.heap.size + 1) wo (((((wo.setCell ⟨w.heap.size + 1, 0, none⟩ (.int .i64 (renVal [] g.root).kind)).setCell ⟨w.heap.size + 1, 1, none⟩ (.int .i64 (renVal [] g.root).num)).setCell ⟨w.heap.size + 1, 2, none⟩ (.string (renVal [] g.root).text)).setCell ⟨w.heap.size + 1, 3, none⟩ (.int .i64 (renVal [] g.root).node)).setCell ⟨w.heap.size + 1, 4, none⟩ (.slice na nl.length ncap)) :=
            (Kept.put4 wo (w.heap.size + 1) (renVal [] g.root)).set (fun _ => rfl) _
          have hN : ∀ p w'', Kept p (((((wo.setCell ⟨w.heap.size + 1, 0, none⟩ (.int .i64 (renVal [] g.root).kind)).setCell ⟨w.heap.size + 1, 1, none⟩ (.int .i64 (renVal [] g.root).num)).setCell ⟨w.heap.size + 1, 2, none⟩ (.string (renVal [] g.root).text)).setCell ⟨w.heap.size + 1, 3, none⟩ (.int .i64 (renVal [] g.root).node)).setCell ⟨w.heap.size + 1, 4, none⟩ (.slice na nl.length ncap)) w'' → (∀ b, p b → b < w.heap.size) → NodesAt w''.heap.size w'' na (nl.map (·.n)) := fun p w'' hk hp => owns_nodes (hk.owns (hC.owns hS.nodes (fun k hk hp => by have := (hS.nodes.lt k hk).1; omega)) (fun k hk hpk => by have h8 := hp k hpk; have := (hS.nodes.lt k hk).1; omega)) (fun x hx => owns_vals (hk.owns (hC.owns (hS.vals x hx) (fun k hk hp => by have := ((hS.vals x hx).lt k hk).1; omega)) (fun k hk hpk => by have h8 := hp k hpk; have := ((hS.vals x hx).lt k hk).1; omega)) (Nat.le_refl _))
          have hlow2 := hlow.trans (hC.below hlow.size (fun k hk hp => by omega))
          have hlen : Hid ((canon g).val na ncap = .agg #[.int .i64 (renVal [] g.root).kind, .int .i64 (renVal [] g.root).num, .string (renVal [] g.root).text, .int .i64 (renVal [] g.root).node, .slice na nl.length ncap]) := by
            rw [hc.out]; simp [Hid]
          have hN2 : Hid (canon g = ⟨renVal [] g.root, nl.map (·.n)⟩) := hc
          clear e
          go_wp2
          exact bodyPost_ret (v := .agg #[.int .i64 (renVal [] g.root).kind, .int .i64 (renVal [] g.root).num, .string (renVal [] g.root).text, .int .i64 (renVal [] g.root).node, .slice na nl.length ncap]) (by simp [results, Try.results57, go_sem, r0, r1, r2, r3, r4]) rfl
            ⟨na, ncap, by rw [hlen.out], by rw [hN2.out]; exact hN, hlow2⟩

set_option maxRecDepth 100000 in
theorem specCanon_any (a : Option Addr) (cap : Nat) (g : GG) (w : World) (hok : okG g = true) (ha : NodesAt w.heap.size w a g.nodes) :
    Calls Try.prog 57 #[g.val a cap] w (CanonPost g w) := by
  refine (specCanon_new a cap g w hok ha).mono ?_
  rintro e w' ⟨na, nc, rfl, hn, hb⟩
  exact ⟨na, nc, rfl, hn (fun _ => False) w' (Kept.refl _ _) (fun _ e => e.elim), hb⟩

end Go.Proofs.Ythjddpkegooobaa

/-
  OB3: the specification's image. Own work.
-/
namespace Go.Proofs.Ythjddpkegooobaa
open Go.RowKit

set_option maxRecDepth 100000 in
theorem wpList_append_str {P : Program} {ops : Array Oper} {rest : List Oper} {o : Oper} {a : Act} {Q : Exit → Act → World → Prop} {w : World} (hgd : o.guard = none) (sl x : Operand) (t u : TypeId)
    (ho : o.op = .call { callee := .builtin .append, args := #[sl, x], argTypes := #[t, u] })
    (base : Nat) (e : TypeId) (i : TypeInfo) (ht : P.underlying t = some (.slice e)) (hu : P.underlying u = some .string) (hi : P.info? e = some i) (hz : i.zero = some (.int .u8 0))
    (hsize : i.size = 1) (hby : i.bytes = 1)
    (v : Value) (n : Nat) (xs : List Value) (hs : a.eval sl = v) (hown : w.ownsRow base e 1 v n xs) (s : ByteArray) (hx : a.eval x = .string s)
    (h63 : n + s.size ≤ maxLen) (hbytes : n + s.size ≤ 140737488355328) (hbase : base ≤ w.heap.size) (hn : 0 < n)
    (h : ∀ g cap w', w'.ownsRow base e 1 (.slice (some ⟨g, 0, none⟩) (n + s.size) cap) (n + s.size) (xs ++ Lib.strCells s) → w.grownBy w' v.ownBlock → (v.ownBlock = some g ∨ g = w.heap.size) → wpList P ops Q rest (a.put o.dst (.slice (some ⟨g, 0, none⟩) (n + s.size) cap)) w') : wpList P ops Q (o :: rest) a w := by
  refine wpList_plain hgd fun K hK => ?_
  obtain ⟨g, cap, w', hr, h2, h3, h4⟩ := append_str_lies (P := P) w base t u o.type e i ht hu hi hz hsize hby v n xs hown s h63 hbytes hbase hn
  unfold Oper.wp execOp
  simp only [ho, resolve, invoke, builtin, Sem.run_bind, Sem.run_pure, Result.andThen_ok, List.map_toArray, List.map_cons, List.map_nil, hs, hx, hr]
  exact hK _ _ (h g cap w' h2 h3 h4)

set_option maxRecDepth 100000 in

theorem strCells_bs (s : ByteArray) : Lib.strCells s = bcells (bsOf s) := by
  unfold Lib.strCells bcells bsOf
  rw [List.map_map]
  rfl

set_option maxRecDepth 100000 in
theorem l2val_text (base : Nat) (oa : Option Addr) (cap : Nat) (xs : List Nat) (text : ByteArray) (w : World) (hn : text.size ≤ 1000) (hbase : base ≤ w.heap.size) (hl : xs.length ≤ 1099511600000)
    (hO : w.ownsRow base 5 1 (.slice oa xs.length cap) xs.length (bcells xs)) :
    Calls Try.prog 128 #[.slice oa xs.length cap, (GV.mk 3 0 text 0).val] w (APost base oa xs (3 :: (numB text.size ++ bsOf text)) w) := by
  obtain ⟨i0, hi, hz0, hz1, hz2⟩ := info_parts info_u8
  have hF := (Four.new w ⟨3, 0, text, 0⟩ 24).alloc (.cells #[.int .u8 3] 5)
  have hn0 : ¬ ((Value.slice oa xs.length cap).ownBlock = some w.heap.size) := fun e => by have := (hO.lt _ e).2; omega
  have e6 : IntKind.u64.wrap (text.size : Int) = (text.size : Int) := by rw [IntKind.wrap_u64]; omega
  have hten := numB_ten (n := text.size) (by omega)
  have hbl := bsOf_length text
  go_enter Try.func128, Try.ntmps128
  go_wp2_with (first
    | (at_builtin; refine wpList_append_str rfl (.tmp 35) (.tmp 37) 22 9 rfl base 5 i0 Try.underlying22 Try.underlying9 hi hz0 hz1 hz2 _ _ _ rfl hRo text rfl (by unfold maxLen; omega) (by omega) (by omega) (by omega) ?_; intro g4 cap4 w4 hown4 hgrow4 hat4)
    | (at_builtin; refine wpList_append_lies _ rfl (.tmp 5) (.tmp 9) 22 rfl base 5 i0 (.int .u8 0) 1 1 Try.underlying22 hi hz0 hz1 hz2 rfl (by decide) _ _ _ rfl ((hO.alloc _).alloc _) ⟨w.heap.size + 1, 0, none⟩ 1 1 [.int .u8 3] rfl rfl (World.news_of_block (cs := #[.int .u8 3]) (t := 5) (fr := (0, 0)) (blk_new_at _ _ _ (by simp))) (by simp [Value.oneCell']) (by decide) (by unfold maxLen; omega) (by omega) (by simp; omega) (w.heap.size + 2) (by simp) ?_; intro g cap2 w1 hown1 hgrow hat hlt2; have hF1 := hF.kept (Kept.of_grown hgrow) hn0; obtain ⟨fz, f0, f1, f2, f3, ff⟩ := id hF1; have hP := (Ob.start hO).push (ys := [3]) (gal (gal (gre _) _) _) hown1 hgrow (hat.elim Or.inl (fun h => Or.inr (by omega))); have hs1 := hP.kept.size; have hg1 : w.heap.size ≠ g := (hat.elim (fun h => fun e => hn0 (by rw [e]; exact h)) (fun h => by omega)))
    | (go_at_call 127; refine (l2num_any base _ _ _ (xs ++ [3]) text.size _ _ (by simp) ?_ (by omega) (by omega) (by simp; omega) hP.own).mono ?_; (first | rfl | exact e6); rintro e w3 ⟨oa3, cap3, rfl, hQ⟩; obtain ⟨gz, g0, g1, g2, g3, gf⟩ := hF1.kept hQ.kept (fun e => hg1 (some_addr e).symm); have hR := hP.call hQ; have hs3 := hR.kept.size; obtain ⟨ln, hln⟩ := hid_ex (xs ++ [3] ++ numB text.size).length; have hRo := hR.own; rw [← hln.out] at hRo; rw [← hln.out]; have hln1 : ln ≤ xs.length + 11 ∧ 0 < ln := (by have h := hln.out; simp only [List.length_append, List.length_singleton] at h; omega)))
  go_ret
  have e4 : ln + text.size = (xs ++ [3] ++ numB text.size).length + (bsOf text).length := by rw [hln.out, hbl]
  rw [strCells_bs, e4] at hown4
  have hT := hR.push (wa := w3) (ys := bsOf text) (gre _) hown4 (by rw [← hln.out]; exact hgrow4) (by rw [← hln.out]; exact hat4.elim Or.inl (fun h => Or.inr (by omega)))
  have e5 : xs ++ [3] ++ numB text.size ++ bsOf text = xs ++ (3 :: (numB text.size ++ bsOf text)) := by simp
  rw [e5] at hT
  refine ⟨_, _, ?_, hT⟩
  rw [← e5, List.length_append, ← e4]
  rfl

set_option maxRecDepth 100000 in
theorem l2val_any (base n : Nat) (oa : Option Addr) (len cap : Nat) (xs : List Nat) (v : GV) (w : World) (hlen : len = xs.length) (hn : n ≤ 300) (ho : v.Ok) (hv : okV n v = true) (hbase : base ≤ w.heap.size) (hl : xs.length ≤ 1099511600000)
    (hO : w.ownsRow base 5 1 (.slice oa xs.length cap) xs.length (bcells xs)) :
    Calls Try.prog 128 #[.slice oa len cap, v.val] w (APost base oa xs (valB v) w) := by
  subst hlen
  rcases okV_cases hv with rfl | ⟨m, rfl⟩ | ⟨m, rfl⟩ | ⟨t, ht, rfl⟩ | ⟨k, hk, rfl⟩
  · exact l2val_nil base oa cap xs w hbase hl hO
  · exact l2val_num base oa cap xs m w ho.num hbase hl hO
  · exact l2val_bits base oa cap xs m w hbase hl hO
  · exact l2val_text base oa cap xs t w ht hbase hl hO
  · exact l2val_node base oa cap xs k w (by omega) hbase hl hO

/-- what the specification's image leaves -/
def PackSPost (ys : List Nat) (w : World) (e : Ending) (w' : World) : Prop :=
  ∃ oa cap, e = .returned (.slice oa ys.length cap) ∧ w'.ownsRow w.heap.size 5 1 (.slice oa ys.length cap) ys.length (bcells ys) ∧ Below w.heap.size w w'

set_option maxRecDepth 100000 in
theorem owns_two (w : World) (base : Nat) (hb : base ≤ w.heap.size) : (w.alloc (.cells #[.int .u8 72, .int .u8 49] 5)).ownsRow base 5 1 (.slice (some ⟨w.heap.size, 0, none⟩) 2 2) 2 (bcells [72, 49]) :=
  ⟨rfl, Or.inr ⟨w.heap.size, 2, #[.int .u8 72, .int .u8 49], rfl, hb, blk_new_at _ _ _ rfl, by decide, by decide, rfl, rfl⟩⟩

end Go.Proofs.Ythjddpkegooobaa
