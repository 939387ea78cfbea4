import Derived.Test.YtmdpmdmilgbfiaaGreatDoorPartZL

namespace Go.Proofs.YtmdpmdmilgbfiaaGreatDoor
open Go.RowKit

set_option maxHeartbeats 8000000 in
set_option maxRecDepth 100000 in
theorem lawCut (a a' : Option Addr) (cap cap' : Nat) (bs bs' : List Nat) (w : World) (ha : BytesAt w a bs) (ha' : BytesAt w a' bs') (hl : bs.length ≤ maxLen) (hl' : bs'.length ≤ maxLen) (hx : ∀ x, x ∈ bs → x < 256) (hx' : ∀ x, x ∈ bs' → x < 256)
    (hs : ∀ g off, a = some ⟨g, off, none⟩ → g < w.heap.size) (hs' : ∀ g off, a' = some ⟨g, off, none⟩ → g < w.heap.size)
    (hg : w.cell? ⟨0, 0, none⟩ = some (.iface 211 (.agg #[.pointer (some ⟨1, 80, none⟩)]))) :
    Calls Tryz.prog 4 #[.slice a bs.length cap, .slice a' bs'.length cap'] w fun e w' => e = .returned (.bool true) ∧ Below w.heap.size w w' := by
  have hml := hl
  have hml' := hl'
  unfold maxLen at hml hml'
  by_cases hs1 : bs.length ≤ 1048576
  case neg =>
    have hd : ((1048576 : Int) < (bs.length : Int)) := by omega
    go_enter Tryz.func4, Tryz.ntmps4
    go_wp2
    go_ret
    exact ⟨rfl, gre _⟩
  by_cases hs2 : bs'.length ≤ 1048576
  case neg =>
    have hd : ¬ ((1048576 : Int) < (bs.length : Int)) := by omega
    have hd2 : ((1048576 : Int) < (bs'.length : Int)) := by omega
    go_enter Tryz.func4, Tryz.ntmps4
    go_wp2
    go_ret
    exact ⟨rfl, gre _⟩
  have hd : ¬ ((1048576 : Int) < (bs.length : Int)) := by omega
  have hd2 : ¬ ((1048576 : Int) < (bs'.length : Int)) := by omega
  go_enter Tryz.func4, Tryz.ntmps4
  go_upto_region 4 with (go_at_call 12; refine (disks_any a bs cap _ ha hx hl hs).mono ?_; rintro e w1 ⟨d, l, rfl, hC, hgen, hdA, hb1⟩)
  have hV2 := VB.new w1 (.slice l.ba d.blocks.length l.bc) (.slice l.wa d.waiting.length l.wc) 46
  have hb2 := gal hb1 (.cells #[.slice l.ba d.blocks.length l.bc, .slice l.wa d.waiting.length l.wc] 46)
  have hdA2 := hdA.grow (gal (gre w1) (.cells #[.slice l.ba d.blocks.length l.bc, .slice l.wa d.waiting.length l.wc] 46))
  generalize w1.alloc (.cells #[.slice l.ba d.blocks.length l.bc, .slice l.wa d.waiting.length l.wc] 46) = w2 at hV2 hb2 hdA2 ⊢
  generalize w1.heap.size = D at hV2 ⊢
  clear hdA hb1
  go_upto_region 5 with (go_at_call 13; refine (drawn_any a' bs' cap' _ (ha'.grow hb2) hx' hl' (fun b off e => Nat.lt_of_lt_of_le (hs' b off e) hb2.size)).mono ?_; rintro e w3 ⟨g, ga, gc, gl, rfl, hgn, hgO, hgok, hgw, hb3⟩)
  have hG4 := Five.new_at w3 g.root (.slice ga g.nodes.length gc) 32 w3.heap.size rfl
  have hb34 := gal hb3 (.cells #[.int .i64 g.root.kind, .int .i64 g.root.num, .string g.root.text, .int .i64 g.root.node, .slice ga g.nodes.length gc] 32)
  have hgN4 := (hgw.kept (Kept.of_below (gal (gre w3) (.cells #[.int .i64 g.root.kind, .int .i64 g.root.num, .string g.root.text, .int .i64 g.root.node, .slice ga g.nodes.length gc] 32)) (fun _ => False)) (fun _ _ e => e) (fun _ _ _ _ e => e)).at_
  rw [hgn] at hgN4
  have hV4 := hV2.grow hb34
  have hdA4 := hdA2.grow hb34
  have hB4 := gca hb2 hb34
  generalize w3.alloc (.cells #[.int .i64 g.root.kind, .int .i64 g.root.num, .string g.root.text, .int .i64 g.root.node, .slice ga g.nodes.length gc] 32) = w4 at hG4 hb34 hgN4 hV4 hdA4 hB4 ⊢
  generalize w3.heap.size = G at hG4 ⊢
  clear hgw hb3 hV2 hdA2 hb2 hb34
  obtain ⟨_, g0, g1, g2, g3, g4, _⟩ := id hG4
  obtain ⟨p, hp⟩ := hid_ex (packB g)
  go_upto_region 6 with (go_at_call 14; refine (implPack_cap ga gc g _ hgO hgN4).mono ?_; rintro e w5 ⟨oa5, oc5, rfl, hMB5, hb5, hroom⟩; rw [← hp.out] at hMB5 hroom ⊢)
  have hBy5 := mb_bytesK hMB5
  have hil : p.length ≤ 4096 := by rw [hp.out]; exact packB_lenK g
  have hib : ∀ x, x ∈ p → x < 256 := by rw [hp.out]; exact packB_bytesK g
  clear g0 g1 g2 g3 g4 hMB5
  obtain ⟨_, g0, g1, g2, g3, g4, _⟩ := hG4.kept (Kept.of_below hb5 (fun _ => False)) (fun e => e)
  go_upto_region 8 with (first
    | (go_at_call 16; refine (specPack_any ga gc g _ hgO (hgN4.grow hb5)).mono ?_; rintro e w6 ⟨oa6, oc6, rfl, hO6, hb6⟩; rw [← hp.out] at hO6 ⊢)
    | (go_at_call 15; refine (wBytes_same oa5 oa6 p oc5 oc6 _ (by unfold maxLen; omega) (hBy5.grow hb6) (owns_bytesD hO6)).mono ?_; rintro e w7 ⟨rfl, hb7⟩))
  have b5 := gca hb6 hb7
  have b4 := gca hb5 b5
  clear g0 g1 g2 g3 g4 hb5 hb6 hb7 hO6
  by_cases hp0 : p.length = 0
  case pos =>
    have hcp : (p.length : Int) = 0 := by omega
    go_wp2
    go_ret
    exact ⟨rfl, gca hB4 b4⟩
  have hcp : ¬ ((p.length : Int) = 0) := by omega
  have hpne : packB g ≠ [] := fun e => hp0 (by rw [hp.out, e]; rfl)
  have hne : d.newestOf.gen ≠ 1000000000000 := by omega
  have hf := DD.fit hC.gd.ok
  have hr := newest_rng hf
  have hoo := lay_opsOk d ⟨hr.g.2, hr.g.1⟩ hib hil
  have hgo := lay_good d hil
  have hll := lay_len d hil
  have hlen := (lay_form (im := p) hne).2
  have hcut1 := fun (f : DD) (k : Nat) => hC.cut (f := f) hgO hpne hne (j := k)
  rw [← hp.out] at hcut1
  have hopq : d.ops p = d.lay p := if_pos ⟨hC.gd.ok, hC.gd.w, by rw [hp.out]; exact hpne, hil⟩
  have hlo := fun (u : World) (hu : DAt u l d) (hu2 : BytesAt u oa5 p) => implOps_any d l oa5 p oc5 u hC.gd.o hu hu2 hib (by omega) hroom
  rw [hopq] at hlo
  clear hopq
  obtain ⟨ops, hops⟩ := hid_ex (d.lay p)
  rw [← hops.out] at hlo hoo hgo hll hlen hcut1
  have hl4 : 4 ≤ ops.length := by have : 1 ≤ nBlk p := (by unfold nBlk; omega); omega
  obtain ⟨tgen0, tgO, _⟩ := hC.gen
  have hng := hr.g.1
  clear hlen
  have htkO := implTake_any d l w7 hC.gd.o (hdA4.grow b4) (cell_later (gca hB4 b4) hg)
  obtain ⟨tO, htO⟩ := hid_ex d.takeT
  rw [← htO.out] at htkO tgen0 tgO
  have htb : 0 ≤ tO.gen ∧ tO.gen ≤ 3 := by omega
  have tgen : Hid (tO.gen = d.newestOf.gen) := tgen0
  clear tgen0
  obtain ⟨v0, v1, _⟩ := hV4.grow b4
  go_upto_region 11 with (go_at_call 17; refine htkO.mono ?_; rintro e w8 ⟨na, nc, nlO, rfl, hOn, hOO, hb8⟩)
  have hV9 := V7.new_at w8 (.int .i64 tO.code) (.int .i64 tO.gen) (.int .i64 tO.g.root.kind) (.int .i64 tO.g.root.num) (.string tO.g.root.text) (.int .i64 tO.g.root.node) (.slice na tO.g.nodes.length nc) 34 w8.heap.size rfl
  have hb89 := gal (gre w8) (.cells #[.int .i64 tO.code, .int .i64 tO.gen, .int .i64 tO.g.root.kind, .int .i64 tO.g.root.num, .string tO.g.root.text, .int .i64 tO.g.root.node, .slice na tO.g.nodes.length nc] 34)
  have hON := hOO.at_.grow hb89
  rw [hOn] at hON
  have b4 := gca b4 (gca hb8 hb89)
  have b5 := gca b5 (gca hb8 hb89)
  generalize w8.alloc (.cells #[.int .i64 tO.code, .int .i64 tO.gen, .int .i64 tO.g.root.kind, .int .i64 tO.g.root.num, .string tO.g.root.text, .int .i64 tO.g.root.node, .slice na tO.g.nodes.length nc] 34) = w9 at hV9 hb89 hON b4 b5 ⊢
  generalize w8.heap.size = O at hV9 ⊢
  clear v0 v1 hb8 hb89 hOO hOn htkO
  obtain ⟨v0, v1, _⟩ := hV4.grow b4
  have hcl : ¬ ((ops.length : Int) < 4) := by omega
  have e1 : IntKind.i64.wrap ((ops.length : Int) + 1) = (ops.length : Int) + 1 := by rw [IntKind.wrap_i64]; omega
  have hz1 : ¬ ((ops.length : Int) + 1 = 0) := by omega
  go_upto_region 15 with (first
    | (go_at_call 18; refine (hlo _ (hdA4.grow b4) (hBy5.grow b5)).mono ?_; rintro e w10 ⟨pa, pc, lo, rfl, hlm, hSO, hb10⟩)
    | (go_at_call 19; refine (wByte_any a' bs' cap' 1 _ (ha'.grow (gca hB4 (gca b4 hb10))) hl' hx').mono ?_; rintro e w11 ⟨x, hx256, rfl, hb11⟩; obtain ⟨n, hn⟩ := hid_ex (x % (ops.length + 1)); have hnl : n < ops.length + 1 := (by rw [hn.out]; exact Nat.mod_lt _ (by omega)); have hrm : Int.tmod (x : Int) ((ops.length : Int) + 1) = (n : Int) := (by rw [hn.out]; exact (Int.ofNat_tmod x (ops.length + 1)).symm)))
  have hpc := owns_capH hSO.own
  have hoat := (hSO.grow hb11).at_
  rw [hlm] at hoat
  have hpl : lo.length = ops.length := by rw [← hlm]; simp
  rw [hpl] at hpc
  clear hpl
  have b9 := gca hb10 hb11
  have b4 := gca b4 b9
  clear v0 v1 hb10 hb11 hSO hlo hrm hz1 e1 b5 hBy5
  obtain ⟨v0, v1, _⟩ := hV4.grow b4
  obtain ⟨f, hf1, hf2, _⟩ := applyN_good hC.gd.ok hgo n (by omega) (by rw [hC.gd.w]; simp; omega)
  have hfO := (applyN_fitQ hC.gd.o hoo hC.gd.ok n f (by omega) hf1).1
  have hap : d.apply ops (n : Int) = f := by
    unfold DD.apply
    rw [if_pos ⟨hC.gd.ok, by omega, by omega⟩, Int.toNat_natCast, hf1]
    rfl
  have hal := implApply_any d l pa ops pc (n : Int) w11 hC.gd.o (hdA4.grow b4) hoat hpc (by omega) hoo (small_i64 (by omega))
  rw [hap] at hal
  clear hap
  go_upto_region 16 with (first
    | (go_at_call 21; refine hal.mono ?_; rintro e w12 ⟨l2, fa2, fb2, fc2, fe2, rfl, hM2, hb12⟩)
    | (go_at_call 22; refine (masks_any a' bs' cap' _ (ha'.grow (gca hB4 (gca b4 hb12))) hx' hl' (fun b off e => Nat.lt_of_lt_of_le (hs' b off e) (gca hB4 (gca b4 hb12)).size)).mono ?_; rintro e w13 ⟨ka, kc, ks, hks, rfl, hkb, hb13⟩)
    | (go_at_call 20; refine (implCrash_any f l2 ka ks kc _ hfO (hM2.grow hb13).at_ (by unfold maxLen; omega) hkb).mono ?_; obtain ⟨e', he'⟩ := hid_ex (f.settle (keepOf ks)); rw [← he'.out]; rintro e w14 ⟨l3, fa3, fb3, fc3, fe3, rfl, hM3, hb14⟩))
  obtain ⟨hCe, hge⟩ := hcut1 f n (by omega) (keepOf ks) hf1
  rw [← he'.out] at hCe hge
  have hV15 := VB.new w14 (.slice l3.ba e'.blocks.length l3.bc) (.slice l3.wa e'.waiting.length l3.wc) 46
  have hb1415 := gal (gre w14) (.cells #[.slice l3.ba e'.blocks.length l3.bc, .slice l3.wa e'.waiting.length l3.wc] 46)
  have hM15 := hM3.grow hb1415
  have b11 := gca (gca (gca hb12 hb13) hb14) hb1415
  have b4 := gca b4 b11
  have b9 := gca b9 b11
  generalize w14.alloc (.cells #[.slice l3.ba e'.blocks.length l3.bc, .slice l3.wa e'.waiting.length l3.wc] 46) = w15 at hV15 hb1415 hM15 b11 b4 b9 ⊢
  generalize w14.heap.size = X at hV15 hM15 ⊢
  clear v0 v1 hal hM2 hM3 hb12 hb13 hb14 hb1415 b11 hkb hoat hcut1
  obtain ⟨c, hc2⟩ := hid_ex (canon g)
  have hcO : c.Ok := by rw [hc2.out]; exact canon_ok hgO hgok
  have hAB : (n = ops.length → e'.takeT = ⟨0, tO.gen + 1, c⟩) ∧ (e'.takeT = tO ∨ (ops.length ≤ n + 1 ∧ e'.takeT = ⟨0, tO.gen + 1, c⟩)) := by
    rcases hge with ⟨q1, q2⟩ | ⟨q1, q2⟩
    · have q3 := take_of hC.gd.ok hCe.gd.ok q2
      rw [← htO.out] at q3
      exact ⟨fun e => by omega, Or.inl q3⟩
    · rw [hp.out] at q2
      have q3 := new_take hCe.gd hgO hpne q2
      rw [← hc2.out, ← tgen.out] at q3
      exact ⟨fun _ => q3, Or.inr ⟨q1, q3⟩⟩
  have htkG := implTake_any e' l3 w15 hCe.gd.o hM15.at_ (cell_later (gca hB4 b4) hg)
  obtain ⟨tGo, hGgO, _⟩ := hCe.gen
  obtain ⟨tG, htG⟩ := hid_ex e'.takeT
  rw [← htG.out] at htkG hAB hGgO
  obtain ⟨v0, v1, _⟩ := id hV15
  go_upto_region 17 with (go_at_call 17; refine htkG.mono ?_; rintro e w16 ⟨ma, mc, nlG, rfl, hGn, hGO, hb16⟩)
  have hV17 := V7.new_at w16 (.int .i64 tG.code) (.int .i64 tG.gen) (.int .i64 tG.g.root.kind) (.int .i64 tG.g.root.num) (.string tG.g.root.text) (.int .i64 tG.g.root.node) (.slice ma tG.g.nodes.length mc) 34 w16.heap.size rfl
  have hb167 := gal (gre w16) (.cells #[.int .i64 tG.code, .int .i64 tG.gen, .int .i64 tG.g.root.kind, .int .i64 tG.g.root.num, .string tG.g.root.text, .int .i64 tG.g.root.node, .slice ma tG.g.nodes.length mc] 34)
  have hGN := hGO.at_.grow hb167
  rw [hGn] at hGN
  have b15 := gca hb16 hb167
  have b4 := gca b4 b15
  have b9 := gca b9 b15
  generalize w16.alloc (.cells #[.int .i64 tG.code, .int .i64 tG.gen, .int .i64 tG.g.root.kind, .int .i64 tG.g.root.num, .string tG.g.root.text, .int .i64 tG.g.root.node, .slice ma tG.g.nodes.length mc] 34) = w17 at hV17 hb167 hGN b4 b9 b15 ⊢
  generalize w16.heap.size = Y at hV17 ⊢
  clear v0 v1 hb16 hb167 hGO hGn htkG b15 hV15 hM15 hge tGo
  have hVO := hV9.grow b9
  have hON := hON.grow b9
  have hVG := hV17
  have hVD := hV4.grow b4
  have hdA := hdA4.grow b4
  have hF := hG4.kept (Kept.of_below b4 (fun _ => False)) (fun e => e)
  have hgN := hgN4.grow b4
  have hBB := gca hB4 b4
  clear hV9 hV17 hV4 hdA4 hG4 hgN4 hB4 b4 b9
  have hcK := fun (u : World) (hu : Below w17.heap.size w17 u) => specCanonZ_K ga gc g u hgO hgok (hgN.grow hu)
  unfold CanonSK at hcK
  rw [← hc2.out] at hcK
  go_cut [13] from 14 (fun v wc => ∃ (F : Nat) (ca : Option Addr) (cc : Nat), v = .pointer (some ⟨F, 0, none⟩) ∧ V7 wc F (.int .i64 0) (.int .i64 (tO.gen + 1)) (.int .i64 c.root.kind) (.int .i64 c.root.num) (.string c.root.text) (.int .i64 c.root.node) (.slice ca c.nodes.length cc) ∧ NodesAt wc.heap.size wc ca c.nodes ∧ Below w17.heap.size w17 wc)
  case first =>
    have hB : Below w17.heap.size w17 w17.drew := gdr (gre _)
    refine wp_regionU (fun u => V7 u O (.int .i64 tO.code) (.int .i64 tO.gen) (.int .i64 tO.g.root.kind) (.int .i64 tO.g.root.num) (.string tO.g.root.text) (.int .i64 tO.g.root.node) (.slice na tO.g.nodes.length nc) ∧ Five u G g.root (.slice ga g.nodes.length gc)) 7 (by kernel_rfl) ⟨hVO.grow hB, hF.kept (Kept.of_below hB (fun _ => False)) (fun e => e)⟩ (fun _ => ?_)
    generalize w17.drew = w18 at hB ⊢
    refine anyU_tk (i := 0) rfl ⟨hVO.grow hB, hF.kept (Kept.of_below hB (fun _ => False)) (fun e => e)⟩ (fun u hSu => by obtain ⟨⟨_, o0, o1, o2, o3, o4, o5, o6, _⟩, ⟨_, g0, g1, g2, g3, g4, _⟩⟩ := hSu; go_simp <;> with_reducible rfl) ?_
    refine anyU_tk (i := 1) rfl ⟨hVO.grow hB, hF.kept (Kept.of_below hB (fun _ => False)) (fun e => e)⟩ (fun u hSu => by obtain ⟨⟨_, o0, o1, o2, o3, o4, o5, o6, _⟩, ⟨_, g0, g1, g2, g3, g4, _⟩⟩ := hSu; go_simp <;> with_reducible rfl) ?_
    simp only [Act.put, List.getElem_toArray, List.getElem_cons_zero, List.getElem_cons_succ, List.setIfInBounds_toArray, List.set_cons_zero, List.set_cons_succ]
    refine anyU_take (i := 2) (v := .int .i64 (tO.gen + 1)) rfl (by kernel_rfl) (by kernel_rfl) (by kernel_rfl) (by kernel_rfl) (fun _ _ _ h => h) (Or.inl ⟨by rfl, ?_⟩) ⟨hVO.grow hB, hF.kept (Kept.of_below hB (fun _ => False)) (fun e => e)⟩ ?_
    · intro u hSu; obtain ⟨⟨_, o0, o1, o2, o3, o4, o5, o6, _⟩, ⟨_, g0, g1, g2, g3, g4, _⟩⟩ := hSu; go_simp <;> (rw [IntKind.wrap_i64]; omega)
    refine anyU_tk (i := 3) rfl ⟨hVO.grow hB, hF.kept (Kept.of_below hB (fun _ => False)) (fun e => e)⟩ (fun u hSu => by obtain ⟨⟨_, o0, o1, o2, o3, o4, o5, o6, _⟩, ⟨_, g0, g1, g2, g3, g4, _⟩⟩ := hSu; go_simp <;> with_reducible rfl) ?_
    simp only [Act.put, List.getElem_toArray, List.getElem_cons_zero, List.getElem_cons_succ, List.setIfInBounds_toArray, List.set_cons_zero, List.set_cons_succ]
    refine anyU_pair (i := 4) (j := 6) (by kernel_rfl) rfl rfl (fun K hK => ?_) (fun K hK => ?_)
    · skip
      go_simp
      refine (hcK _ hB).mono ?_
      rintro e w19 ⟨ca, cc, rfl, hcN, hb19⟩
      have hB := gca hB hb19
      refine hK.out _ _ ⟨hVO.grow hB, hF.kept (Kept.of_below hB (fun _ => False)) (fun e => e)⟩ ?_
      clear hK
      refine anyU_tk (i := 5) rfl ⟨hVO.grow hB, hF.kept (Kept.of_below hB (fun _ => False)) (fun e => e)⟩ (fun u hSu => by obtain ⟨⟨_, o0, o1, o2, o3, o4, o5, o6, _⟩, ⟨_, g0, g1, g2, g3, g4, _⟩⟩ := hSu; go_simp <;> with_reducible rfl) ?_
      simp only [Act.put, List.getElem_toArray, List.getElem_cons_zero, List.getElem_cons_succ, List.setIfInBounds_toArray, List.set_cons_zero, List.set_cons_succ]
      refine anyU_one (i := 6) (by kernel_rfl) rfl (fun K hK => ?_)
      go_simp
      obtain ⟨w20, hwa⟩ : ∃ u, Hid (u = w19.alloc (.cells #[.int .i64 0, .int .i64 0, .int .i64 0, .int .i64 0, .string ⟨#[]⟩, .int .i64 0, .slice none 0 0] 34)) := ⟨_, rfl⟩
      obtain ⟨F, hFe⟩ := hid_ex w19.heap.size
      rw [← hwa.out, ← hFe.out]
      have hbA : Below w19.heap.size w19 w20 := by rw [hwa.out]; exact gal (gre _) _
      have hvb : V7 w20 F (.int .i64 0) (.int .i64 0) (.int .i64 0) (.int .i64 0) (.string ⟨#[]⟩) (.int .i64 0) (.slice none 0 0) := by rw [hwa.out]; exact V7.new_at _ _ _ _ _ _ _ _ _ _ hFe.out
      have hFw : w17.heap.size ≤ F := by rw [hFe.out]; exact hB.size
      have hB := gca hB hbA
      refine hK.out _ _ ⟨hVO.grow hB, hF.kept (Kept.of_below hB (fun _ => False)) (fun e => e)⟩ ?_
      clear hK
      obtain ⟨_, z0, z1, z2, z3, z4, z5, z6, zf⟩ := id hvb
      refine anyU_last (by kernel_rfl) rfl (by kernel_rfl) (fun K hK => ?_)
      go_simp
      refine hK.out _ _ ?_
      clear hK
      obtain ⟨hv5, hKP⟩ := hvb.put (.int .i64 0) (.int .i64 (tO.gen + 1)) (.int .i64 c.root.kind) (.int .i64 c.root.num) (.string c.root.text) (.int .i64 c.root.node) (.slice ca c.nodes.length cc)
      have hN5 : NodesAt _ _ ca c.nodes := (hcN w19 (Kept.refl _ _)).grow (hbA.trans (hKP.below hbA.size (fun z hz e => by have := hFe.out; omega)))
      have hB5 : Below w17.heap.size w17 (((((((w20.setCell ⟨F, 0, none⟩ (.int .i64 0)).setCell ⟨F, 1, none⟩ (.int .i64 (tO.gen + 1))).setCell ⟨F, 2, none⟩ (.int .i64 c.root.kind)).setCell ⟨F, 3, none⟩ (.int .i64 c.root.num)).setCell ⟨F, 4, none⟩ (.string c.root.text)).setCell ⟨F, 5, none⟩ (.int .i64 c.root.node)).setCell ⟨F, 6, none⟩ (.slice ca c.nodes.length cc)) := hB.trans (hKP.below hB.size (fun z hz e => by omega))
      generalize ((((((w20.setCell ⟨F, 0, none⟩ (.int .i64 0)).setCell ⟨F, 1, none⟩ (.int .i64 (tO.gen + 1))).setCell ⟨F, 2, none⟩ (.int .i64 c.root.kind)).setCell ⟨F, 3, none⟩ (.int .i64 c.root.num)).setCell ⟨F, 4, none⟩ (.string c.root.text)).setCell ⟨F, 5, none⟩ (.int .i64 c.root.node)).setCell ⟨F, 6, none⟩ (.slice ca c.nodes.length cc) = wz at hv5 hKP hN5 hB5 ⊢
      go_wp2
      go_meet
      case rel => exact ⟨F, ca, cc, rfl, hv5, hN5, hB5⟩
    · skip
      go_simp
      obtain ⟨w19, hwa⟩ : ∃ u, Hid (u = w18.alloc (.cells #[.int .i64 0, .int .i64 0, .int .i64 0, .int .i64 0, .string ⟨#[]⟩, .int .i64 0, .slice none 0 0] 34)) := ⟨_, rfl⟩
      obtain ⟨F, hFe⟩ := hid_ex w18.heap.size
      rw [← hwa.out, ← hFe.out]
      have hbA : Below w18.heap.size w18 w19 := by rw [hwa.out]; exact gal (gre _) _
      have hvb : V7 w19 F (.int .i64 0) (.int .i64 0) (.int .i64 0) (.int .i64 0) (.string ⟨#[]⟩) (.int .i64 0) (.slice none 0 0) := by rw [hwa.out]; exact V7.new_at _ _ _ _ _ _ _ _ _ _ hFe.out
      have hFw : w17.heap.size ≤ F := by rw [hFe.out]; exact hB.size
      have hB := gca hB hbA
      refine hK.out _ _ ⟨hVO.grow hB, hF.kept (Kept.of_below hB (fun _ => False)) (fun e => e)⟩ ?_
      clear hK
      refine anyU_one (i := 4) (by kernel_rfl) rfl (fun K hK => ?_)
      have hFl := hvb.lt
      go_simp
      refine (hcK _ hB).mono ?_
      rintro e w20 ⟨ca, cc, rfl, hcN, hb20⟩
      have hvb := hvb.grow hb20
      have hB := gca hB hb20
      refine hK.out _ _ ⟨hVO.grow hB, hF.kept (Kept.of_below hB (fun _ => False)) (fun e => e)⟩ ?_
      clear hK
      refine anyU_tk (i := 5) rfl ⟨hVO.grow hB, hF.kept (Kept.of_below hB (fun _ => False)) (fun e => e)⟩ (fun u hSu => by obtain ⟨⟨_, o0, o1, o2, o3, o4, o5, o6, _⟩, ⟨_, g0, g1, g2, g3, g4, _⟩⟩ := hSu; go_simp <;> with_reducible rfl) ?_
      simp only [Act.put, List.getElem_toArray, List.getElem_cons_zero, List.getElem_cons_succ, List.setIfInBounds_toArray, List.set_cons_zero, List.set_cons_succ]
      obtain ⟨_, z0, z1, z2, z3, z4, z5, z6, zf⟩ := id hvb
      refine anyU_last (by kernel_rfl) rfl (by kernel_rfl) (fun K hK => ?_)
      go_simp
      refine hK.out _ _ ?_
      clear hK
      obtain ⟨hv5, hKP⟩ := hvb.put (.int .i64 0) (.int .i64 (tO.gen + 1)) (.int .i64 c.root.kind) (.int .i64 c.root.num) (.string c.root.text) (.int .i64 c.root.node) (.slice ca c.nodes.length cc)
      have hN5 : NodesAt _ _ ca c.nodes := hcN _ (hKP.mono (fun z _ e => by omega))
      have hB5 : Below w17.heap.size w17 (((((((w20.setCell ⟨F, 0, none⟩ (.int .i64 0)).setCell ⟨F, 1, none⟩ (.int .i64 (tO.gen + 1))).setCell ⟨F, 2, none⟩ (.int .i64 c.root.kind)).setCell ⟨F, 3, none⟩ (.int .i64 c.root.num)).setCell ⟨F, 4, none⟩ (.string c.root.text)).setCell ⟨F, 5, none⟩ (.int .i64 c.root.node)).setCell ⟨F, 6, none⟩ (.slice ca c.nodes.length cc)) := hB.trans (hKP.below hB.size (fun z hz e => by omega))
      generalize ((((((w20.setCell ⟨F, 0, none⟩ (.int .i64 0)).setCell ⟨F, 1, none⟩ (.int .i64 (tO.gen + 1))).setCell ⟨F, 2, none⟩ (.int .i64 c.root.kind)).setCell ⟨F, 3, none⟩ (.int .i64 c.root.num)).setCell ⟨F, 4, none⟩ (.string c.root.text)).setCell ⟨F, 5, none⟩ (.int .i64 c.root.node)).setCell ⟨F, 6, none⟩ (.slice ca c.nodes.length cc) = wz at hv5 hKP hN5 hB5 ⊢
      go_wp2
      go_meet
      case rel => exact ⟨F, ca, cc, rfl, hv5, hN5, hB5⟩
  obtain ⟨F, ca, cc, rfl, hVF, hcN, hb17⟩ := hcut
  generalize wc = w21 at hVF hcN hb17 ⊢
  have hVO := hVO.grow hb17
  have hON := hON.grow hb17
  have hVG := hVG.grow hb17
  have hGN := hGN.grow hb17
  have hVD := hVD.grow hb17
  have hdA := hdA.grow hb17
  have hBB := gca hBB hb17
  clear hF hgN hcK hb17
  go_upto_if 68 with fail
  by_cases hnl2 : n = ops.length
  case pos =>
    have hc68 : ((n : Int) == (ops.length : Int)) = true := by rw [hnl2]; simp
    obtain rfl := hAB.1 hnl2
    obtain ⟨_, x0, x1, x2, x3, x4, x5, x6, _⟩ := id hVG
    obtain ⟨_, y0, y1, y2, y3, y4, y5, y6, _⟩ := id hVF
    go_wp2_with (go_at_call 10; refine (wTaken_same ⟨0, tO.gen + 1, c⟩ ma ca mc cc _ hcO hGN hcN).mono ?_; rintro e w22 ⟨rfl, hb22⟩)
    go_ret
    exact ⟨rfl, gca hBB hb22⟩
  have hc68 : ((n : Int) == (ops.length : Int)) = false := beq_eq_false_iff_ne.2 (by omega)
  go_upto_region 20 with fail
  have hB : Below w21.heap.size w21 w21.drew := gdr (gre _)
  have hspT := fun (u : World) (hu : DAt u l d) => specTake_any d l u hC.gd.o hu
  rw [← htO.out] at hspT
  clear htG
  rcases hAB.2 with hq | ⟨hn1, rfl⟩
  · skip
    obtain rfl : tO = tG := hq.symm
    clear htO tgen
    refine wp_regionU (fun u => V7 u Y (.int .i64 tO.code) (.int .i64 tO.gen) (.int .i64 tO.g.root.kind) (.int .i64 tO.g.root.num) (.string tO.g.root.text) (.int .i64 tO.g.root.node) (.slice ma tO.g.nodes.length mc) ∧ V7 u O (.int .i64 tO.code) (.int .i64 tO.gen) (.int .i64 tO.g.root.kind) (.int .i64 tO.g.root.num) (.string tO.g.root.text) (.int .i64 tO.g.root.node) (.slice na tO.g.nodes.length nc) ∧ V7 u F (.int .i64 0) (.int .i64 (tO.gen + 1)) (.int .i64 c.root.kind) (.int .i64 c.root.num) (.string c.root.text) (.int .i64 c.root.node) (.slice ca c.nodes.length cc) ∧ VB u D (.slice l.ba d.blocks.length l.bc) (.slice l.wa d.waiting.length l.wc)) 99 (by kernel_rfl) ⟨hVG.grow hB, hVO.grow hB, hVF.grow hB, hVD.grow hB⟩ (fun _ => ?_)
    refine anyU_tk (i := 0) rfl ⟨hVG.grow hB, hVO.grow hB, hVF.grow hB, hVD.grow hB⟩ (fun u hSu => by obtain ⟨⟨_, x0, x1, x2, x3, x4, x5, x6, _⟩, ⟨_, o0, o1, o2, o3, o4, o5, o6, _⟩, ⟨_, y0, y1, y2, y3, y4, y5, y6, _⟩, ⟨v0, v1, _⟩⟩ := hSu; go_simp <;> with_reducible rfl) ?_
    refine anyU_tk (i := 1) rfl ⟨hVG.grow hB, hVO.grow hB, hVF.grow hB, hVD.grow hB⟩ (fun u hSu => by obtain ⟨⟨_, x0, x1, x2, x3, x4, x5, x6, _⟩, ⟨_, o0, o1, o2, o3, o4, o5, o6, _⟩, ⟨_, y0, y1, y2, y3, y4, y5, y6, _⟩, ⟨v0, v1, _⟩⟩ := hSu; go_simp <;> with_reducible rfl) ?_
    simp only [Act.put, List.getElem_toArray, List.getElem_cons_zero, List.getElem_cons_succ, List.setIfInBounds_toArray, List.set_cons_zero, List.set_cons_succ]
    refine anyU_one (i := 2) (by kernel_rfl) rfl (fun K hK => ?_)
    go_simp
    refine (wTaken_same tO ma na mc nc _ hGgO (hGN.grow hB) (hON.grow hB)).mono ?_
    rintro e w22 ⟨rfl, hb22⟩
    have hB := gca hB hb22
    refine hK.out _ _ ⟨hVG.grow hB, hVO.grow hB, hVF.grow hB, hVD.grow hB⟩ ?_
    clear hK
    refine anyU_tk (i := 3) rfl ⟨hVG.grow hB, hVO.grow hB, hVF.grow hB, hVD.grow hB⟩ (fun u hSu => by obtain ⟨⟨_, x0, x1, x2, x3, x4, x5, x6, _⟩, ⟨_, o0, o1, o2, o3, o4, o5, o6, _⟩, ⟨_, y0, y1, y2, y3, y4, y5, y6, _⟩, ⟨v0, v1, _⟩⟩ := hSu; go_simp <;> with_reducible rfl) ?_
    refine anyU_tk (i := 4) rfl ⟨hVG.grow hB, hVO.grow hB, hVF.grow hB, hVD.grow hB⟩ (fun u hSu => by obtain ⟨⟨_, x0, x1, x2, x3, x4, x5, x6, _⟩, ⟨_, o0, o1, o2, o3, o4, o5, o6, _⟩, ⟨_, y0, y1, y2, y3, y4, y5, y6, _⟩, ⟨v0, v1, _⟩⟩ := hSu; go_simp <;> with_reducible rfl) ?_
    refine anyU_tk (i := 5) rfl ⟨hVG.grow hB, hVO.grow hB, hVF.grow hB, hVD.grow hB⟩ (fun u hSu => by obtain ⟨⟨_, x0, x1, x2, x3, x4, x5, x6, _⟩, ⟨_, o0, o1, o2, o3, o4, o5, o6, _⟩, ⟨_, y0, y1, y2, y3, y4, y5, y6, _⟩, ⟨v0, v1, _⟩⟩ := hSu; go_simp <;> with_reducible rfl) ?_
    simp only [Act.put, List.getElem_toArray, List.getElem_cons_zero, List.getElem_cons_succ, List.setIfInBounds_toArray, List.set_cons_zero, List.set_cons_succ]
    refine anyU_one (i := 6) (by kernel_rfl) rfl (fun K hK => ?_)
    go_simp
    refine (hspT _ (hdA.grow hB)).mono ?_
    rintro e w23 ⟨qa, qc, rfl, hqN, hb23⟩
    have hB := gca hB hb23
    refine hK.out _ _ ⟨hVG.grow hB, hVO.grow hB, hVF.grow hB, hVD.grow hB⟩ ?_
    clear hK
    refine anyU_one (i := 7) (by kernel_rfl) rfl (fun K hK => ?_)
    go_simp
    refine (wTaken_same tO na qa nc qc _ hGgO (hON.grow hB) hqN).mono ?_
    rintro e w24 ⟨rfl, hb24⟩
    have hB := gca hB hb24
    refine hK.out _ _ ⟨hVG.grow hB, hVO.grow hB, hVF.grow hB, hVD.grow hB⟩ ?_
    clear hK
    refine anyU_tk (i := 8) rfl ⟨hVG.grow hB, hVO.grow hB, hVF.grow hB, hVD.grow hB⟩ (fun u hSu => by obtain ⟨⟨_, x0, x1, x2, x3, x4, x5, x6, _⟩, ⟨_, o0, o1, o2, o3, o4, o5, o6, _⟩, ⟨_, y0, y1, y2, y3, y4, y5, y6, _⟩, ⟨v0, v1, _⟩⟩ := hSu; go_simp <;> with_reducible rfl) ?_
    refine anyU_tk (i := 9) rfl ⟨hVG.grow hB, hVO.grow hB, hVF.grow hB, hVD.grow hB⟩ (fun u hSu => by obtain ⟨⟨_, x0, x1, x2, x3, x4, x5, x6, _⟩, ⟨_, o0, o1, o2, o3, o4, o5, o6, _⟩, ⟨_, y0, y1, y2, y3, y4, y5, y6, _⟩, ⟨v0, v1, _⟩⟩ := hSu; go_simp <;> with_reducible rfl) ?_
    simp only [Act.put, List.getElem_toArray, List.getElem_cons_zero, List.getElem_cons_succ, List.setIfInBounds_toArray, List.set_cons_zero, List.set_cons_succ]
    refine anyU_take (i := 10) (v := undef) rfl (by kernel_rfl) (by kernel_rfl) (by kernel_rfl) (by kernel_rfl) (fun _ _ _ h => h) (Or.inr ⟨by rfl, rfl⟩) ⟨hVG.grow hB, hVO.grow hB, hVF.grow hB, hVD.grow hB⟩ ?_
    simp only [Act.put, List.getElem_toArray, List.getElem_cons_zero, List.getElem_cons_succ, List.setIfInBounds_toArray, List.set_cons_zero, List.set_cons_succ]
    refine anyU_take (i := 11) (v := undef) rfl (by kernel_rfl) (by kernel_rfl) (by kernel_rfl) (by kernel_rfl) (fun _ _ _ h => h) (Or.inr ⟨by rfl, rfl⟩) ⟨hVG.grow hB, hVO.grow hB, hVF.grow hB, hVD.grow hB⟩ ?_
    simp only [Act.put, List.getElem_toArray, List.getElem_cons_zero, List.getElem_cons_succ, List.setIfInBounds_toArray, List.set_cons_zero, List.set_cons_succ]
    refine anyU_take (i := 12) (v := undef) rfl (by kernel_rfl) (by kernel_rfl) (by kernel_rfl) (by kernel_rfl) (fun _ _ _ h => h) (Or.inr ⟨by rfl, rfl⟩) ⟨hVG.grow hB, hVO.grow hB, hVF.grow hB, hVD.grow hB⟩ ?_
    simp only [Act.put, List.getElem_toArray, List.getElem_cons_zero, List.getElem_cons_succ, List.setIfInBounds_toArray, List.set_cons_zero, List.set_cons_succ]
    refine anyU_take (i := 13) (v := undef) rfl (by kernel_rfl) (by kernel_rfl) (by kernel_rfl) (by kernel_rfl) (fun _ _ _ h => h) (Or.inr ⟨by rfl, rfl⟩) ⟨hVG.grow hB, hVO.grow hB, hVF.grow hB, hVD.grow hB⟩ ?_
    simp only [Act.put, List.getElem_toArray, List.getElem_cons_zero, List.getElem_cons_succ, List.setIfInBounds_toArray, List.set_cons_zero, List.set_cons_succ]
    refine anyU_take (i := 14) (v := undef) rfl (by kernel_rfl) (by kernel_rfl) (by kernel_rfl) (by kernel_rfl) (fun _ _ _ h => h) (Or.inr ⟨by rfl, rfl⟩) ⟨hVG.grow hB, hVO.grow hB, hVF.grow hB, hVD.grow hB⟩ ?_
    simp only [Act.put, List.getElem_toArray, List.getElem_cons_zero, List.getElem_cons_succ, List.setIfInBounds_toArray, List.set_cons_zero, List.set_cons_succ]
    refine anyU_take (i := 15) (v := undef) rfl (by kernel_rfl) (by kernel_rfl) (by kernel_rfl) (by kernel_rfl) (fun _ _ _ h => h) (Or.inr ⟨by rfl, rfl⟩) ⟨hVG.grow hB, hVO.grow hB, hVF.grow hB, hVD.grow hB⟩ ?_
    simp only [Act.put, List.getElem_toArray, List.getElem_cons_zero, List.getElem_cons_succ, List.setIfInBounds_toArray, List.set_cons_zero, List.set_cons_succ]
    refine anyU_take (i := 16) (v := undef) rfl (by kernel_rfl) (by kernel_rfl) (by kernel_rfl) (by kernel_rfl) (fun _ _ _ h => h) (Or.inr ⟨by rfl, rfl⟩) ⟨hVG.grow hB, hVO.grow hB, hVF.grow hB, hVD.grow hB⟩ ?_
    simp only [Act.put, List.getElem_toArray, List.getElem_cons_zero, List.getElem_cons_succ, List.setIfInBounds_toArray, List.set_cons_zero, List.set_cons_succ]
    refine anyU_take (i := 17) (v := undef) rfl (by kernel_rfl) (by kernel_rfl) (by kernel_rfl) (by kernel_rfl) (fun _ _ _ h => h) (Or.inr ⟨by rfl, rfl⟩) ⟨hVG.grow hB, hVO.grow hB, hVF.grow hB, hVD.grow hB⟩ ?_
    simp only [Act.put, List.getElem_toArray, List.getElem_cons_zero, List.getElem_cons_succ, List.setIfInBounds_toArray, List.set_cons_zero, List.set_cons_succ]
    refine anyU_skipH (i := 18) (by kernel_rfl) rfl (by rfl) ⟨hVG.grow hB, hVO.grow hB, hVF.grow hB, hVD.grow hB⟩ ?_
    simp only [Act.put, List.getElem_toArray, List.getElem_cons_zero, List.getElem_cons_succ, List.setIfInBounds_toArray, List.set_cons_zero, List.set_cons_succ]
    refine anyU_take (i := 19) (v := undef) rfl (by kernel_rfl) (by kernel_rfl) (by kernel_rfl) (by kernel_rfl) (fun _ _ _ h => h) (Or.inr ⟨by rfl, rfl⟩) ⟨hVG.grow hB, hVO.grow hB, hVF.grow hB, hVD.grow hB⟩ ?_
    refine anyU_tk (i := 20) rfl ⟨hVG.grow hB, hVO.grow hB, hVF.grow hB, hVD.grow hB⟩ (fun u hSu => by obtain ⟨⟨_, x0, x1, x2, x3, x4, x5, x6, _⟩, ⟨_, o0, o1, o2, o3, o4, o5, o6, _⟩, ⟨_, y0, y1, y2, y3, y4, y5, y6, _⟩, ⟨v0, v1, _⟩⟩ := hSu; go_simp <;> with_reducible rfl) ?_
    refine anyU_tk (i := 21) rfl ⟨hVG.grow hB, hVO.grow hB, hVF.grow hB, hVD.grow hB⟩ (fun u hSu => by obtain ⟨⟨_, x0, x1, x2, x3, x4, x5, x6, _⟩, ⟨_, o0, o1, o2, o3, o4, o5, o6, _⟩, ⟨_, y0, y1, y2, y3, y4, y5, y6, _⟩, ⟨v0, v1, _⟩⟩ := hSu; go_simp <;> with_reducible rfl) ?_
    simp only [Act.put, List.getElem_toArray, List.getElem_cons_zero, List.getElem_cons_succ, List.setIfInBounds_toArray, List.set_cons_zero, List.set_cons_succ]
    refine anyU_done (by kernel_rfl) ?_
    go_wp2
    go_ret
    exact ⟨rfl, gca hBB hB⟩
  · skip
    refine wp_regionU (fun u => V7 u Y (.int .i64 0) (.int .i64 (tO.gen + 1)) (.int .i64 c.root.kind) (.int .i64 c.root.num) (.string c.root.text) (.int .i64 c.root.node) (.slice ma c.nodes.length mc) ∧ V7 u O (.int .i64 tO.code) (.int .i64 tO.gen) (.int .i64 tO.g.root.kind) (.int .i64 tO.g.root.num) (.string tO.g.root.text) (.int .i64 tO.g.root.node) (.slice na tO.g.nodes.length nc) ∧ V7 u F (.int .i64 0) (.int .i64 (tO.gen + 1)) (.int .i64 c.root.kind) (.int .i64 c.root.num) (.string c.root.text) (.int .i64 c.root.node) (.slice ca c.nodes.length cc) ∧ VB u D (.slice l.ba d.blocks.length l.bc) (.slice l.wa d.waiting.length l.wc)) 99 (by kernel_rfl) ⟨hVG.grow hB, hVO.grow hB, hVF.grow hB, hVD.grow hB⟩ (fun _ => ?_)
    refine anyU_tk (i := 0) rfl ⟨hVG.grow hB, hVO.grow hB, hVF.grow hB, hVD.grow hB⟩ (fun u hSu => by obtain ⟨⟨_, x0, x1, x2, x3, x4, x5, x6, _⟩, ⟨_, o0, o1, o2, o3, o4, o5, o6, _⟩, ⟨_, y0, y1, y2, y3, y4, y5, y6, _⟩, ⟨v0, v1, _⟩⟩ := hSu; go_simp <;> with_reducible rfl) ?_
    refine anyU_tk (i := 1) rfl ⟨hVG.grow hB, hVO.grow hB, hVF.grow hB, hVD.grow hB⟩ (fun u hSu => by obtain ⟨⟨_, x0, x1, x2, x3, x4, x5, x6, _⟩, ⟨_, o0, o1, o2, o3, o4, o5, o6, _⟩, ⟨_, y0, y1, y2, y3, y4, y5, y6, _⟩, ⟨v0, v1, _⟩⟩ := hSu; go_simp <;> with_reducible rfl) ?_
    simp only [Act.put, List.getElem_toArray, List.getElem_cons_zero, List.getElem_cons_succ, List.setIfInBounds_toArray, List.set_cons_zero, List.set_cons_succ]
    refine anyU_one (i := 2) (by kernel_rfl) rfl (fun K hK => ?_)
    go_simp
    refine (wTaken_ne ⟨0, tO.gen + 1, c⟩ tO ma na mc nc _ (by show tO.gen + 1 ≠ tO.gen; omega)).mono ?_
    rintro e w22 ⟨rfl, hb22⟩
    have hB := gca hB hb22
    refine hK.out _ _ ⟨hVG.grow hB, hVO.grow hB, hVF.grow hB, hVD.grow hB⟩ ?_
    clear hK
    refine anyU_tk (i := 3) rfl ⟨hVG.grow hB, hVO.grow hB, hVF.grow hB, hVD.grow hB⟩ (fun u hSu => by obtain ⟨⟨_, x0, x1, x2, x3, x4, x5, x6, _⟩, ⟨_, o0, o1, o2, o3, o4, o5, o6, _⟩, ⟨_, y0, y1, y2, y3, y4, y5, y6, _⟩, ⟨v0, v1, _⟩⟩ := hSu; go_simp <;> with_reducible rfl) ?_
    simp only [Act.put, List.getElem_toArray, List.getElem_cons_zero, List.getElem_cons_succ, List.setIfInBounds_toArray, List.set_cons_zero, List.set_cons_succ]
    refine anyU_take (i := 4) (v := undef) rfl (by kernel_rfl) (by kernel_rfl) (by kernel_rfl) (by kernel_rfl) (fun _ _ _ h => h) (Or.inr ⟨by rfl, rfl⟩) ⟨hVG.grow hB, hVO.grow hB, hVF.grow hB, hVD.grow hB⟩ ?_
    simp only [Act.put, List.getElem_toArray, List.getElem_cons_zero, List.getElem_cons_succ, List.setIfInBounds_toArray, List.set_cons_zero, List.set_cons_succ]
    refine anyU_take (i := 5) (v := undef) rfl (by kernel_rfl) (by kernel_rfl) (by kernel_rfl) (by kernel_rfl) (fun _ _ _ h => h) (Or.inr ⟨by rfl, rfl⟩) ⟨hVG.grow hB, hVO.grow hB, hVF.grow hB, hVD.grow hB⟩ ?_
    simp only [Act.put, List.getElem_toArray, List.getElem_cons_zero, List.getElem_cons_succ, List.setIfInBounds_toArray, List.set_cons_zero, List.set_cons_succ]
    refine anyU_skipH (i := 6) (by kernel_rfl) rfl (by rfl) ⟨hVG.grow hB, hVO.grow hB, hVF.grow hB, hVD.grow hB⟩ ?_
    simp only [Act.put, List.getElem_toArray, List.getElem_cons_zero, List.getElem_cons_succ, List.setIfInBounds_toArray, List.set_cons_zero, List.set_cons_succ]
    refine anyU_skipH (i := 7) (by kernel_rfl) rfl (by rfl) ⟨hVG.grow hB, hVO.grow hB, hVF.grow hB, hVD.grow hB⟩ ?_
    refine anyU_tk (i := 8) rfl ⟨hVG.grow hB, hVO.grow hB, hVF.grow hB, hVD.grow hB⟩ (fun u hSu => by obtain ⟨⟨_, x0, x1, x2, x3, x4, x5, x6, _⟩, ⟨_, o0, o1, o2, o3, o4, o5, o6, _⟩, ⟨_, y0, y1, y2, y3, y4, y5, y6, _⟩, ⟨v0, v1, _⟩⟩ := hSu; go_simp <;> with_reducible rfl) ?_
    refine anyU_tk (i := 9) rfl ⟨hVG.grow hB, hVO.grow hB, hVF.grow hB, hVD.grow hB⟩ (fun u hSu => by obtain ⟨⟨_, x0, x1, x2, x3, x4, x5, x6, _⟩, ⟨_, o0, o1, o2, o3, o4, o5, o6, _⟩, ⟨_, y0, y1, y2, y3, y4, y5, y6, _⟩, ⟨v0, v1, _⟩⟩ := hSu; go_simp <;> with_reducible rfl) ?_
    refine anyU_tk (i := 10) rfl ⟨hVG.grow hB, hVO.grow hB, hVF.grow hB, hVD.grow hB⟩ (fun u hSu => by obtain ⟨⟨_, x0, x1, x2, x3, x4, x5, x6, _⟩, ⟨_, o0, o1, o2, o3, o4, o5, o6, _⟩, ⟨_, y0, y1, y2, y3, y4, y5, y6, _⟩, ⟨v0, v1, _⟩⟩ := hSu; go_simp <;> with_reducible rfl) ?_
    refine anyU_tk (i := 11) rfl ⟨hVG.grow hB, hVO.grow hB, hVF.grow hB, hVD.grow hB⟩ (fun u hSu => by obtain ⟨⟨_, x0, x1, x2, x3, x4, x5, x6, _⟩, ⟨_, o0, o1, o2, o3, o4, o5, o6, _⟩, ⟨_, y0, y1, y2, y3, y4, y5, y6, _⟩, ⟨v0, v1, _⟩⟩ := hSu; go_simp <;> with_reducible rfl) ?_
    refine anyU_tk (i := 12) rfl ⟨hVG.grow hB, hVO.grow hB, hVF.grow hB, hVD.grow hB⟩ (fun u hSu => by obtain ⟨⟨_, x0, x1, x2, x3, x4, x5, x6, _⟩, ⟨_, o0, o1, o2, o3, o4, o5, o6, _⟩, ⟨_, y0, y1, y2, y3, y4, y5, y6, _⟩, ⟨v0, v1, _⟩⟩ := hSu; go_simp <;> with_reducible rfl) ?_
    simp only [Act.put, List.getElem_toArray, List.getElem_cons_zero, List.getElem_cons_succ, List.setIfInBounds_toArray, List.set_cons_zero, List.set_cons_succ]
    refine anyU_take (i := 13) (v := .int .i64 ((ops.length : Int) - 1)) rfl (by kernel_rfl) (by kernel_rfl) (by kernel_rfl) (by kernel_rfl) (fun _ _ _ h => h) (Or.inl ⟨by rfl, ?_⟩) ⟨hVG.grow hB, hVO.grow hB, hVF.grow hB, hVD.grow hB⟩ ?_
    · intro u hSu; obtain ⟨⟨_, x0, x1, x2, x3, x4, x5, x6, _⟩, ⟨_, o0, o1, o2, o3, o4, o5, o6, _⟩, ⟨_, y0, y1, y2, y3, y4, y5, y6, _⟩, ⟨v0, v1, _⟩⟩ := hSu; go_simp <;> (rw [IntKind.wrap_i64]; omega)
    simp only [Act.put, List.getElem_toArray, List.getElem_cons_zero, List.getElem_cons_succ, List.setIfInBounds_toArray, List.set_cons_zero, List.set_cons_succ]
    refine anyU_take (i := 14) (v := .bool true) rfl (by kernel_rfl) (by kernel_rfl) (by kernel_rfl) (by kernel_rfl) (fun _ _ _ h => h) (Or.inl ⟨by rfl, ?_⟩) ⟨hVG.grow hB, hVO.grow hB, hVF.grow hB, hVD.grow hB⟩ ?_
    · intro u hSu; obtain ⟨⟨_, x0, x1, x2, x3, x4, x5, x6, _⟩, ⟨_, o0, o1, o2, o3, o4, o5, o6, _⟩, ⟨_, y0, y1, y2, y3, y4, y5, y6, _⟩, ⟨v0, v1, _⟩⟩ := hSu; go_simp <;> first | rfl | omega | (simp; omega)
    refine anyU_tk (i := 15) rfl ⟨hVG.grow hB, hVO.grow hB, hVF.grow hB, hVD.grow hB⟩ (fun u hSu => by obtain ⟨⟨_, x0, x1, x2, x3, x4, x5, x6, _⟩, ⟨_, o0, o1, o2, o3, o4, o5, o6, _⟩, ⟨_, y0, y1, y2, y3, y4, y5, y6, _⟩, ⟨v0, v1, _⟩⟩ := hSu; go_simp <;> with_reducible rfl) ?_
    refine anyU_tk (i := 16) rfl ⟨hVG.grow hB, hVO.grow hB, hVF.grow hB, hVD.grow hB⟩ (fun u hSu => by obtain ⟨⟨_, x0, x1, x2, x3, x4, x5, x6, _⟩, ⟨_, o0, o1, o2, o3, o4, o5, o6, _⟩, ⟨_, y0, y1, y2, y3, y4, y5, y6, _⟩, ⟨v0, v1, _⟩⟩ := hSu; go_simp <;> with_reducible rfl) ?_
    refine anyU_tk (i := 17) rfl ⟨hVG.grow hB, hVO.grow hB, hVF.grow hB, hVD.grow hB⟩ (fun u hSu => by obtain ⟨⟨_, x0, x1, x2, x3, x4, x5, x6, _⟩, ⟨_, o0, o1, o2, o3, o4, o5, o6, _⟩, ⟨_, y0, y1, y2, y3, y4, y5, y6, _⟩, ⟨v0, v1, _⟩⟩ := hSu; go_simp <;> with_reducible rfl) ?_
    simp only [Act.put, List.getElem_toArray, List.getElem_cons_zero, List.getElem_cons_succ, List.setIfInBounds_toArray, List.set_cons_zero, List.set_cons_succ]
    refine anyU_one (i := 18) (by kernel_rfl) rfl (fun K hK => ?_)
    go_simp
    refine (wTaken_same ⟨0, tO.gen + 1, c⟩ ma ca mc cc _ hcO (hGN.grow hB) (hcN.grow hB)).mono ?_
    rintro e w23 ⟨rfl, hb23⟩
    have hB := gca hB hb23
    refine hK.out _ _ ⟨hVG.grow hB, hVO.grow hB, hVF.grow hB, hVD.grow hB⟩ ?_
    clear hK
    refine anyU_tk (i := 19) rfl ⟨hVG.grow hB, hVO.grow hB, hVF.grow hB, hVD.grow hB⟩ (fun u hSu => by obtain ⟨⟨_, x0, x1, x2, x3, x4, x5, x6, _⟩, ⟨_, o0, o1, o2, o3, o4, o5, o6, _⟩, ⟨_, y0, y1, y2, y3, y4, y5, y6, _⟩, ⟨v0, v1, _⟩⟩ := hSu; go_simp <;> with_reducible rfl) ?_
    refine anyU_tk (i := 20) rfl ⟨hVG.grow hB, hVO.grow hB, hVF.grow hB, hVD.grow hB⟩ (fun u hSu => by obtain ⟨⟨_, x0, x1, x2, x3, x4, x5, x6, _⟩, ⟨_, o0, o1, o2, o3, o4, o5, o6, _⟩, ⟨_, y0, y1, y2, y3, y4, y5, y6, _⟩, ⟨v0, v1, _⟩⟩ := hSu; go_simp <;> with_reducible rfl) ?_
    refine anyU_tk (i := 21) rfl ⟨hVG.grow hB, hVO.grow hB, hVF.grow hB, hVD.grow hB⟩ (fun u hSu => by obtain ⟨⟨_, x0, x1, x2, x3, x4, x5, x6, _⟩, ⟨_, o0, o1, o2, o3, o4, o5, o6, _⟩, ⟨_, y0, y1, y2, y3, y4, y5, y6, _⟩, ⟨v0, v1, _⟩⟩ := hSu; go_simp <;> with_reducible rfl) ?_
    simp only [Act.put, List.getElem_toArray, List.getElem_cons_zero, List.getElem_cons_succ, List.setIfInBounds_toArray, List.set_cons_zero, List.set_cons_succ]
    refine anyU_done (by kernel_rfl) ?_
    go_wp2
    go_ret
    exact ⟨rfl, gca hBB hB⟩

end Go.Proofs.YtmdpmdmilgbfiaaGreatDoor
