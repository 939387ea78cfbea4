import Derived.Test.YtmdpmdmilgbfiaaGreatDoorPartV
namespace Go.Proofs.YtmdpmdmilgbfiaaGreatDoor
open Go.RowKit
set_option maxRecDepth 100000
set_option maxHeartbeats 8000000
theorem chCut_any (C lo hi : Nat) (l : DL) (d : DD) (fa fb : Nat → Option Addr) (fc fe : Nat → Nat) (x : AC) (ga : Option Addr) (gc : Nat) (ka : Option Addr) (kc : Nat) (w : World) (hI : ID w C lo hi l d fa fb fc fe) (hG : GoodD d) (hg : x.graph.Ok) (hga : NodesAt w.heap.size w ga x.graph.nodes) (hka : BoolsAt w ka x.kept) (hkl : x.kept.length ≤ maxLen) (hkC : ∀ b off, ka = some ⟨b, off, none⟩ → 0 < x.kept.length → b ≠ C) (ho : Hid (x.op = 2)) : Calls Tryz.prog 74 #[.pointer (some ⟨C, 0, none⟩), x.val ga gc ka kc] w (IDo C lo hi (d.doA x) w) := by
 have hok := bare2 ho.out
 have hB := deed_boxes x ga gc ka kc w
 have hCl := hI.box.lt
 go_enter Tryz.func74, Tryz.ntmps74
 go_upto_region 1 with fail
 generalize (w.alloc (.cells #[.int .i64 x.op, .int .i64 x.graph.root.kind, .int .i64 x.graph.root.num, .string x.graph.root.text, .int .i64 x.graph.root.node, .slice ga x.graph.nodes.length gc, .int .i64 x.steps, .slice ka x.kept.length kc, .int .i64 x.block, .int .i64 x.byte, .int .i64 x.xor] 41)).alloc (.cells #[.int .i64 0, .int .i64 0, .int .i64 0, .int .i64 0, .string ⟨#[]⟩, .int .i64 0, .slice none 0 0] 34) = w1 at hB ⊢
 obtain ⟨hY, hT, hA, hs1⟩ := hB
 obtain ⟨p0, p1, p2, p3, p4, p5, p6, p7, p8, p9, p10⟩ := id hY
 simp only [Nat.zero_add] at p1 p2 p3 p4 p5 p6 p7 p8 p9 p10
 go_upto_region 3 with fail
 have hR := ActAt.new_at w1 (AC.mk x.op zeroG 0 [] x.block x.byte x.xor) none 0 none 0 41 (w.heap.size + 1 + 1) (by omega)
 have hA2 := gal (gre w1) (.cells #[.int .i64 x.op, .int .i64 0, .int .i64 0, .string ⟨#[]⟩, .int .i64 0, .slice none 0 0, .int .i64 0, .slice none 0 0, .int .i64 x.block, .int .i64 x.byte, .int .i64 x.xor] 41)
 have hRs : (w1.alloc (.cells #[.int .i64 x.op, .int .i64 0, .int .i64 0, .string ⟨#[]⟩, .int .i64 0, .slice none 0 0, .int .i64 0, .slice none 0 0, .int .i64 x.block, .int .i64 x.byte, .int .i64 x.xor] 41)).heap.size = w1.heap.size + 1 := by simp
 have hR' : ActAt (w1.alloc (.cells #[.int .i64 x.op, .int .i64 0, .int .i64 0, .string ⟨#[]⟩, .int .i64 0, .slice none 0 0, .int .i64 0, .slice none 0 0, .int .i64 x.block, .int .i64 x.byte, .int .i64 x.xor] 41)) (w.heap.size + 1 + 1) 0 (AC.mk x.op zeroG 0 [] x.block x.byte x.xor) none 0 none 0 := hR
 clear hR
 generalize w1.alloc (.cells #[.int .i64 x.op, .int .i64 0, .int .i64 0, .string ⟨#[]⟩, .int .i64 0, .slice none 0 0, .int .i64 0, .slice none 0 0, .int .i64 x.block, .int .i64 x.byte, .int .i64 x.xor] 41) = w2 at hA2 hR' hRs ⊢
 clear p0 p1 p2 p3 p4 p5 p6 p7 p8 p9 p10
 obtain ⟨s0, s1, s2, s3, s4, s5, s6, s7, s8, s9, s10⟩ := id hR'
 simp only [Nat.zero_add, zeroG, List.length_nil] at s1 s2 s3 s4 s5 s6 s7 s8 s9 s10
 have hY2 := hY.grow hA2
 have hT2 := hT.grow hA2
 have hAB := gca hA hA2
 have hba := fun u => isBare_any (AC.mk x.op zeroG 0 [] x.block x.byte x.xor) none 0 none 0 u
 obtain ⟨b, hb⟩ := hid_ex (AC.mk x.op zeroG 0 [] x.block x.byte x.xor).bare
 rw [← hb.out] at hba hok
 have hok' : Hid _ := hok
 clear hok
 have hdo : Hid (d.doA x = if x.okA = false then (d, ⟨4, 0, zeroG⟩) else if packB x.graph = [] then (d, ⟨5, 0, zeroG⟩) else (d.laidC x, ⟨0, (d.laidC x).newestOf.gen, zeroG⟩)) := by
  show _ = _
  unfold DD.doA
  rw [if_neg (show ¬ x.op = 3 by rw [ho.out]; decide), if_neg (show ¬ x.op = 4 by rw [ho.out]; decide)]
 by_cases hbad : b = true ∧ 0 ≤ x.steps ∧ x.steps ≤ 200 ∧ x.kept.length ≤ 200
 ·
  obtain ⟨rfl, h1, h2, h3⟩ := hbad
  have h3' : (x.kept.length : Int) ≤ 200 := by omega
  have hk : x.okA = true := by rw [hok'.out]; simp [h1, h2, h3]
  have hr1 := hdo.out.trans (if_neg (by rw [hk]; decide))
  clear hk
  by_cases hp : packB x.graph = []
  ·
   have hr0 := hr1.trans (if_pos hp)
   have hr : Hid _ := hr0
   clear hr0
   have hp' : Hid _ := hp
   clear hp hr1
   go_upto_region 7 with (first
    | (go_at_call 119; refine (hba _).mono ?_; rintro e w3 ⟨rfl, hb3⟩; obtain ⟨p0, p1, p2, p3, p4, p5, p6, p7, p8, p9, p10⟩ := hY2.grow hb3; simp only [Nat.zero_add] at p1 p2 p3 p4 p5 p6 p7 p8 p9 p10)
    | (go_at_call 120; refine (layDown_no C lo hi l d fa fb fc fe x.graph ga gc x.steps _ (hI.grow (gca hAB hb3)) hg (hga.grow (gca hAB hb3)) hp').mono ?_; rintro e w4 ⟨rfl, hb4⟩))
   have hT3 := (hT2.grow hb3).grow hb4
   have hA3 := gca (gca hAB hb3) hb4
   clear p0 p1 p2 p3 p4 p5 p6 p7 p8 p9 p10
   obtain ⟨_, r0, r1, r2, r3, r4, r5, r6, rf_⟩ := id hT3
   go_wp2
   obtain ⟨hV9, hK9⟩ := (hT3).put (.int .i64 0) (.int .i64 0) (.int .i64 0) (.int .i64 0) (.string ⟨#[]⟩) (.int .i64 0) (.slice none 0 0)
   generalize (((((((w4.setCell ⟨w.heap.size + 1, 0, none⟩ (.int .i64 0)).setCell ⟨w.heap.size + 1, 1, none⟩ (.int .i64 0)).setCell ⟨w.heap.size + 1, 2, none⟩ (.int .i64 0)).setCell ⟨w.heap.size + 1, 3, none⟩ (.int .i64 0)).setCell ⟨w.heap.size + 1, 4, none⟩ (.string ⟨#[]⟩)).setCell ⟨w.heap.size + 1, 5, none⟩ (.int .i64 0)).setCell ⟨w.heap.size + 1, 6, none⟩ (.slice none 0 0)) = w9 at hV9 hK9 ⊢
   obtain ⟨_, q0, q1, q2, q3, q4, q5, q6, _⟩ := id hV9
   exact bodyPost_ret (v := .tuple #[(TK.mk 0 0 zeroG).val none 0, .iface 132 (.agg #[.int .i64 5, .int .i64 0])]) (by simp [results, Tryz.results74, go_sem, q0, q1, q2, q3, q4, q5, q6, zeroG]) rfl (by rw [hr.out]; exact IDo.same hI (hA3.trans (hK9.below hA3.size (fun z hz e => by omega))) (Or.inr rfl))
  ·
   have hr0 := hr1.trans (if_neg hp)
   have hr : Hid _ := hr0
   clear hr0
   have hp' : Hid _ := hp
   clear hp hr1
   have hGc := laidC_good hG x
   obtain ⟨hL1, hL2, hL3⟩ := laid_ok hG x
   clear hL3
   have hce : Hid (d.laidS x.graph x.steps = d.laidA x) := laidS_cut ho.out h1
   have hcs : Hid (d.laidC x = (d.laidA x).settle (keepOf x.kept)) := if_pos ho.out
   obtain ⟨f, hf⟩ := hid_ex (d.laidA x)
   rw [← hf.out] at hL1 hL2 hce hcs
   obtain ⟨c, hc⟩ := hid_ex (d.laidC x)
   rw [← hc.out] at hGc hcs hr
   obtain ⟨k, hkn⟩ := hid_ex c.newestOf
   rw [← hkn.out] at hr
   have hL1' : Hid _ := hL1
   clear hL1
   go_upto_region 8 with (first
    | (go_at_call 119; refine (hba _).mono ?_; rintro e w3 ⟨rfl, hb3⟩; obtain ⟨p0, p1, p2, p3, p4, p5, p6, p7, p8, p9, p10⟩ := hY2.grow hb3; simp only [Nat.zero_add] at p1 p2 p3 p4 p5 p6 p7 p8 p9 p10)
    | (go_at_call 120; refine (layDown_yes C lo hi l d fa fb fc fe x.graph ga gc x.steps _ (hI.grow (gca hAB hb3)) hG hg (hga.grow (gca hAB hb3)) hp' h1 h2).mono ?_; rw [hce.out]; rintro e w4 ⟨lo4, hi4, l4, fa4, fb4, fc4, fe4, rfl, hI4, hlo4, hK4⟩))
   have hsAB := (gca hAB hb3).size
   have hs3 := hb3.size
   have hT4 := (hT2.grow hb3).kept hK4 (by omega)
   have hK0 : Kept (fun z => z = C ∨ (lo ≤ z ∧ z < hi)) w w4 := (Kept.of_below (gca hAB hb3) _).trans hK4 (fun _ _ e => Or.inl e)
   have hC3 : w.heap.size < w3.heap.size ∧ w.heap.size ≠ C := by omega
   have p7' : w4.cell? ⟨w.heap.size, 7, none⟩ = some (.slice ka x.kept.length kc) := hK4.cell p7 hC3.2
   have hK0C : Kept (fun z => z = C) w w4 := (Kept.of_below (gca hAB hb3) _).trans hK4 (fun _ _ e => e)
   have hka4 : BoolsAt w4 ka x.kept := fun i hi => by
    obtain ⟨b, off, e1, e2⟩ := hka i hi
    exact ⟨b, off, e1, hK0C.cell e2 (hkC b off e1 (by omega))⟩
   have hd4 : Below w4.heap.size w4 w4.drew := gdr (gre _)
   have hI4d := hI4.grow hd4
   have hT4d := hT4.grow hd4
   have hka4d := hka4.grow hd4
   have hK0d := hK0.trans (Kept.of_below hd4 (fun _ => False)) (fun _ _ e => e.elim)
   have hlo4' : w.heap.size ≤ lo4 := by omega
   clear p0 p1 p2 p3 p4 p5 p6 p7 p8 p9 p10 s0 s1 s2 s3 s4 s5 s6 s7 s8 s9 s10 hK4 hK0 hK0C hY hY2 hR' hAB hA hA2 hb3 hba hT hT2
   refine wp_regionU (fun u => u.cell? ⟨C, 0, none⟩ = some (.slice l4.ba f.blocks.length l4.bc) ∧ u.cell? ⟨C, 1, none⟩ = some (.slice l4.wa f.waiting.length l4.wc) ∧ u.cell? ⟨w.heap.size, 7, none⟩ = some (.slice ka x.kept.length kc)) 10 (by kernel_rfl) ⟨hI4d.box.v0, hI4d.box.v1, p7'⟩ (fun hS0 => ?_)
   generalize w4.drew = wd at hI4d hT4d hka4d hK0d hS0 ⊢
   refine anyU_tk (i := 0) rfl hS0 (fun u hSu => by obtain ⟨s0, s1, s2⟩ := hSu; go_simp <;> with_reducible rfl) ?_
   refine anyU_tk (i := 1) rfl hS0 (fun u hSu => by obtain ⟨s0, s1, s2⟩ := hSu; go_simp <;> with_reducible rfl) ?_
   refine anyU_tk (i := 2) rfl hS0 (fun u hSu => by obtain ⟨s0, s1, s2⟩ := hSu; go_simp <;> with_reducible rfl) ?_
   refine anyU_tk (i := 3) rfl hS0 (fun u hSu => by obtain ⟨s0, s1, s2⟩ := hSu; go_simp <;> with_reducible rfl) ?_
   refine anyU_tk (i := 4) rfl hS0 (fun u hSu => by obtain ⟨s0, s1, s2⟩ := hSu; go_simp <;> with_reducible rfl) ?_
   refine anyU_tk (i := 5) rfl hS0 (fun u hSu => by obtain ⟨s0, s1, s2⟩ := hSu; go_simp <;> with_reducible rfl) ?_
   refine anyU_tk (i := 6) rfl hS0 (fun u hSu => by obtain ⟨s0, s1, s2⟩ := hSu; go_simp <;> with_reducible rfl) ?_
   simp only [Act.put, List.getElem_toArray, List.getElem_cons_zero, List.getElem_cons_succ, List.setIfInBounds_toArray, List.set_cons_zero, List.set_cons_succ]
   refine anyU_one (i := 7) (by kernel_rfl) rfl (fun K hK => ?_)
   go_simp
   refine (implCrash_any f l4 ka x.kept kc wd hL2 hI4d.at_ hkl hka4d).mono ?_
   rw [← hcs.out]
   rintro e w5 ⟨l5, fa5, fb5, fc5, fe5, rfl, hmd5, hb5⟩
   refine hK.out _ _ ⟨cell_later hb5 hS0.1, cell_later hb5 hS0.2.1, cell_later hb5 hS0.2.2⟩ ?_
   clear hK
   have hS5 := (⟨cell_later hb5 hS0.1, cell_later hb5 hS0.2.1, cell_later hb5 hS0.2.2⟩ : w5.cell? ⟨C, 0, none⟩ = some (.slice l4.ba f.blocks.length l4.bc) ∧ w5.cell? ⟨C, 1, none⟩ = some (.slice l4.wa f.waiting.length l4.wc) ∧ w5.cell? ⟨w.heap.size, 7, none⟩ = some (.slice ka x.kept.length kc))
   refine anyU_one (i := 8) (by kernel_rfl) rfl (fun K hK => ?_)
   go_simp
   refine hK.out _ _ hS5 ?_
   clear hK
   refine anyU_one (i := 9) (by kernel_rfl) rfl (fun K hK => ?_)
   go_simp
   refine hK.out _ _ hS5 ?_
   clear hK
   have hB5 := hI4d.box.grow hb5
   obtain ⟨v0, v1, vf⟩ := id hB5
   refine anyU_last (by kernel_rfl) rfl (by kernel_rfl) (fun K hK => ?_)
   go_simp
   refine hK.out _ _ ?_
   clear hK
   have hV6 := (hB5.set0 (.slice l5.ba c.blocks.length l5.bc)).set1 (.slice l5.wa c.waiting.length l5.wc)
   have K6 := (Kept.one w5 C 0 (.slice l5.ba c.blocks.length l5.bc)).trans (Kept.one _ C 1 (.slice l5.wa c.waiting.length l5.wc)) (fun _ _ e => e)
   have hsd := hK0d.size
   have hI6 : ID _ C wd.heap.size w5.heap.size l5 c fa5 fb5 fc5 fe5 := ⟨hV6, hmd5.out K6 (fun z h1 h2 e => by omega), by omega, K6.size⟩
   have hT6 := (hT4d.grow hb5).kept K6 (by omega)
   have hK6 := (hK0d.trans (Kept.of_below hb5 (fun _ => False)) (fun _ _ e => e.elim)).trans K6 (fun _ _ e => Or.inl e)
   have hTl := hT4d.lt
   generalize (w5.setCell ⟨C, 0, none⟩ (.slice l5.ba c.blocks.length l5.bc)).setCell ⟨C, 1, none⟩ (.slice l5.wa c.waiting.length l5.wc) = w6 at hI6 hT6 hK6 ⊢
   clear v0 v1 vf
   go_wp2_with (go_at_call 121; refine (newestGen_any C _ _ l5 c fa5 fb5 fc5 fe5 _ hI6 hGc).mono ?_; rw [← hkn.out]; rintro e w7 ⟨rfl, hb7⟩; obtain ⟨_, r0, r1, r2, r3, r4, r5, r6, rf_⟩ := hT6.grow hb7)
   have hT7 := hT6.grow hb7
   have hI7 := hI6.grow hb7
   have hK7 := hK6.trans (Kept.of_below hb7 (fun _ => False)) (fun _ _ e => e.elim)
   obtain ⟨hV9, hK9⟩ := (hT7).put (.int .i64 0) (.int .i64 k.gen) (.int .i64 zeroG.root.kind) (.int .i64 zeroG.root.num) (.string zeroG.root.text) (.int .i64 zeroG.root.node) (.slice none zeroG.nodes.length 0)
   have hK9' := (hK7).trans hK9 (fun z hz e => by omega)
   have hI9 := (hI7).kept hK9 (by omega) (fun z h1 h2 e => by omega)
   generalize (((((((w7.setCell ⟨w.heap.size + 1, 0, none⟩ (.int .i64 0)).setCell ⟨w.heap.size + 1, 1, none⟩ (.int .i64 k.gen)).setCell ⟨w.heap.size + 1, 2, none⟩ (.int .i64 zeroG.root.kind)).setCell ⟨w.heap.size + 1, 3, none⟩ (.int .i64 zeroG.root.num)).setCell ⟨w.heap.size + 1, 4, none⟩ (.string zeroG.root.text)).setCell ⟨w.heap.size + 1, 5, none⟩ (.int .i64 zeroG.root.node)).setCell ⟨w.heap.size + 1, 6, none⟩ (.slice none zeroG.nodes.length 0)) = w9 at hV9 hK9 hK9' hI9 ⊢
   obtain ⟨_, q0, q1, q2, q3, q4, q5, q6, _⟩ := id hV9
   exact bodyPost_ret (v := .tuple #[(TK.mk 0 k.gen zeroG).val none 0, .nilIface]) (by simp [results, Tryz.results74, go_sem, q0, q1, q2, q3, q4, q5, q6, zeroG]) rfl (by rw [hr.out]; exact IDo.laid hI9 (by omega) hK9')
 ·
  have hk : x.okA = false := by
   rw [hok'.out, ← Bool.not_eq_true]
   simp only [Bool.and_eq_true, decide_eq_true_eq]
   exact fun h => hbad ⟨h.1.1.1, h.1.1.2, h.1.2, h.2⟩
  have hr0 := hdo.out.trans (if_pos hk)
  have hr : Hid _ := hr0
  clear hr0 hk hok' hdo
  cases b with
  | false =>
   clear hbad
   go_upto_region 4 with (go_at_call 119; refine (hba _).mono ?_; rintro e w3 ⟨rfl, hb3⟩; obtain ⟨p0, p1, p2, p3, p4, p5, p6, p7, p8, p9, p10⟩ := hY2.grow hb3; simp only [Nat.zero_add] at p1 p2 p3 p4 p5 p6 p7 p8 p9 p10)
   have hT3 := hT2.grow hb3
   have hA3 := gca hAB hb3
   obtain ⟨_, r0, r1, r2, r3, r4, r5, r6, rf_⟩ := id hT3
   go_wp2
   obtain ⟨hV9, hK9⟩ := (hT3).put (.int .i64 0) (.int .i64 0) (.int .i64 0) (.int .i64 0) (.string ⟨#[]⟩) (.int .i64 0) (.slice none 0 0)
   generalize (((((((w3.setCell ⟨w.heap.size + 1, 0, none⟩ (.int .i64 0)).setCell ⟨w.heap.size + 1, 1, none⟩ (.int .i64 0)).setCell ⟨w.heap.size + 1, 2, none⟩ (.int .i64 0)).setCell ⟨w.heap.size + 1, 3, none⟩ (.int .i64 0)).setCell ⟨w.heap.size + 1, 4, none⟩ (.string ⟨#[]⟩)).setCell ⟨w.heap.size + 1, 5, none⟩ (.int .i64 0)).setCell ⟨w.heap.size + 1, 6, none⟩ (.slice none 0 0)) = w9 at hV9 hK9 ⊢
   obtain ⟨_, q0, q1, q2, q3, q4, q5, q6, _⟩ := id hV9
   exact bodyPost_ret (v := .tuple #[(TK.mk 0 0 zeroG).val none 0, .iface 132 (.agg #[.int .i64 4, .int .i64 0])]) (by simp [results, Tryz.results74, go_sem, q0, q1, q2, q3, q4, q5, q6, zeroG]) rfl (by rw [hr.out]; exact IDo.same hI (hA3.trans (hK9.below hA3.size (fun z hz e => by omega))) (Or.inr rfl))
  | true =>
   by_cases h1 : 0 ≤ x.steps
   ·
    by_cases h2 : x.steps ≤ 200
    ·
     have h3 : ¬ (x.kept.length : Int) ≤ 200 := fun h => hbad ⟨rfl, h1, h2, by omega⟩
     clear hbad
     go_upto_region 4 with (go_at_call 119; refine (hba _).mono ?_; rintro e w3 ⟨rfl, hb3⟩; obtain ⟨p0, p1, p2, p3, p4, p5, p6, p7, p8, p9, p10⟩ := hY2.grow hb3; simp only [Nat.zero_add] at p1 p2 p3 p4 p5 p6 p7 p8 p9 p10)
     have hT3 := hT2.grow hb3
     have hA3 := gca hAB hb3
     obtain ⟨_, r0, r1, r2, r3, r4, r5, r6, rf_⟩ := id hT3
     go_wp2
     obtain ⟨hV9, hK9⟩ := (hT3).put (.int .i64 0) (.int .i64 0) (.int .i64 0) (.int .i64 0) (.string ⟨#[]⟩) (.int .i64 0) (.slice none 0 0)
     generalize (((((((w3.setCell ⟨w.heap.size + 1, 0, none⟩ (.int .i64 0)).setCell ⟨w.heap.size + 1, 1, none⟩ (.int .i64 0)).setCell ⟨w.heap.size + 1, 2, none⟩ (.int .i64 0)).setCell ⟨w.heap.size + 1, 3, none⟩ (.int .i64 0)).setCell ⟨w.heap.size + 1, 4, none⟩ (.string ⟨#[]⟩)).setCell ⟨w.heap.size + 1, 5, none⟩ (.int .i64 0)).setCell ⟨w.heap.size + 1, 6, none⟩ (.slice none 0 0)) = w9 at hV9 hK9 ⊢
     obtain ⟨_, q0, q1, q2, q3, q4, q5, q6, _⟩ := id hV9
     exact bodyPost_ret (v := .tuple #[(TK.mk 0 0 zeroG).val none 0, .iface 132 (.agg #[.int .i64 4, .int .i64 0])]) (by simp [results, Tryz.results74, go_sem, q0, q1, q2, q3, q4, q5, q6, zeroG]) rfl (by rw [hr.out]; exact IDo.same hI (hA3.trans (hK9.below hA3.size (fun z hz e => by omega))) (Or.inr rfl))
    ·
     clear hbad
     go_upto_region 4 with (go_at_call 119; refine (hba _).mono ?_; rintro e w3 ⟨rfl, hb3⟩; obtain ⟨p0, p1, p2, p3, p4, p5, p6, p7, p8, p9, p10⟩ := hY2.grow hb3; simp only [Nat.zero_add] at p1 p2 p3 p4 p5 p6 p7 p8 p9 p10)
     have hT3 := hT2.grow hb3
     have hA3 := gca hAB hb3
     obtain ⟨_, r0, r1, r2, r3, r4, r5, r6, rf_⟩ := id hT3
     go_wp2
     obtain ⟨hV9, hK9⟩ := (hT3).put (.int .i64 0) (.int .i64 0) (.int .i64 0) (.int .i64 0) (.string ⟨#[]⟩) (.int .i64 0) (.slice none 0 0)
     generalize (((((((w3.setCell ⟨w.heap.size + 1, 0, none⟩ (.int .i64 0)).setCell ⟨w.heap.size + 1, 1, none⟩ (.int .i64 0)).setCell ⟨w.heap.size + 1, 2, none⟩ (.int .i64 0)).setCell ⟨w.heap.size + 1, 3, none⟩ (.int .i64 0)).setCell ⟨w.heap.size + 1, 4, none⟩ (.string ⟨#[]⟩)).setCell ⟨w.heap.size + 1, 5, none⟩ (.int .i64 0)).setCell ⟨w.heap.size + 1, 6, none⟩ (.slice none 0 0)) = w9 at hV9 hK9 ⊢
     obtain ⟨_, q0, q1, q2, q3, q4, q5, q6, _⟩ := id hV9
     exact bodyPost_ret (v := .tuple #[(TK.mk 0 0 zeroG).val none 0, .iface 132 (.agg #[.int .i64 4, .int .i64 0])]) (by simp [results, Tryz.results74, go_sem, q0, q1, q2, q3, q4, q5, q6, zeroG]) rfl (by rw [hr.out]; exact IDo.same hI (hA3.trans (hK9.below hA3.size (fun z hz e => by omega))) (Or.inr rfl))
   ·
    clear hbad
    go_upto_region 4 with (go_at_call 119; refine (hba _).mono ?_; rintro e w3 ⟨rfl, hb3⟩; obtain ⟨p0, p1, p2, p3, p4, p5, p6, p7, p8, p9, p10⟩ := hY2.grow hb3; simp only [Nat.zero_add] at p1 p2 p3 p4 p5 p6 p7 p8 p9 p10)
    have hT3 := hT2.grow hb3
    have hA3 := gca hAB hb3
    obtain ⟨_, r0, r1, r2, r3, r4, r5, r6, rf_⟩ := id hT3
    go_wp2
    obtain ⟨hV9, hK9⟩ := (hT3).put (.int .i64 0) (.int .i64 0) (.int .i64 0) (.int .i64 0) (.string ⟨#[]⟩) (.int .i64 0) (.slice none 0 0)
    generalize (((((((w3.setCell ⟨w.heap.size + 1, 0, none⟩ (.int .i64 0)).setCell ⟨w.heap.size + 1, 1, none⟩ (.int .i64 0)).setCell ⟨w.heap.size + 1, 2, none⟩ (.int .i64 0)).setCell ⟨w.heap.size + 1, 3, none⟩ (.int .i64 0)).setCell ⟨w.heap.size + 1, 4, none⟩ (.string ⟨#[]⟩)).setCell ⟨w.heap.size + 1, 5, none⟩ (.int .i64 0)).setCell ⟨w.heap.size + 1, 6, none⟩ (.slice none 0 0)) = w9 at hV9 hK9 ⊢
    obtain ⟨_, q0, q1, q2, q3, q4, q5, q6, _⟩ := id hV9
    exact bodyPost_ret (v := .tuple #[(TK.mk 0 0 zeroG).val none 0, .iface 132 (.agg #[.int .i64 4, .int .i64 0])]) (by simp [results, Tryz.results74, go_sem, q0, q1, q2, q3, q4, q5, q6, zeroG]) rfl (by rw [hr.out]; exact IDo.same hI (hA3.trans (hK9.below hA3.size (fun z hz e => by omega))) (Or.inr rfl))
theorem chTake_any (C lo hi : Nat) (l : DL) (d : DD) (fa fb : Nat → Option Addr) (fc fe : Nat → Nat) (x : AC) (ga : Option Addr) (gc : Nat) (ka : Option Addr) (kc : Nat) (w : World) (hI : ID w C lo hi l d fa fb fc fe) (hG : GoodD d) (ho : Hid (x.op = 3)) : Calls Tryz.prog 75 #[.pointer (some ⟨C, 0, none⟩), x.val ga gc ka kc] w (IDo C lo hi (d.doA x) w) := by
 have hok := bare3 ho.out
 have hB := deed_boxes x ga gc ka kc w
 have hCl := hI.box.lt
 go_enter Tryz.func75, Tryz.ntmps75
 go_upto_region 1 with fail
 generalize (w.alloc (.cells #[.int .i64 x.op, .int .i64 x.graph.root.kind, .int .i64 x.graph.root.num, .string x.graph.root.text, .int .i64 x.graph.root.node, .slice ga x.graph.nodes.length gc, .int .i64 x.steps, .slice ka x.kept.length kc, .int .i64 x.block, .int .i64 x.byte, .int .i64 x.xor] 41)).alloc (.cells #[.int .i64 0, .int .i64 0, .int .i64 0, .int .i64 0, .string ⟨#[]⟩, .int .i64 0, .slice none 0 0] 34) = w1 at hB ⊢
 obtain ⟨hY, hT, hA, hs1⟩ := hB
 obtain ⟨p0, p1, p2, p3, p4, p5, p6, p7, p8, p9, p10⟩ := id hY
 simp only [Nat.zero_add] at p1 p2 p3 p4 p5 p6 p7 p8 p9 p10
 have hba := fun u => isBare_any x ga gc ka kc u
 rw [← hok] at hba
 have hdo : Hid (d.doA x = if x.okA = false then (d, ⟨4, 0, zeroG⟩) else (d, d.takeT)) := by
  show _ = _
  unfold DD.doA
  rw [if_pos ho.out]
 cases hk : x.okA with
 | false =>
  have hr0 := hdo.out.trans (if_pos hk)
  have hr : Hid _ := hr0
  clear hr0
  rw [hk] at hba
  clear hk
  go_upto_region 2 with (go_at_call 119; refine (hba _).mono ?_; rintro e w3 ⟨rfl, hb3⟩)
  have hT3 := hT.grow hb3
  have hA3 := gca hA hb3
  obtain ⟨_, r0, r1, r2, r3, r4, r5, r6, rf_⟩ := id hT3
  go_wp2
  obtain ⟨hV9, hK9⟩ := (hT3).put (.int .i64 0) (.int .i64 0) (.int .i64 0) (.int .i64 0) (.string ⟨#[]⟩) (.int .i64 0) (.slice none 0 0)
  generalize (((((((w3.setCell ⟨w.heap.size + 1, 0, none⟩ (.int .i64 0)).setCell ⟨w.heap.size + 1, 1, none⟩ (.int .i64 0)).setCell ⟨w.heap.size + 1, 2, none⟩ (.int .i64 0)).setCell ⟨w.heap.size + 1, 3, none⟩ (.int .i64 0)).setCell ⟨w.heap.size + 1, 4, none⟩ (.string ⟨#[]⟩)).setCell ⟨w.heap.size + 1, 5, none⟩ (.int .i64 0)).setCell ⟨w.heap.size + 1, 6, none⟩ (.slice none 0 0)) = w9 at hV9 hK9 ⊢
  obtain ⟨_, q0, q1, q2, q3, q4, q5, q6, _⟩ := id hV9
  exact bodyPost_ret (v := .tuple #[(TK.mk 0 0 zeroG).val none 0, .iface 132 (.agg #[.int .i64 4, .int .i64 0])]) (by simp [results, Tryz.results75, go_sem, q0, q1, q2, q3, q4, q5, q6, zeroG]) rfl (by rw [hr.out]; exact IDo.same hI (hA3.trans (hK9.below hA3.size (fun z hz e => by omega))) (Or.inr rfl))
 | true =>
  have hr1 := hdo.out.trans (if_neg (by rw [hk]; decide))
  rw [hk] at hba
  clear hk
  obtain ⟨t, ht⟩ := hid_ex d.takeT
  rw [← ht.out] at hr1
  have hr : Hid _ := hr1
  clear hr1
  have htu := fun (u : World) (h : DAt u l d) => takeUp_any d l u hG.o h
  have htv : ∀ u : World, DAt u l d → Calls Tryz.prog 50 #[d.val l] u fun e w' => Below u.heap.size u w' ∧ ((∃ na nc nl, e = .returned (.tuple #[t.val na nc, .nilIface]) ∧ nl.map (·.n) = t.g.nodes ∧ OwnG w' u.heap.size na nc nl) ∨ (Hid (t.g = zeroG) ∧ e = .returned (.tuple #[(TK.mk 0 0 zeroG).val none 0, .iface 132 (.agg #[.int .i64 t.code, .int .i64 t.gen])]))) := fun u h => (htu u h).mono fun e w' hh => by
   unfold TUp at hh
   rw [← ht.out] at hh
   obtain ⟨h1, ⟨na, nc, nl, _, h3, h4, h5⟩ | ⟨h2, h3⟩⟩ := hh
   · exact ⟨h1, Or.inl ⟨na, nc, nl, h3, h4, h5⟩⟩
   · exact ⟨h1, Or.inr ⟨h2, h3⟩⟩
  go_upto_region 3 with (go_at_call 119; refine (hba _).mono ?_; rintro e w3 ⟨rfl, hb3⟩)
  have hI3 := hI.grow (gca hA hb3)
  have hT3 := hT.grow hb3
  have hA3 := gca hA hb3
  have hs3 := hb3.size
  obtain ⟨v0, v1, vf⟩ := id hI3.box
  go_wp2_with (go_at_call 50; refine (htv _ hI3.at_).mono ?_; rintro e w4 ⟨hb4, ⟨na, nc, nl, rfl, hnl, hO4⟩ | ⟨hz', rfl⟩⟩ <;> obtain ⟨_, r0, r1, r2, r3, r4, r5, r6, rf_⟩ := hT3.grow hb4)
  ·
   have hT4 := hT3.grow hb4
   have hI4 := hI3.grow hb4
   have hA4 := gca hA3 hb4
   obtain ⟨hV9, hK9⟩ := hT4.put (.int .i64 t.code) (.int .i64 t.gen) (.int .i64 t.g.root.kind) (.int .i64 t.g.root.num) (.string t.g.root.text) (.int .i64 t.g.root.node) (.slice na t.g.nodes.length nc)
   have hO9 := hO4.kept hK9 (fun j e hp => by have := (hO4.nodes.lt j (by rw [e]; rfl)).1; omega) (fun y hy j e hp => by have := ((hO4.vals y hy).lt j (by rw [e]; rfl)).1; omega)
   have hI9 := hI4.kept hK9 (by omega) (fun z h1 h2 e => by have := hI.hiw; omega)
   generalize (((((((w4.setCell ⟨w.heap.size + 1, 0, none⟩ (.int .i64 t.code)).setCell ⟨w.heap.size + 1, 1, none⟩ (.int .i64 t.gen)).setCell ⟨w.heap.size + 1, 2, none⟩ (.int .i64 t.g.root.kind)).setCell ⟨w.heap.size + 1, 3, none⟩ (.int .i64 t.g.root.num)).setCell ⟨w.heap.size + 1, 4, none⟩ (.string t.g.root.text)).setCell ⟨w.heap.size + 1, 5, none⟩ (.int .i64 t.g.root.node)).setCell ⟨w.heap.size + 1, 6, none⟩ (.slice na t.g.nodes.length nc)) = w9 at hV9 hK9 hO9 hI9 ⊢
   obtain ⟨_, q0, q1, q2, q3, q4, q5, q6, _⟩ := id hV9
   exact bodyPost_ret (v := .tuple #[t.val na nc, .nilIface]) (by simp [results, Tryz.results75, go_sem, q0, q1, q2, q3, q4, q5, q6]) rfl (by rw [hr.out]; exact ⟨_, na, nc, nl, lo, hi, l, fa, fb, fc, fe, rfl, Or.inl rfl, hnl, hO9.le (by omega), hI9, Or.inl ⟨rfl, rfl⟩, (Kept.of_below hA4 _).trans (hK9.mono (q := fun z => w.heap.size ≤ z) (fun z _ e => by omega)) (fun z hz e => by omega)⟩)
  ·
   have hT4 := hT3.grow hb4
   have hA4 := gca hA3 hb4
   have hr2 : Hid (d.doA x = (d, ⟨t.code, t.gen, zeroG⟩)) := by show _ = _; rw [hr.out, ← hz'.out]
   obtain ⟨_, r0, r1, r2, r3, r4, r5, r6, rf_⟩ := id hT4
   go_wp2
   obtain ⟨hV9, hK9⟩ := (hT4).put (.int .i64 0) (.int .i64 0) (.int .i64 zeroG.root.kind) (.int .i64 zeroG.root.num) (.string zeroG.root.text) (.int .i64 zeroG.root.node) (.slice none zeroG.nodes.length 0)
   generalize (((((((w4.setCell ⟨w.heap.size + 1, 0, none⟩ (.int .i64 0)).setCell ⟨w.heap.size + 1, 1, none⟩ (.int .i64 0)).setCell ⟨w.heap.size + 1, 2, none⟩ (.int .i64 zeroG.root.kind)).setCell ⟨w.heap.size + 1, 3, none⟩ (.int .i64 zeroG.root.num)).setCell ⟨w.heap.size + 1, 4, none⟩ (.string zeroG.root.text)).setCell ⟨w.heap.size + 1, 5, none⟩ (.int .i64 zeroG.root.node)).setCell ⟨w.heap.size + 1, 6, none⟩ (.slice none zeroG.nodes.length 0)) = w9 at hV9 hK9 ⊢
   obtain ⟨_, q0, q1, q2, q3, q4, q5, q6, _⟩ := id hV9
   exact bodyPost_ret (v := .tuple #[(TK.mk 0 0 zeroG).val none 0, .iface 132 (.agg #[.int .i64 t.code, .int .i64 t.gen])]) (by simp [results, Tryz.results75, go_sem, q0, q1, q2, q3, q4, q5, q6, zeroG]) rfl (by rw [hr2.out]; exact IDo.same hI (hA4.trans (hK9.below hA4.size (fun z hz e => by omega))) (Or.inr rfl))
theorem SB.spoil {base : Nat} {w : World} {ba : Option Addr} {bc : Nat} {lb : List LB} (h : SB base w ba bc lb) (hap : AparL lb) {b g : Nat} (hb : b < lb.length) (hg : lb[b]!.a = some ⟨g, 0, none⟩) {y v : Nat} (_hv : Hid (y < lb[b]!.l.length)) :
  SB base (w.setCell ⟨g, y, none⟩ (.int .u8 (v : Int))) ba bc (lb.set b ⟨lb[b]!.l.set y v, lb[b]!.a, lb[b]!.cap⟩) := by
 have hm : lb[b]! ∈ lb := mem_at hb
 have K := Kept.one w g y (.int .u8 (v : Int))
 have hob : (Value.slice lb[b]!.a lb[b]!.l.length lb[b]!.cap).ownBlock = some g := by rw [hg]; rfl
 have hgB := (owns_isB (h.byt _ hm) hob).1
 refine ⟨?_, fun u hu => ?_⟩
 ·
  have e : (lb.set b ⟨lb[b]!.l.set y v, lb[b]!.a, lb[b]!.cap⟩).map LB.v = lb.map LB.v := by
   apply List.ext_getElem?
   intro i
   rw [List.getElem?_map, List.getElem?_map, List.getElem?_set]
   by_cases e : b = i
   ·
    subst e
    rw [if_pos rfl, if_pos hb, List.getElem?_eq_getElem hb, getElem!_pos lb b hb]
    simp [LB.v]
   · rw [if_neg e]
  rw [e, List.length_set]
  exact K.owns h.own (fun z hz e => by subst e; exact not_B_of_S (owns_isS h.own hz).1 hgB)
 ·
  obtain ⟨i, hi, rfl⟩ := List.getElem_of_mem hu
  rw [List.length_set] at hi
  rw [List.getElem_set]
  by_cases e : b = i
  ·
   rw [if_pos e]
   dsimp only
   have h1 := h.byt _ hm
   rw [hg] at h1 ⊢
   have h2 := owns_set h1 y (.int .u8 (v : Int))
   rw [List.length_set]
   rwa [show bcells (lb[b]!.l.set y v) = (bcells lb[b]!.l).set y (.int .u8 (v : Int)) by unfold bcells; rw [List.map_set]]
  ·
   rw [if_neg e]
   refine K.owns (h.byt _ (List.getElem_mem hi)) (fun z hz ez => ?_)
   subst ez
   rcases Nat.lt_or_gt_of_ne e with h3 | h3
   · exact (List.pairwise_iff_getElem.1 hap b i hb hi h3) z (by rw [← getElem!_pos lb b hb]; exact hob) hz
   · exact (List.pairwise_iff_getElem.1 hap i b hi hb h3) z hz (by rw [← getElem!_pos lb b hb]; exact hob)
theorem xor_u8 (a b : Nat) (ha : a < 256) (hb : b < 256) : bits .xor .u8 (a : Int) (IntKind.u8.wrap (b : Int)) = ((a ^^^ b : Nat) : Int) := by
 have h := Nat.xor_lt_two_pow (n := 8) ha hb
 have h1 : (BitVec.ofInt 8 (a : Int)).toNat = a := by
  rw [BitVec.ofInt_natCast, BitVec.toNat_ofNat]; exact Nat.mod_eq_of_lt (by omega)
 have h2 : (BitVec.ofInt 8 (b : Int)).toNat = b := by
  rw [BitVec.ofInt_natCast, BitVec.toNat_ofNat]; exact Nat.mod_eq_of_lt (by omega)
 rw [IntKind.wrap_u8', show (b : Int) % 256 = (b : Int) by omega]
 show IntKind.u8.wrap ((BitVec.ofInt 8 (a : Int) ^^^ BitVec.ofInt 8 (b : Int)).toNat : Int) = _
 rw [BitVec.toNat_xor, h1, h2, IntKind.wrap_u8']
 omega
theorem do_spoil (base : Nat) (d : DD) (l : DL) (lb : List LB) (lw : List LW) (x : AC) (ga : Option Addr) (gc : Nat) (ka : Option Addr) (kc : Nat) (w : World) (hbw : base ≤ w.heap.size) (hG : GoodD d) (hS : SD base w l d lb lw) (hok : x.okA = true) (ho4 : Hid (x.op = 4)) : Calls Tryz.prog 33 #[d.val l, x.val ga gc ka kc] w (SDo base (d.spoilA x, ⟨0, 0, zeroG⟩) w) := by
 have hq := okA_op4 hok ho4.out
 obtain ⟨j1, j2, j3, j4, hq1, hq2, hq3, hq4, hq5, hq6⟩ := hq
 clear j1 j2 j3 j4
 have hf := DD.fit hG.ok
 have hok' : Hid _ := hok
 clear hok
 have hB := do_boxes d l x ga gc ka kc w
 go_enter Tryz.func33, Tryz.ntmps33
 go_upto_region 1 with fail
 generalize (((w.alloc (.cells #[.slice l.ba d.blocks.length l.bc, .slice l.wa d.waiting.length l.wc] 46)).alloc (.cells #[.int .i64 x.op, .int .i64 x.graph.root.kind, .int .i64 x.graph.root.num, .string x.graph.root.text, .int .i64 x.graph.root.node, .slice ga x.graph.nodes.length gc, .int .i64 x.steps, .slice ka x.kept.length kc, .int .i64 x.block, .int .i64 x.byte, .int .i64 x.xor] 41)).alloc (.cells #[.slice none 0 0, .slice none 0 0] 46)).alloc (.cells #[.int .i64 0, .int .i64 0, .int .i64 0, .int .i64 0, .string ⟨#[]⟩, .int .i64 0, .slice none 0 0] 34) = w1 at hB ⊢
 obtain ⟨hX, hY, hR, hT, hRd, hTd, hA, hs1⟩ := hB
 obtain ⟨p0, p1, p2, p3, p4, p5, p6, p7, p8, p9, p10⟩ := id hY
 simp only [Nat.zero_add] at p1 p2 p3 p4 p5 p6 p7 p8 p9 p10
 go_upto_region 3 with (go_at_call 67; refine (l5actOk_any x ga gc ka kc _).mono ?_; rintro e w2 ⟨rfl, hb2⟩; rw [hok'.out])
 have hX2 := hX.grow hb2
 have hY2 := hY.grow hb2
 have hR2 := hR.grow hb2
 have hT2 := hT.grow hb2
 have hRd2 := hRd.grow hb2
 have hTd2 := hTd.grow hb2
 have hA2 := gca hA hb2
 have hs2 := hb2.size
 clear p0 p1 p2 p3 p4 p5 p6 p7 p8 p9 p10 hX hY hR hT hRd hTd hA hb2
 obtain ⟨_, x0, x1⟩ := id hX2
 obtain ⟨p0, p1, p2, p3, p4, p5, p6, p7, p8, p9, p10⟩ := id hY2
 simp only [Nat.zero_add] at p1 p2 p3 p4 p5 p6 p7 p8 p9 p10
 have ho4 := ho4.out
 obtain ⟨m, hm⟩ : ∃ m : Nat, x.block = (m : Int) := ⟨x.block.toNat, by omega⟩
 obtain ⟨y, hy⟩ : ∃ y : Nat, x.byte = (y : Int) := ⟨x.byte.toNat, by omega⟩
 obtain ⟨v, hv⟩ : ∃ v : Nat, x.xor = (v : Int) := ⟨x.xor.toNat, by omega⟩
 have hsp : Hid (d.spoilA x = ⟨spoilB d.blocks m y v, d.waiting⟩) := by show _ = _; unfold DD.spoilA; rw [hm, hy, hv]; rfl
 have hm130 : m < 130 := by omega
 have hy64 : y < 64 := by omega
 have hv255 : v ≤ 255 := by omega
 rw [hm] at p8
 rw [hy] at p9
 rw [hv] at p10
 clear hq1 hq2 hq3 hq4 hq5 hq6 hm hy hv
 rw [hsp.out]
 go_upto_region 7 with (go_at_call 68; refine (l3copy_far d l _ (Fit.smallA hf) (hS.grow hA2).at_).mono ?_; rintro e w3 ⟨lb3, lw3, ba, bc, wa, wc, rfl, hmb, hmw, hsb, hsw, hap, hb3⟩)
 have hV4 := VB.new w3 (.slice ba d.blocks.length bc) (.slice wa d.waiting.length wc) 46
 have hb4 := gal hb3 (.cells #[.slice ba d.blocks.length bc, .slice wa d.waiting.length wc] 46)
 have hsb4 := hsb.grow (gal (gre w3) (.cells #[.slice ba d.blocks.length bc, .slice wa d.waiting.length wc] 46))
 have hsw4 := hsw.grow (gal (gre w3) (.cells #[.slice ba d.blocks.length bc, .slice wa d.waiting.length wc] 46))
 have hVd4 : IsD (w3.alloc (.cells #[.slice ba d.blocks.length bc, .slice wa d.waiting.length wc] 46)) w3.heap.size := ⟨_, blk_new_at _ _ _ rfl⟩
 have hlen : lb3.length = 130 := by rw [← hf.bl, ← hmb, List.length_map]
 have hmem : lb3[m]! ∈ lb3 := mem_at (by omega)
 have hrl : lb3[m]!.l = d.blocks[m]! := by rw [← hmb, getElem!_pos (lb3.map (·.l)) m (by rw [List.length_map]; omega), getElem!_pos lb3 m (by omega), List.getElem_map]
 have hr64 : lb3[m]!.l.length = 64 := by rw [hrl]; exact hf.bb _ (mem_at (by rw [hf.bl]; exact hm130))
 obtain ⟨g, f, rfl, hg1, hg2, hg3, hg4, hg5⟩ := owns_row hsb4.own (by omega)
 obtain ⟨g', f', hga, hg1', hg2', hg3', hg4', hg5'⟩ := owns_row (hsb4.byt _ hmem) (by omega)
 have k1 := hg3.cell (i := m) (by omega)
 rw [hg5 m (LB.v lb3[m]!) (by rw [List.getElem?_map, List.getElem?_eq_getElem (by omega), ← getElem!_pos lb3 m (by omega)]; rfl)] at k1
 have k2 := hg3'.cell (i := y) (by omega)
 rw [hg5' y (.int .u8 ((lb3[m]!.l[y]! : Nat) : Int)) (bcells_get (by omega))] at k2
 have k1' : (w3.alloc (.cells #[.slice (some ⟨g, 0, none⟩) d.blocks.length bc, .slice wa d.waiting.length wc] 46)).cell? ⟨g, m, none⟩ = some (.slice (some ⟨g', 0, none⟩) 64 lb3[m]!.cap) := by rw [k1]; show some (Value.slice lb3[m]!.a lb3[m]!.l.length lb3[m]!.cap) = _; rw [hga, hr64]
 have kf := hg3'.frozen
 have hX4 := hX2.grow hb4
 have hY4 := hY2.grow hb4
 have hR4 := hR2.grow hb4
 have hT4 := hT2.grow hb4
 have hRd4 := hRd2.grow hb4
 have hTd4 := hTd2.grow hb4
 have hA4 := gca hA2 hb4
 have hs4 := hb3.size
 have v0 := hV4.v0
 have v1 := hV4.v1
 have p8' := cell_later hb4 p8
 have p9' := cell_later hb4 p9
 have p10' := cell_later hb4 p10
 obtain ⟨n0, hn0⟩ := hid_ex lb3[m]!.l[y]!
 rw [← hn0.out] at k2
 obtain ⟨cp, hcp⟩ := hid_ex lb3[m]!.cap
 rw [← hcp.out] at k1'
 have i0 : (0 : Int) ≤ (m : Int) := by omega
 have i1 : (m : Int) < (d.blocks.length : Int) := by rw [hf.bl]; omega
 have j0 : (0 : Int) ≤ (y : Int) := by omega
 have j1 : (y : Int) < (64 : Int) := by omega
 have hgV : g < w3.heap.size := (hsb.own.lt g rfl).2
 have hgV' : g' < w3.heap.size := by
  obtain ⟨⟨c, hc⟩, _⟩ := owns_isB (hsb.byt _ hmem) (z := g') (by rw [hga]; rfl)
  exact (Array.getElem?_eq_some_iff.1 hc).1
 generalize w3.alloc (.cells #[.slice (some ⟨g, 0, none⟩) d.blocks.length bc, .slice wa d.waiting.length wc] 46) = w4 at *
 clear p0 p1 p2 p3 p4 p5 p6 p7 p8 p9 p10 x0 x1 k1
 generalize hVe : w3.heap.size = V at *
 have hd4 : Below w4.heap.size w4 w4.drew := gdr (gre _)
 refine wp_regionU (fun u => u.cell? ⟨V, 0, none⟩ = some (.slice (some ⟨g, 0, none⟩) d.blocks.length bc) ∧ u.cell? ⟨w.heap.size + 1, 8, none⟩ = some (.int .i64 (m : Int)) ∧ u.cell? ⟨w.heap.size + 1, 9, none⟩ = some (.int .i64 (y : Int)) ∧ u.cell? ⟨w.heap.size + 1, 10, none⟩ = some (.int .i64 (v : Int)) ∧ u.cell? ⟨g, m, none⟩ = some (.slice (some ⟨g', 0, none⟩) 64 cp) ∧ u.cell? ⟨g', y, none⟩ = some (.int .u8 (n0 : Int))) 23 (by kernel_rfl) ⟨v0, p8', p9', p10', k1', k2⟩ (fun hS0 => ?_)
 refine anyU_tk (i := 0) rfl hS0 (fun u hSu => by obtain ⟨s0, s1, s2, s3, s4, s5⟩ := hSu; go_simp <;> with_reducible rfl) ?_
 refine anyU_tk (i := 1) rfl hS0 (fun u hSu => by obtain ⟨s0, s1, s2, s3, s4, s5⟩ := hSu; go_simp <;> with_reducible rfl) ?_
 refine anyU_tk (i := 2) rfl hS0 (fun u hSu => by obtain ⟨s0, s1, s2, s3, s4, s5⟩ := hSu; go_simp <;> with_reducible rfl) ?_
 refine anyU_tk (i := 3) rfl hS0 (fun u hSu => by obtain ⟨s0, s1, s2, s3, s4, s5⟩ := hSu; go_simp <;> with_reducible rfl) ?_
 refine anyU_tk (i := 4) rfl hS0 (fun u hSu => by obtain ⟨s0, s1, s2, s3, s4, s5⟩ := hSu; go_simp <;> with_reducible rfl) ?_
 refine anyU_tk (i := 5) rfl hS0 (fun u hSu => by obtain ⟨s0, s1, s2, s3, s4, s5⟩ := hSu; go_simp <;> with_reducible rfl) ?_
 refine anyU_tk (i := 6) rfl hS0 (fun u hSu => by obtain ⟨s0, s1, s2, s3, s4, s5⟩ := hSu; go_simp <;> with_reducible rfl) ?_
 refine anyU_tk (i := 7) rfl hS0 (fun u hSu => by obtain ⟨s0, s1, s2, s3, s4, s5⟩ := hSu; go_simp <;> with_reducible rfl) ?_
 refine anyU_tk (i := 8) rfl hS0 (fun u hSu => by obtain ⟨s0, s1, s2, s3, s4, s5⟩ := hSu; go_simp <;> with_reducible rfl) ?_
 refine anyU_tk (i := 9) rfl hS0 (fun u hSu => by obtain ⟨s0, s1, s2, s3, s4, s5⟩ := hSu; go_simp <;> with_reducible rfl) ?_
 refine anyU_tk (i := 10) rfl hS0 (fun u hSu => by obtain ⟨s0, s1, s2, s3, s4, s5⟩ := hSu; go_simp <;> with_reducible rfl) ?_
 refine anyU_tk (i := 11) rfl hS0 (fun u hSu => by obtain ⟨s0, s1, s2, s3, s4, s5⟩ := hSu; go_simp <;> with_reducible rfl) ?_
 refine anyU_tk (i := 12) rfl hS0 (fun u hSu => by obtain ⟨s0, s1, s2, s3, s4, s5⟩ := hSu; go_simp <;> with_reducible rfl) ?_
 refine anyU_tk (i := 13) rfl hS0 (fun u hSu => by obtain ⟨s0, s1, s2, s3, s4, s5⟩ := hSu; go_simp <;> with_reducible rfl) ?_
 refine anyU_tk (i := 14) rfl hS0 (fun u hSu => by obtain ⟨s0, s1, s2, s3, s4, s5⟩ := hSu; go_simp <;> with_reducible rfl) ?_
 refine anyU_tk (i := 15) rfl hS0 (fun u hSu => by obtain ⟨s0, s1, s2, s3, s4, s5⟩ := hSu; go_simp <;> with_reducible rfl) ?_
 refine anyU_tk (i := 16) rfl hS0 (fun u hSu => by obtain ⟨s0, s1, s2, s3, s4, s5⟩ := hSu; go_simp <;> with_reducible rfl) ?_
 refine anyU_tk (i := 17) rfl hS0 (fun u hSu => by obtain ⟨s0, s1, s2, s3, s4, s5⟩ := hSu; go_simp <;> with_reducible rfl) ?_
 refine anyU_tk (i := 18) rfl hS0 (fun u hSu => by obtain ⟨s0, s1, s2, s3, s4, s5⟩ := hSu; go_simp <;> with_reducible rfl) ?_
 refine anyU_tk (i := 19) rfl hS0 (fun u hSu => by obtain ⟨s0, s1, s2, s3, s4, s5⟩ := hSu; go_simp <;> with_reducible rfl) ?_
 refine anyU_tk (i := 20) rfl hS0 (fun u hSu => by obtain ⟨s0, s1, s2, s3, s4, s5⟩ := hSu; go_simp <;> with_reducible rfl) ?_
 refine anyU_tk (i := 21) rfl hS0 (fun u hSu => by obtain ⟨s0, s1, s2, s3, s4, s5⟩ := hSu; go_simp <;> with_reducible rfl) ?_
 refine anyU_tk (i := 22) rfl hS0 (fun u hSu => by obtain ⟨s0, s1, s2, s3, s4, s5⟩ := hSu; go_simp <;> with_reducible rfl) ?_
 simp only [Act.put, List.getElem_toArray, List.getElem_cons_zero, List.getElem_cons_succ, List.setIfInBounds_toArray, List.set_cons_zero, List.set_cons_succ]
 refine anyU_last (by kernel_rfl) rfl (by kernel_rfl) (fun K hK => ?_)
 obtain ⟨s0, s1, s2, s3, s4, s5⟩ := id hS0
 have kf' : ∀ o, w4.drew.frozen? ⟨g', o, none⟩ = false := fun o => kf o
 go_simp
 have hnb : n0 < 256 := by rw [hn0.out, hrl]; exact (hG.o.bb _ (mem_at (by rw [hf.bl]; exact hm130))).byte _ (mem_at (by rw [← hrl, hr64]; exact hy64))
 rw [xor_u8 n0 v hnb (by omega)]
 have hxe : Hid (spoilB d.blocks m y v = (lb3.set m ⟨lb3[m]!.l.set y (n0 ^^^ v), lb3[m]!.a, lb3[m]!.cap⟩).map (·.l)) := by
  show _ = _
  rw [List.map_set, hmb]
  unfold spoilB
  rw [hrl, hn0.out, hrl]
 have hsb5 := SB.spoil (v := n0 ^^^ v) hsb4 hap (by omega) hga (y := y) (by show y < _; omega)
 have hK5 : Kept (fun z => z = g') w4 ((w4.setCell ⟨g', y, none⟩ (.int .u8 ((n0 ^^^ v : Nat) : Int))).drew) := by
  have h0 := Kept.one w4 g' y (.int .u8 ((n0 ^^^ v : Nat) : Int))
  exact ⟨h0.os, h0.tape, h0.output, h0.size, h0.block⟩
 have hsb5' : SB w2.heap.size ((w4.setCell ⟨g', y, none⟩ (.int .u8 ((n0 ^^^ v : Nat) : Int))).drew) (some ⟨g, 0, none⟩) bc _ := hsb5.grow (gdr (gre _))
 refine hK.out _ _ ?_
 clear hK
 generalize (w4.setCell ⟨g', y, none⟩ (.int .u8 ((n0 ^^^ v : Nat) : Int))).drew = w5 at hK5 hsb5' ⊢
 have hlw0 : lw3 = [] := List.map_eq_nil_iff.1 (hmw.trans hG.w)
 have hgB : IsB w4 g' := (owns_isB (hsb4.byt _ hmem) (z := g') (by rw [hga]; rfl)).1
 have hsw5 : SW w2.heap.size w5 wa wc lw3 := ⟨hK5.owns hsw4.own (fun z hz e => by subst e; exact not_B_of_W (owns_isW hsw4.own hz).1 hgB), fun u hu => by rw [hlw0] at hu; cases hu⟩
 have hV5 := hV4.kept hK5 (by omega)
 have hR5 := hR4.kept hK5 (by omega)
 have hT5 := hT4.kept hK5 (by omega)
 have hRd5 := hRd4.kept hK5 (by omega)
 have hTd5 := hTd4.kept hK5 (by omega)
 have hA5 := hA4.trans (hK5.below hA4.size (fun z hz e => by omega))
 clear hn0 k1' k2 kf hS0 v0 v1 p8' p9' p10' hsb4 hsw4 hV4 hR4 hT4
 have v0 := hV5.v0
 have v1 := hV5.v1
 obtain ⟨z0, z1, zf⟩ := id hR5
 obtain ⟨_, r0, r1, r2, r3, r4, r5, r6, rf_⟩ := id hT5
 go_wp2
 obtain ⟨c0, c1, hV9, hK9⟩ := do_ret hR5 hT5 (by omega) (.slice (some ⟨g, 0, none⟩) d.blocks.length bc) (.slice wa d.waiting.length wc) (.int .i64 0) (.int .i64 0) (.int .i64 0) (.int .i64 0) (.string ⟨#[]⟩) (.int .i64 0) (.slice none 0 0)
 generalize (((((((((w5.setCell ⟨w.heap.size + 1 + 1, 0, none⟩ (.slice (some ⟨g, 0, none⟩) d.blocks.length bc)).setCell ⟨w.heap.size + 1 + 1, 1, none⟩ (.slice wa d.waiting.length wc)).setCell ⟨w.heap.size + 1 + 1 + 1, 0, none⟩ (.int .i64 0)).setCell ⟨w.heap.size + 1 + 1 + 1, 1, none⟩ (.int .i64 0)).setCell ⟨w.heap.size + 1 + 1 + 1, 2, none⟩ (.int .i64 0)).setCell ⟨w.heap.size + 1 + 1 + 1, 3, none⟩ (.int .i64 0)).setCell ⟨w.heap.size + 1 + 1 + 1, 4, none⟩ (.string ⟨#[]⟩)).setCell ⟨w.heap.size + 1 + 1 + 1, 5, none⟩ (.int .i64 0)).setCell ⟨w.heap.size + 1 + 1 + 1, 6, none⟩ (.slice none 0 0)) = w9 at c0 c1 hV9 hK9 ⊢
 obtain ⟨_, q0, q1, q2, q3, q4, q5, q6, _⟩ := id hV9
 exact bodyPost_ret (v := .tuple #[d.val ⟨some ⟨g, 0, none⟩, bc, wa, wc⟩, (TK.mk 0 0 zeroG).val none 0]) (by simp [results, Tryz.results33, go_sem, c0, c1, q0, q1, q2, q3, q4, q5, q6, zeroG]) rfl ⟨_, lw3, ⟨some ⟨g, 0, none⟩, bc, wa, wc⟩, none, 0, by rw [hsp.out]; simp only [DD.val, spoilB_length], by rw [hsp.out]; exact do_after ⟨hxe.out.symm, hmw, hsb5'.le (by have := hA2.size; omega), hsw5.le (by have := hA2.size; omega)⟩ hK9 hRd5 hTd5, fun _ _ i hi => absurd hi (Nat.not_lt_zero _), hA5.trans (hK9.below hA5.size (fun z hz e => by omega))⟩
theorem MBs.step {w w' : World} {lo hi : Nat} {a : Option Addr} {n : Nat} {F : Nat → List Nat} {fa : Nat → Option Addr} {fc : Nat → Nat} (h : MBs w lo hi a n F fa fc) {j : Nat} (hj : j < n) {ys : List Nat} (hy : ys.length = (F j).length) (hB : BB w' lo hi (fa j) ys) (hK : Kept (fun b => F j ≠ [] ∧ fa j = some ⟨b, 0, none⟩) w w') :
  MBs w' lo hi a n (fun i => if i = j then ys else F i) fa fc := by
 have hp : ∀ b, F j ≠ [] ∧ fa j = some ⟨b, 0, none⟩ → IsB w b := fun b hb => (h.tb ⟨j, hj, hb.1, hb.2⟩).2.2
 refine ⟨fun h0 => ?_, fun i hi => ?_, h.far⟩
 ·
  obtain ⟨g, m, f, h1, h2, h3, h4, h5, h6⟩ := h.row h0
  refine ⟨g, m, f, h1, h2, h3, hK.rowIs h4 (fun hb => not_B_of_bs h4 (hp g hb)), h5, fun i hi => ?_⟩
  show f i = .slice (fa i) (if i = j then ys else F i).length (fc i)
  split
  · rename_i e; subst e; rw [hy]; exact h6 i hi
  · exact h6 i hi
 ·
  show BB w' lo _ (fa i) (if i = j then ys else F i)
  split
  · rename_i e; subst e; exact hB
  ·
   rename_i e
   exact (h.byt i hi).kept hK (fun b hb _ hq => h.ne hi hj e b hb hq.2)
end Go.Proofs.YtmdpmdmilgbfiaaGreatDoor
