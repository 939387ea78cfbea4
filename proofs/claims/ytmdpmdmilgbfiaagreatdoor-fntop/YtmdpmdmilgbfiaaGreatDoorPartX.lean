import Derived.Laws.EntriesVeiled
import Derived.Test.YtmdpmdmilgbfiaaGreatDoorPartW
namespace Go.Proofs.YtmdpmdmilgbfiaaGreatDoor
open Go.RowKit
set_option maxRecDepth 100000
set_option maxHeartbeats 8000000
theorem BRow.put {w : World} {a n : Nat} {xs : List Nat} (h : BRow w a n xs) {y v : Nat} (_hy : Hid (y < xs.length)) : BRow (w.setCell ⟨a, y, none⟩ (.int .u8 (v : Int))) a n (xs.set y v) := by
 have hl : xs.length ≤ n := let ⟨_, _, _, h3, _⟩ := h; h3
 obtain ⟨f, hr, hf⟩ := h.row
 refine BRow.of_row (hr.set y (.int .u8 (v : Int))) (by rw [List.length_set]; exact hl) (fun i hi => ?_)
 rw [List.length_set] at hi
 rw [getElem!_pos (xs.set y v) i (by rw [List.length_set]; exact hi), List.getElem_set]
 by_cases e : i = y
 · rw [if_pos e, if_pos e.symm]
 · rw [if_neg e, if_neg (fun h => e h.symm), hf i hi, getElem!_pos xs i hi]
theorem MD.spoil {w : World} {lo hi : Nat} {l : DL} {d : DD} {fa fb : Nat → Option Addr} {fc fe : Nat → Nat} (h : MD w lo hi l d fa fb fc fe) (hw : d.waiting = []) {m y v G : Nat} (hm : m < d.blocks.length) (hy : y < d.blocks[m]!.length) (hG : fa m = some ⟨G, 0, none⟩) :
  MD (w.setCell ⟨G, y, none⟩ (.int .u8 ((d.blocks[m]![y]! ^^^ v : Nat) : Int))) lo hi l ⟨spoilB d.blocks m y v, d.waiting⟩ fa fb fc fe := by
 have hne : d.blocks[m]! ≠ [] := fun e => by rw [e] at hy; exact absurd hy (Nat.not_lt_zero _)
 have hK : Kept (fun b => d.blocks[m]! ≠ [] ∧ fa m = some ⟨b, 0, none⟩) w (w.setCell ⟨G, y, none⟩ (.int .u8 ((d.blocks[m]![y]! ^^^ v : Nat) : Int))) := (Kept.one w G y _).mono (fun z _ e => by rw [e]; exact ⟨hne, hG⟩)
 have hBB : BB (w.setCell ⟨G, y, none⟩ (.int .u8 ((d.blocks[m]![y]! ^^^ v : Nat) : Int))) lo hi (fa m) (d.blocks[m]!.set y (d.blocks[m]![y]! ^^^ v)) := by
  rcases h.b.byt m hm with e | ⟨G', n, h1, h2, h3, h4⟩
  · exact absurd e hne
  ·
   rw [hG] at h1
   obtain rfl := some_addr h1
   exact Or.inr ⟨G, n, hG, h2, h3, h4.put hy⟩
 have h1 := h.b.step hm (by rw [List.length_set]) hBB hK
 refine ⟨?_, ⟨fun h0 => absurd h0 (by show ¬ 0 < d.waiting.length; rw [hw]; simp), fun i hi => absurd hi (by show ¬ i < d.waiting.length; rw [hw]; simp), fun i j hij hj => absurd hj (by show ¬ j < d.waiting.length; rw [hw]; simp)⟩, fun i j _ hj => absurd hj (by show ¬ j < d.waiting.length; rw [hw]; simp)⟩
 show MBs _ lo hi l.ba (spoilB d.blocks m y v).length (fun i => (spoilB d.blocks m y v)[i]!) fa fc
 rw [spoilB_length]
 refine h1.congr (fun i hi => ?_)
 unfold spoilB
 rw [getElem!_pos _ i (by rw [List.length_set]; exact hi), List.getElem_set]
 by_cases e : i = m
 · rw [if_pos e.symm, if_pos e]
 · rw [if_neg (fun h => e h.symm), if_neg e, getElem!_pos d.blocks i hi]
theorem chSpoil_any (C lo hi : Nat) (l : DL) (d : DD) (fa fb : Nat → Option Addr) (fc fe : Nat → Nat) (x : AC) (ga : Option Addr) (gc : Nat) (ka : Option Addr) (kc : Nat) (w : World) (hI : ID w C lo hi l d fa fb fc fe) (hG : GoodD d) (hx : x.Ok) (ho : Hid (x.op = 4)) : Calls Tryz.prog 76 #[.pointer (some ⟨C, 0, none⟩), x.val ga gc ka kc] w (IDo C lo hi (d.doA x) w) := by
 have hok := bare4 ho.out
 have hB := deed_boxes x ga gc ka kc w
 have hCl := hI.box.lt
 go_enter Tryz.func76, Tryz.ntmps76
 go_upto_region 1 with fail
 generalize (w.alloc (.cells #[.int .i64 x.op, .int .i64 x.graph.root.kind, .int .i64 x.graph.root.num, .string x.graph.root.text, .int .i64 x.graph.root.node, .slice ga x.graph.nodes.length gc, .int .i64 x.steps, .slice ka x.kept.length kc, .int .i64 x.block, .int .i64 x.byte, .int .i64 x.xor] 41)).alloc (.cells #[.int .i64 0, .int .i64 0, .int .i64 0, .int .i64 0, .string ⟨#[]⟩, .int .i64 0, .slice none 0 0] 34) = w1 at hB ⊢
 obtain ⟨hY, hT, hA, hs1⟩ := hB
 obtain ⟨p0, p1, p2, p3, p4, p5, p6, p7, p8, p9, p10⟩ := id hY
 simp only [Nat.zero_add] at p1 p2 p3 p4 p5 p6 p7 p8 p9 p10
 go_upto_region 3 with fail
 have hR := ActAt.new_at w1 (AC.mk x.op x.graph x.steps x.kept 0 0 0) ga gc ka kc 41 (w.heap.size + 1 + 1) (by omega)
 have hA2 := gal (gre w1) (.cells #[.int .i64 x.op, .int .i64 x.graph.root.kind, .int .i64 x.graph.root.num, .string x.graph.root.text, .int .i64 x.graph.root.node, .slice ga x.graph.nodes.length gc, .int .i64 x.steps, .slice ka x.kept.length kc, .int .i64 0, .int .i64 0, .int .i64 0] 41)
 have hRs : (w1.alloc (.cells #[.int .i64 x.op, .int .i64 x.graph.root.kind, .int .i64 x.graph.root.num, .string x.graph.root.text, .int .i64 x.graph.root.node, .slice ga x.graph.nodes.length gc, .int .i64 x.steps, .slice ka x.kept.length kc, .int .i64 0, .int .i64 0, .int .i64 0] 41)).heap.size = w1.heap.size + 1 := by simp
 have hR' : ActAt (w1.alloc (.cells #[.int .i64 x.op, .int .i64 x.graph.root.kind, .int .i64 x.graph.root.num, .string x.graph.root.text, .int .i64 x.graph.root.node, .slice ga x.graph.nodes.length gc, .int .i64 x.steps, .slice ka x.kept.length kc, .int .i64 0, .int .i64 0, .int .i64 0] 41)) (w.heap.size + 1 + 1) 0 (AC.mk x.op x.graph x.steps x.kept 0 0 0) ga gc ka kc := hR
 clear hR
 generalize w1.alloc (.cells #[.int .i64 x.op, .int .i64 x.graph.root.kind, .int .i64 x.graph.root.num, .string x.graph.root.text, .int .i64 x.graph.root.node, .slice ga x.graph.nodes.length gc, .int .i64 x.steps, .slice ka x.kept.length kc, .int .i64 0, .int .i64 0, .int .i64 0] 41) = w2 at hA2 hR' hRs ⊢
 clear p0 p1 p2 p3 p4 p5 p6 p7 p8 p9 p10
 obtain ⟨s0, s1, s2, s3, s4, s5, s6, s7, s8, s9, s10⟩ := id hR'
 simp only [Nat.zero_add] at s1 s2 s3 s4 s5 s6 s7 s8 s9 s10
 have hY2 := hY.grow hA2
 have hT2 := hT.grow hA2
 have hAB := gca hA hA2
 have hba := fun u => isBare_any (AC.mk x.op x.graph x.steps x.kept 0 0 0) ga gc ka kc u
 obtain ⟨b, hb⟩ := hid_ex (AC.mk x.op x.graph x.steps x.kept 0 0 0).bare
 rw [← hb.out] at hba hok
 have hok' : Hid _ := hok
 clear hok
 have hdo : Hid (d.doA x = if x.okA = false then (d, ⟨4, 0, zeroG⟩) else (d.spoilA x, ⟨0, 0, zeroG⟩)) := by
  show _ = _
  unfold DD.doA
  rw [if_neg (show ¬ x.op = 3 by rw [ho.out]; decide), if_pos ho.out]
 have hhb := fun (u : World) => hasBlock_any x.block u hx.block
 obtain ⟨bh, hbh⟩ := hid_ex (decide (0 ≤ x.block) && decide (x.block < 130))
 simp only [← hbh.out] at hhb
 rw [← hbh.out] at hok'
 by_cases hbad : b = true ∧ bh = true ∧ 0 ≤ x.byte ∧ x.byte < 64 ∧ 1 ≤ x.xor ∧ x.xor ≤ 255
 ·
  obtain ⟨rfl, rfl, h1, h2, h3, h4⟩ := hbad
  have hk : x.okA = true := by rw [hok'.out]; simp [h1, h2, h3, h4]
  have hr0 := hdo.out.trans (if_neg (by rw [hk]; decide))
  have hr : Hid _ := hr0
  have hbl := hbh.out.symm
  simp only [Bool.and_eq_true, decide_eq_true_eq] at hbl
  obtain ⟨hb0, hb1⟩ := hbl
  clear hr0 hk hok' hdo
  go_upto_region 5 with (first
   | (go_at_call 119; refine (hba _).mono ?_; rintro e w3 ⟨rfl, hb3⟩; obtain ⟨p0, p1, p2, p3, p4, p5, p6, p7, p8, p9, p10⟩ := hY2.grow hb3; simp only [Nat.zero_add] at p1 p2 p3 p4 p5 p6 p7 p8 p9 p10)
   | (go_at_call 108; refine (hhb _).mono ?_; rintro e w4 ⟨rfl, hb4⟩; obtain ⟨p0, p1, p2, p3, p4, p5, p6, p7, p8, p9, p10⟩ := (hY2.grow hb3).grow hb4; simp only [Nat.zero_add] at p1 p2 p3 p4 p5 p6 p7 p8 p9 p10))
  have hA4 := gca (gca hAB hb3) hb4
  have hT4 := (hT2.grow hb3).grow hb4
  have hI4 := hI.grow hA4
  have hf := DD.fit hG.ok
  obtain ⟨m, hm⟩ : ∃ m : Nat, x.block = (m : Int) := ⟨x.block.toNat, by omega⟩
  obtain ⟨y, hy⟩ : ∃ y : Nat, x.byte = (y : Int) := ⟨x.byte.toNat, by omega⟩
  obtain ⟨v, hv⟩ : ∃ v : Nat, x.xor = (v : Int) := ⟨x.xor.toNat, by omega⟩
  have hsp : Hid (d.spoilA x = ⟨spoilB d.blocks m y v, d.waiting⟩) := by show _ = _; unfold DD.spoilA; rw [hm, hy, hv]; rfl
  have hm130 : m < 130 := by omega
  have hy64 : y < 64 := by omega
  have hv255 : v ≤ 255 := by omega
  rw [hm] at p8
  rw [hy] at p9
  rw [hv] at p10
  clear h1 h2 h3 h4 hb0 hb1 hm hy hv hhb hba hbh
  have hml : m < d.blocks.length := by rw [hf.bl]; exact hm130
  have hr64 : d.blocks[m]!.length = 64 := hf.bb _ (mem_at hml)
  obtain ⟨g, n1, f1, hg1, hg2, hg3, hg4, hg5, hg6⟩ := hI4.md.b.row (by omega)
  obtain ⟨G, n2, e1, e2, e3, e4⟩ : ∃ G n, fa m = some ⟨G, 0, none⟩ ∧ lo ≤ G ∧ G < hi ∧ BRow w4 G n d.blocks[m]! := by
   rcases hI4.md.b.byt m hml with e | h
   · rw [e] at hr64; cases hr64
   · exact h
  have k1 := hg4.cell (i := m) (by omega)
  rw [hg6 m hml, e1] at k1
  have k1' : w4.cell? ⟨g, m, none⟩ = some (.slice (some ⟨G, 0, none⟩) 64 (fc m)) := by rw [k1]; simp only [hr64]
  have k2 := e4.cell (i := y) (by omega)
  have kf := e4.frozen
  obtain ⟨n0, hn0⟩ := hid_ex d.blocks[m]![y]!
  have hnb : n0 < 256 := by rw [hn0.out]; exact (hG.o.bb _ (mem_at hml)).byte _ (mem_at (by omega))
  rw [← hn0.out] at k2
  have hMD := fun vv => hI4.md.spoil (v := vv) hG.w hml (by omega : y < _) e1
  simp only [← hn0.out] at hMD
  obtain ⟨v0, v1, vf⟩ := id hI4.box
  rw [hg1] at v0
  have i0 : (0 : Int) ≤ (m : Int) := by omega
  have i1 : (m : Int) < (d.blocks.length : Int) := by omega
  have j0 : (0 : Int) ≤ (y : Int) := by omega
  have j1 : (y : Int) < (64 : Int) := by omega
  refine wp_regionU (fun u => u.cell? ⟨C, 0, none⟩ = some (.slice (some ⟨g, 0, none⟩) d.blocks.length l.bc) ∧ u.cell? ⟨w.heap.size, 8, none⟩ = some (.int .i64 (m : Int)) ∧ u.cell? ⟨w.heap.size, 9, none⟩ = some (.int .i64 (y : Int)) ∧ u.cell? ⟨w.heap.size, 10, none⟩ = some (.int .i64 (v : Int)) ∧ u.cell? ⟨g, m, none⟩ = some (.slice (some ⟨G, 0, none⟩) 64 (fc m)) ∧ u.cell? ⟨G, y, none⟩ = some (.int .u8 (n0 : Int))) 18 (by kernel_rfl) ⟨v0, p8, p9, p10, k1', k2⟩ (fun hS0 => ?_)
  refine anyU_tk (i := 0) rfl hS0 (fun u hSu => by obtain ⟨s0, s1, s2, s3, s4, s5⟩ := hSu; go_simp <;> with_reducible rfl) ?_
  refine anyU_tk (i := 1) rfl hS0 (fun u hSu => by obtain ⟨s0, s1, s2, s3, s4, s5⟩ := hSu; go_simp <;> with_reducible rfl) ?_
  refine anyU_tk (i := 2) rfl hS0 (fun u hSu => by obtain ⟨s0, s1, s2, s3, s4, s5⟩ := hSu; go_simp <;> with_reducible rfl) ?_
  refine anyU_tk (i := 3) rfl hS0 (fun u hSu => by obtain ⟨s0, s1, s2, s3, s4, s5⟩ := hSu; go_simp <;> with_reducible rfl) ?_
  refine anyU_tk (i := 4) rfl hS0 (fun u hSu => by obtain ⟨s0, s1, s2, s3, s4, s5⟩ := hSu; go_simp <;> with_reducible rfl) ?_
  refine anyU_tk (i := 5) rfl hS0 (fun u hSu => by obtain ⟨s0, s1, s2, s3, s4, s5⟩ := hSu; go_simp <;> with_reducible rfl) ?_
  refine anyU_tk (i := 6) rfl hS0 (fun u hSu => by obtain ⟨s0, s1, s2, s3, s4, s5⟩ := hSu; go_simp <;> with_reducible rfl) ?_
  refine anyU_tk (i := 7) rfl hS0 (fun u hSu => by obtain ⟨s0, s1, s2, s3, s4, s5⟩ := hSu; go_simp <;> with_reducible rfl) ?_
  refine anyU_tk (i := 8) rfl hS0 (fun u hSu => by obtain ⟨s0, s1, s2, s3, s4, s5⟩ := hSu; go_simp <;> with_reducible rfl) ?_
  refine anyU_tk (i := 9) rfl hS0 (fun u hSu => by obtain ⟨s0, s1, s2, s3, s4, s5⟩ := hSu; go_simp <;> with_reducible rfl) ?_
  refine anyU_tk (i := 10) rfl hS0 (fun u hSu => by obtain ⟨s0, s1, s2, s3, s4, s5⟩ := hSu; go_simp <;> with_reducible rfl) ?_
  refine anyU_tk (i := 11) rfl hS0 (fun u hSu => by obtain ⟨s0, s1, s2, s3, s4, s5⟩ := hSu; go_simp <;> with_reducible rfl) ?_
  refine anyU_tk (i := 12) rfl hS0 (fun u hSu => by obtain ⟨s0, s1, s2, s3, s4, s5⟩ := hSu; go_simp <;> with_reducible rfl) ?_
  refine anyU_tk (i := 13) rfl hS0 (fun u hSu => by obtain ⟨s0, s1, s2, s3, s4, s5⟩ := hSu; go_simp <;> with_reducible rfl) ?_
  refine anyU_tk (i := 14) rfl hS0 (fun u hSu => by obtain ⟨s0, s1, s2, s3, s4, s5⟩ := hSu; go_simp <;> with_reducible rfl) ?_
  refine anyU_tk (i := 15) rfl hS0 (fun u hSu => by obtain ⟨s0, s1, s2, s3, s4, s5⟩ := hSu; go_simp <;> with_reducible rfl) ?_
  refine anyU_tk (i := 16) rfl hS0 (fun u hSu => by obtain ⟨s0, s1, s2, s3, s4, s5⟩ := hSu; go_simp <;> with_reducible rfl) ?_
  refine anyU_tk (i := 17) rfl hS0 (fun u hSu => by obtain ⟨s0, s1, s2, s3, s4, s5⟩ := hSu; go_simp <;> with_reducible rfl) ?_
  simp only [Act.put, List.getElem_toArray, List.getElem_cons_zero, List.getElem_cons_succ, List.setIfInBounds_toArray, List.set_cons_zero, List.set_cons_succ]
  refine anyU_last (by kernel_rfl) rfl (by kernel_rfl) (fun K hK => ?_)
  obtain ⟨s0, s1, s2, s3, s4, s5⟩ := id hS0
  have kf' : ∀ o, w4.drew.frozen? ⟨G, o, none⟩ = false := fun o => kf o
  go_simp
  rw [xor_u8 n0 v hnb (by omega)]
  have hMD5 := (hMD v).grow (gdr (gre _))
  have hK5 : Kept (fun z => z = G) w4 ((w4.setCell ⟨G, y, none⟩ (.int .u8 ((n0 ^^^ v : Nat) : Int))).drew) := by
   have h0 := Kept.one w4 G y (.int .u8 ((n0 ^^^ v : Nat) : Int))
   exact ⟨h0.os, h0.tape, h0.output, h0.size, h0.block⟩
  have hCG : C ≠ G := by have := hI.clo; omega
  have hbox5 := hI4.box.kept hK5 hCG
  have hiw5 := Nat.le_trans hI4.hiw hK5.size
  have hs4 := hA4.size
  have hT5 := hT4.kept hK5 (by have := hI.hiw; omega)
  refine hK.out _ _ ?_
  clear hK
  generalize (w4.setCell ⟨G, y, none⟩ (.int .u8 ((n0 ^^^ v : Nat) : Int))).drew = w5 at hMD5 hK5 hbox5 hiw5 hT5 ⊢
  clear v0 v1 vf p0 p1 p2 p3 p4 p5 p6 p7 p8 p9 p10 s0 s1 s2 s3 s4 s5
  obtain ⟨_, r0, r1, r2, r3, r4, r5, r6, rf_⟩ := id hT5
  go_wp2
  obtain ⟨hV9, hK9⟩ := hT5.put (.int .i64 0) (.int .i64 0) (.int .i64 0) (.int .i64 0) (.string ⟨#[]⟩) (.int .i64 0) (.slice none 0 0)
  have hI5 : ID w5 C lo hi l ⟨spoilB d.blocks m y v, d.waiting⟩ fa fb fc fe := ⟨by rw [show (DD.mk (spoilB d.blocks m y v) d.waiting).blocks.length = d.blocks.length from spoilB_length _ _ _ _]; exact hbox5, hMD5, hI.clo, hiw5⟩
  have hI9 := hI5.kept hK9 (by omega) (fun z h1 h2 e => by have := hI.hiw; omega)
  have hKf : Kept (fun z => z = C ∨ (lo ≤ z ∧ z < hi)) w _ := ((Kept.of_below hA4 (fun z => z = C ∨ (lo ≤ z ∧ z < hi))).trans hK5 (fun z _ e => by rw [e]; exact Or.inr ⟨e2, e3⟩)).trans hK9 (fun z hz e => by omega)
  generalize (((((((w5.setCell ⟨w.heap.size + 1, 0, none⟩ (.int .i64 0)).setCell ⟨w.heap.size + 1, 1, none⟩ (.int .i64 0)).setCell ⟨w.heap.size + 1, 2, none⟩ (.int .i64 0)).setCell ⟨w.heap.size + 1, 3, none⟩ (.int .i64 0)).setCell ⟨w.heap.size + 1, 4, none⟩ (.string ⟨#[]⟩)).setCell ⟨w.heap.size + 1, 5, none⟩ (.int .i64 0)).setCell ⟨w.heap.size + 1, 6, none⟩ (.slice none 0 0)) = w9 at hV9 hK9 hI9 hKf ⊢
  obtain ⟨_, q0, q1, q2, q3, q4, q5, q6, _⟩ := id hV9
  exact bodyPost_ret (v := .tuple #[(TK.mk 0 0 zeroG).val none 0, .nilIface]) (by simp [results, Tryz.results76, go_sem, q0, q1, q2, q3, q4, q5, q6, zeroG]) rfl (by rw [hr.out, hsp.out]; exact ⟨_, none, 0, [], lo, hi, l, fa, fb, fc, fe, rfl, Or.inl rfl, rfl, own_nil _ _, hI9, Or.inl ⟨rfl, rfl⟩, hKf⟩)
 ·
  have hk : x.okA = false := by
   rw [hok'.out, ← Bool.not_eq_true]
   simp only [Bool.and_eq_true, decide_eq_true_eq]
   exact fun h => hbad ⟨h.1.1.1.1.1, h.1.1.1.1.2, h.1.1.1.2, h.1.1.2, h.1.2, h.2⟩
  have hr0 := hdo.out.trans (if_pos hk)
  have hr : Hid _ := hr0
  clear hr0 hk hok' hdo
  cases b with
  | false =>
   clear hbad
   go_upto_region 4 with (go_at_call 119; refine (hba _).mono ?_; rintro e w3 ⟨rfl, hb3⟩; obtain ⟨p0, p1, p2, p3, p4, p5, p6, p7, p8, p9, p10⟩ := hY2.grow hb3; simp only [Nat.zero_add] at p1 p2 p3 p4 p5 p6 p7 p8 p9 p10)
   have hT3 := hT2.grow hb3
   have hA3 := gca hAB hb3
   obtain ⟨_, r0, r1, r2, r3, r4, r5, r6, rf_⟩ := id hT3
   go_wp2
   obtain ⟨hV9, hK9⟩ := (hT3).put (.int .i64 0) (.int .i64 0) (.int .i64 0) (.int .i64 0) (.string ⟨#[]⟩) (.int .i64 0) (.slice none 0 0)
   generalize (((((((w3.setCell ⟨w.heap.size + 1, 0, none⟩ (.int .i64 0)).setCell ⟨w.heap.size + 1, 1, none⟩ (.int .i64 0)).setCell ⟨w.heap.size + 1, 2, none⟩ (.int .i64 0)).setCell ⟨w.heap.size + 1, 3, none⟩ (.int .i64 0)).setCell ⟨w.heap.size + 1, 4, none⟩ (.string ⟨#[]⟩)).setCell ⟨w.heap.size + 1, 5, none⟩ (.int .i64 0)).setCell ⟨w.heap.size + 1, 6, none⟩ (.slice none 0 0)) = w9 at hV9 hK9 ⊢
   obtain ⟨_, q0, q1, q2, q3, q4, q5, q6, _⟩ := id hV9
   exact bodyPost_ret (v := .tuple #[(TK.mk 0 0 zeroG).val none 0, .iface 132 (.agg #[.int .i64 4, .int .i64 0])]) (by simp [results, Tryz.results76, go_sem, q0, q1, q2, q3, q4, q5, q6, zeroG]) rfl (by rw [hr.out]; exact IDo.same hI (hA3.trans (hK9.below hA3.size (fun z hz e => by omega))) (Or.inr rfl))
  | true =>
   cases bh with
   | false =>
    clear hbad
    go_upto_region 4 with (first | (go_at_call 119; refine (hba _).mono ?_; rintro e w3 ⟨rfl, hb3⟩; obtain ⟨p0, p1, p2, p3, p4, p5, p6, p7, p8, p9, p10⟩ := hY2.grow hb3; simp only [Nat.zero_add] at p1 p2 p3 p4 p5 p6 p7 p8 p9 p10) | (go_at_call 108; refine (hhb _).mono ?_; rintro e w4 ⟨rfl, hb4⟩; obtain ⟨p0, p1, p2, p3, p4, p5, p6, p7, p8, p9, p10⟩ := (hY2.grow hb3).grow hb4; simp only [Nat.zero_add] at p1 p2 p3 p4 p5 p6 p7 p8 p9 p10))
    have hT3 := (hT2.grow hb3).grow hb4
    have hA3 := gca (gca hAB hb3) hb4
    obtain ⟨_, r0, r1, r2, r3, r4, r5, r6, rf_⟩ := id hT3
    go_wp2
    obtain ⟨hV9, hK9⟩ := (hT3).put (.int .i64 0) (.int .i64 0) (.int .i64 0) (.int .i64 0) (.string ⟨#[]⟩) (.int .i64 0) (.slice none 0 0)
    generalize (((((((w4.setCell ⟨w.heap.size + 1, 0, none⟩ (.int .i64 0)).setCell ⟨w.heap.size + 1, 1, none⟩ (.int .i64 0)).setCell ⟨w.heap.size + 1, 2, none⟩ (.int .i64 0)).setCell ⟨w.heap.size + 1, 3, none⟩ (.int .i64 0)).setCell ⟨w.heap.size + 1, 4, none⟩ (.string ⟨#[]⟩)).setCell ⟨w.heap.size + 1, 5, none⟩ (.int .i64 0)).setCell ⟨w.heap.size + 1, 6, none⟩ (.slice none 0 0)) = w9 at hV9 hK9 ⊢
    obtain ⟨_, q0, q1, q2, q3, q4, q5, q6, _⟩ := id hV9
    exact bodyPost_ret (v := .tuple #[(TK.mk 0 0 zeroG).val none 0, .iface 132 (.agg #[.int .i64 4, .int .i64 0])]) (by simp [results, Tryz.results76, go_sem, q0, q1, q2, q3, q4, q5, q6, zeroG]) rfl (by rw [hr.out]; exact IDo.same hI (hA3.trans (hK9.below hA3.size (fun z hz e => by omega))) (Or.inr rfl))
   | true =>
    by_cases h1 : 0 ≤ x.byte
    ·
     by_cases h2 : x.byte < 64
     ·
      by_cases h3 : 1 ≤ x.xor
      ·
       have h4 : ¬ x.xor ≤ 255 := fun h => hbad ⟨rfl, rfl, h1, h2, h3, h⟩
       clear hbad
       go_upto_region 4 with (first | (go_at_call 119; refine (hba _).mono ?_; rintro e w3 ⟨rfl, hb3⟩; obtain ⟨p0, p1, p2, p3, p4, p5, p6, p7, p8, p9, p10⟩ := hY2.grow hb3; simp only [Nat.zero_add] at p1 p2 p3 p4 p5 p6 p7 p8 p9 p10) | (go_at_call 108; refine (hhb _).mono ?_; rintro e w4 ⟨rfl, hb4⟩; obtain ⟨p0, p1, p2, p3, p4, p5, p6, p7, p8, p9, p10⟩ := (hY2.grow hb3).grow hb4; simp only [Nat.zero_add] at p1 p2 p3 p4 p5 p6 p7 p8 p9 p10))
       have hT3 := (hT2.grow hb3).grow hb4
       have hA3 := gca (gca hAB hb3) hb4
       obtain ⟨_, r0, r1, r2, r3, r4, r5, r6, rf_⟩ := id hT3
       go_wp2
       obtain ⟨hV9, hK9⟩ := (hT3).put (.int .i64 0) (.int .i64 0) (.int .i64 0) (.int .i64 0) (.string ⟨#[]⟩) (.int .i64 0) (.slice none 0 0)
       generalize (((((((w4.setCell ⟨w.heap.size + 1, 0, none⟩ (.int .i64 0)).setCell ⟨w.heap.size + 1, 1, none⟩ (.int .i64 0)).setCell ⟨w.heap.size + 1, 2, none⟩ (.int .i64 0)).setCell ⟨w.heap.size + 1, 3, none⟩ (.int .i64 0)).setCell ⟨w.heap.size + 1, 4, none⟩ (.string ⟨#[]⟩)).setCell ⟨w.heap.size + 1, 5, none⟩ (.int .i64 0)).setCell ⟨w.heap.size + 1, 6, none⟩ (.slice none 0 0)) = w9 at hV9 hK9 ⊢
       obtain ⟨_, q0, q1, q2, q3, q4, q5, q6, _⟩ := id hV9
       exact bodyPost_ret (v := .tuple #[(TK.mk 0 0 zeroG).val none 0, .iface 132 (.agg #[.int .i64 4, .int .i64 0])]) (by simp [results, Tryz.results76, go_sem, q0, q1, q2, q3, q4, q5, q6, zeroG]) rfl (by rw [hr.out]; exact IDo.same hI (hA3.trans (hK9.below hA3.size (fun z hz e => by omega))) (Or.inr rfl))
      ·
       clear hbad
       go_upto_region 4 with (first | (go_at_call 119; refine (hba _).mono ?_; rintro e w3 ⟨rfl, hb3⟩; obtain ⟨p0, p1, p2, p3, p4, p5, p6, p7, p8, p9, p10⟩ := hY2.grow hb3; simp only [Nat.zero_add] at p1 p2 p3 p4 p5 p6 p7 p8 p9 p10) | (go_at_call 108; refine (hhb _).mono ?_; rintro e w4 ⟨rfl, hb4⟩; obtain ⟨p0, p1, p2, p3, p4, p5, p6, p7, p8, p9, p10⟩ := (hY2.grow hb3).grow hb4; simp only [Nat.zero_add] at p1 p2 p3 p4 p5 p6 p7 p8 p9 p10))
       have hT3 := (hT2.grow hb3).grow hb4
       have hA3 := gca (gca hAB hb3) hb4
       obtain ⟨_, r0, r1, r2, r3, r4, r5, r6, rf_⟩ := id hT3
       go_wp2
       obtain ⟨hV9, hK9⟩ := (hT3).put (.int .i64 0) (.int .i64 0) (.int .i64 0) (.int .i64 0) (.string ⟨#[]⟩) (.int .i64 0) (.slice none 0 0)
       generalize (((((((w4.setCell ⟨w.heap.size + 1, 0, none⟩ (.int .i64 0)).setCell ⟨w.heap.size + 1, 1, none⟩ (.int .i64 0)).setCell ⟨w.heap.size + 1, 2, none⟩ (.int .i64 0)).setCell ⟨w.heap.size + 1, 3, none⟩ (.int .i64 0)).setCell ⟨w.heap.size + 1, 4, none⟩ (.string ⟨#[]⟩)).setCell ⟨w.heap.size + 1, 5, none⟩ (.int .i64 0)).setCell ⟨w.heap.size + 1, 6, none⟩ (.slice none 0 0)) = w9 at hV9 hK9 ⊢
       obtain ⟨_, q0, q1, q2, q3, q4, q5, q6, _⟩ := id hV9
       exact bodyPost_ret (v := .tuple #[(TK.mk 0 0 zeroG).val none 0, .iface 132 (.agg #[.int .i64 4, .int .i64 0])]) (by simp [results, Tryz.results76, go_sem, q0, q1, q2, q3, q4, q5, q6, zeroG]) rfl (by rw [hr.out]; exact IDo.same hI (hA3.trans (hK9.below hA3.size (fun z hz e => by omega))) (Or.inr rfl))
     ·
      clear hbad
      go_upto_region 4 with (first | (go_at_call 119; refine (hba _).mono ?_; rintro e w3 ⟨rfl, hb3⟩; obtain ⟨p0, p1, p2, p3, p4, p5, p6, p7, p8, p9, p10⟩ := hY2.grow hb3; simp only [Nat.zero_add] at p1 p2 p3 p4 p5 p6 p7 p8 p9 p10) | (go_at_call 108; refine (hhb _).mono ?_; rintro e w4 ⟨rfl, hb4⟩; obtain ⟨p0, p1, p2, p3, p4, p5, p6, p7, p8, p9, p10⟩ := (hY2.grow hb3).grow hb4; simp only [Nat.zero_add] at p1 p2 p3 p4 p5 p6 p7 p8 p9 p10))
      have hT3 := (hT2.grow hb3).grow hb4
      have hA3 := gca (gca hAB hb3) hb4
      obtain ⟨_, r0, r1, r2, r3, r4, r5, r6, rf_⟩ := id hT3
      go_wp2
      obtain ⟨hV9, hK9⟩ := (hT3).put (.int .i64 0) (.int .i64 0) (.int .i64 0) (.int .i64 0) (.string ⟨#[]⟩) (.int .i64 0) (.slice none 0 0)
      generalize (((((((w4.setCell ⟨w.heap.size + 1, 0, none⟩ (.int .i64 0)).setCell ⟨w.heap.size + 1, 1, none⟩ (.int .i64 0)).setCell ⟨w.heap.size + 1, 2, none⟩ (.int .i64 0)).setCell ⟨w.heap.size + 1, 3, none⟩ (.int .i64 0)).setCell ⟨w.heap.size + 1, 4, none⟩ (.string ⟨#[]⟩)).setCell ⟨w.heap.size + 1, 5, none⟩ (.int .i64 0)).setCell ⟨w.heap.size + 1, 6, none⟩ (.slice none 0 0)) = w9 at hV9 hK9 ⊢
      obtain ⟨_, q0, q1, q2, q3, q4, q5, q6, _⟩ := id hV9
      exact bodyPost_ret (v := .tuple #[(TK.mk 0 0 zeroG).val none 0, .iface 132 (.agg #[.int .i64 4, .int .i64 0])]) (by simp [results, Tryz.results76, go_sem, q0, q1, q2, q3, q4, q5, q6, zeroG]) rfl (by rw [hr.out]; exact IDo.same hI (hA3.trans (hK9.below hA3.size (fun z hz e => by omega))) (Or.inr rfl))
    ·
     clear hbad
     go_upto_region 4 with (first | (go_at_call 119; refine (hba _).mono ?_; rintro e w3 ⟨rfl, hb3⟩; obtain ⟨p0, p1, p2, p3, p4, p5, p6, p7, p8, p9, p10⟩ := hY2.grow hb3; simp only [Nat.zero_add] at p1 p2 p3 p4 p5 p6 p7 p8 p9 p10) | (go_at_call 108; refine (hhb _).mono ?_; rintro e w4 ⟨rfl, hb4⟩; obtain ⟨p0, p1, p2, p3, p4, p5, p6, p7, p8, p9, p10⟩ := (hY2.grow hb3).grow hb4; simp only [Nat.zero_add] at p1 p2 p3 p4 p5 p6 p7 p8 p9 p10))
     have hT3 := (hT2.grow hb3).grow hb4
     have hA3 := gca (gca hAB hb3) hb4
     obtain ⟨_, r0, r1, r2, r3, r4, r5, r6, rf_⟩ := id hT3
     go_wp2
     obtain ⟨hV9, hK9⟩ := (hT3).put (.int .i64 0) (.int .i64 0) (.int .i64 0) (.int .i64 0) (.string ⟨#[]⟩) (.int .i64 0) (.slice none 0 0)
     generalize (((((((w4.setCell ⟨w.heap.size + 1, 0, none⟩ (.int .i64 0)).setCell ⟨w.heap.size + 1, 1, none⟩ (.int .i64 0)).setCell ⟨w.heap.size + 1, 2, none⟩ (.int .i64 0)).setCell ⟨w.heap.size + 1, 3, none⟩ (.int .i64 0)).setCell ⟨w.heap.size + 1, 4, none⟩ (.string ⟨#[]⟩)).setCell ⟨w.heap.size + 1, 5, none⟩ (.int .i64 0)).setCell ⟨w.heap.size + 1, 6, none⟩ (.slice none 0 0)) = w9 at hV9 hK9 ⊢
     obtain ⟨_, q0, q1, q2, q3, q4, q5, q6, _⟩ := id hV9
     exact bodyPost_ret (v := .tuple #[(TK.mk 0 0 zeroG).val none 0, .iface 132 (.agg #[.int .i64 4, .int .i64 0])]) (by simp [results, Tryz.results76, go_sem, q0, q1, q2, q3, q4, q5, q6, zeroG]) rfl (by rw [hr.out]; exact IDo.same hI (hA3.trans (hK9.below hA3.size (fun z hz e => by omega))) (Or.inr rfl))
theorem ActAt.kept {p : Nat → Prop} {w w' : World} {b off : Nat} {x : AC} {ga : Option Addr} {gc : Nat} {ka : Option Addr} {kc : Nat} (h : ActAt w b off x ga gc ka kc) (K : Kept p w w') (hn : ¬ p b) : ActAt w' b off x ga gc ka kc :=
 ⟨K.cell h.c0 hn, K.cell h.c1 hn, K.cell h.c2 hn, K.cell h.c3 hn, K.cell h.c4 hn, K.cell h.c5 hn, K.cell h.c6 hn, K.cell h.c7 hn, K.cell h.c8 hn, K.cell h.c9 hn, K.cell h.c10 hn⟩
theorem no_op {x : AC} (h : x.op < 1 ∨ 5 ≤ x.op) : x.okA = false := by
 unfold AC.okA
 rw [if_neg (by omega), if_neg (by omega), if_neg (by omega), if_neg (by omega)]
theorem do_deeds (C lo hi : Nat) (l : DL) (d : DD) (fa fb : Nat → Option Addr) (fc fe : Nat → Nat) (x : AC) (ga : Option Addr) (gc : Nat) (ka : Option Addr) (kc : Nat) (w : World) (hI : ID w C lo hi l d fa fb fc fe) (hG : GoodD d) (hx : x.Ok) (hga : NodesAt w.heap.size w ga x.graph.nodes) (hka : BoolsAt w ka x.kept) (hkC : ∀ b off, ka = some ⟨b, off, none⟩ → 0 < x.kept.length → b ≠ C) (hno : ¬ (x.op < 1 ∨ 5 ≤ x.op)) : Calls Tryz.prog 35 #[.pointer (some ⟨C, 0, none⟩), x.val ga gc ka kc] w (IDo C lo hi (d.doA x) w) := by
 have hpk : ∃ (F : Nat) (kk : Nat), (kk = 1 ∧ F = 73 ∨ kk = 2 ∧ F = 74 ∨ kk = 3 ∧ F = 75 ∨ kk = 4 ∧ F = 76) ∧ Hid (x.op = (kk : Int)) ∧ (∀ u : World, (u.alloc (.cells #[.nilFunc, .func (.func 73) #[.pointer (some ⟨C, 0, none⟩)] #[], .func (.func 74) #[.pointer (some ⟨C, 0, none⟩)] #[], .func (.func 75) #[.pointer (some ⟨C, 0, none⟩)] #[], .func (.func 76) #[.pointer (some ⟨C, 0, none⟩)] #[]] 137)).cell? ⟨u.heap.size, kk, none⟩ = some (.func (.func F) #[.pointer (some ⟨C, 0, none⟩)] #[])) ∧ ∀ u : World, Below w.heap.size w u → Calls Tryz.prog F #[.pointer (some ⟨C, 0, none⟩), x.val ga gc ka kc] u (IDo C lo hi (d.doA x) u) := by
  have o14 : x.op = 1 ∨ x.op = 2 ∨ x.op = 3 ∨ x.op = 4 := by omega
  rcases o14 with o | o | o | o
  · exact ⟨_, 1, Or.inl ⟨rfl, rfl⟩, o, fun u => by simp, fun u hb => keep_any C lo hi l d fa fb fc fe x ga gc ka kc u (hI.grow hb) hG hx.graph (hga.grow hb) o⟩
  · exact ⟨_, 2, Or.inr (Or.inl ⟨rfl, rfl⟩), o, fun u => by simp, fun u hb => chCut_any C lo hi l d fa fb fc fe x ga gc ka kc u (hI.grow hb) hG hx.graph (hga.grow hb) (hka.grow hb) hx.kept hkC o⟩
  · exact ⟨_, 3, Or.inr (Or.inr (Or.inl ⟨rfl, rfl⟩)), o, fun u => by simp, fun u hb => chTake_any C lo hi l d fa fb fc fe x ga gc ka kc u (hI.grow hb) hG o⟩
  · exact ⟨_, 4, Or.inr (Or.inr (Or.inr ⟨rfl, rfl⟩)), o, fun u => by simp, fun u hb => chSpoil_any C lo hi l d fa fb fc fe x ga gc ka kc u (hI.grow hb) hG hx o⟩
 clear hno
 obtain ⟨F, kk, hkk, ho, hfa, hdd⟩ := hpk
 rcases hkk with ⟨rfl, rfl⟩ | ⟨rfl, rfl⟩ | ⟨rfl, rfl⟩ | ⟨rfl, rfl⟩
 all_goals
  have hmf : ∀ (fn : Fn) (first cap : Array Value) (w : World), (Instr.makeFunc fn first cap).run Tryz.prog w = .ok (.func fn first cap) w := fun _ _ _ _ => rfl
  have hB := deed_boxes x ga gc ka kc w
  have hCl := hI.box.lt
  go_enter Tryz.func35, Tryz.ntmps35
  go_upto_region 1 with fail
  generalize (w.alloc (.cells #[.int .i64 x.op, .int .i64 x.graph.root.kind, .int .i64 x.graph.root.num, .string x.graph.root.text, .int .i64 x.graph.root.node, .slice ga x.graph.nodes.length gc, .int .i64 x.steps, .slice ka x.kept.length kc, .int .i64 x.block, .int .i64 x.byte, .int .i64 x.xor] 41)).alloc (.cells #[.int .i64 0, .int .i64 0, .int .i64 0, .int .i64 0, .string ⟨#[]⟩, .int .i64 0, .slice none 0 0] 34) = w1 at hB ⊢
  obtain ⟨hY, hT, hA, hs1⟩ := hB
  obtain ⟨p0, p1, p2, p3, p4, p5, p6, p7, p8, p9, p10⟩ := id hY
  simp only [Nat.zero_add] at p1 p2 p3 p4 p5 p6 p7 p8 p9 p10
  rw [ho.out] at p0
  go_upto_region 4 with fail
  have hAF := gal (gre w1) (.cells #[.nilFunc, .func (.func 73) #[.pointer (some ⟨C, 0, none⟩)] #[], .func (.func 74) #[.pointer (some ⟨C, 0, none⟩)] #[], .func (.func 75) #[.pointer (some ⟨C, 0, none⟩)] #[], .func (.func 76) #[.pointer (some ⟨C, 0, none⟩)] #[]] 137)
  have hfc := hfa w1
  rw [show w1.heap.size = w.heap.size + 1 + 1 by omega] at hfc
  have hFs : (w1.alloc (.cells #[.nilFunc, .func (.func 73) #[.pointer (some ⟨C, 0, none⟩)] #[], .func (.func 74) #[.pointer (some ⟨C, 0, none⟩)] #[], .func (.func 75) #[.pointer (some ⟨C, 0, none⟩)] #[], .func (.func 76) #[.pointer (some ⟨C, 0, none⟩)] #[]] 137)).heap.size = w1.heap.size + 1 := by simp
  generalize w1.alloc (.cells #[.nilFunc, .func (.func 73) #[.pointer (some ⟨C, 0, none⟩)] #[], .func (.func 74) #[.pointer (some ⟨C, 0, none⟩)] #[], .func (.func 75) #[.pointer (some ⟨C, 0, none⟩)] #[], .func (.func 76) #[.pointer (some ⟨C, 0, none⟩)] #[]] 137) = w2 at hAF hfc hFs ⊢
  have hd2 : Below w2.heap.size w2 w2.drew := gdr (gre _)
  have hB2 := gca hAF hd2
  have hYd := hY.grow hB2
  have hTd := hT.grow hB2
  have hA2 := gca hA hB2
  have hId := hI.grow hA2
  have hfd := cell_later hd2 hfc
  have hs2 := hB2.size
  have hsd : w2.drew.heap.size = w2.heap.size := rfl
  clear p0 p1 p2 p3 p4 p5 p6 p7 p8 p9 p10
  first
   | refine wp_regionU (fun u => ActAt u w.heap.size 0 x ga gc ka kc ∧ u.cell? ⟨w.heap.size + 1 + 1, 1, none⟩ = some (.func (.func 73) #[.pointer (some ⟨C, 0, none⟩)] #[])) 99 (by kernel_rfl) ⟨hYd, hfd⟩ (fun hS0 => ?_)
   | refine wp_regionU (fun u => ActAt u w.heap.size 0 x ga gc ka kc ∧ u.cell? ⟨w.heap.size + 1 + 1, 2, none⟩ = some (.func (.func 74) #[.pointer (some ⟨C, 0, none⟩)] #[])) 99 (by kernel_rfl) ⟨hYd, hfd⟩ (fun hS0 => ?_)
   | refine wp_regionU (fun u => ActAt u w.heap.size 0 x ga gc ka kc ∧ u.cell? ⟨w.heap.size + 1 + 1, 3, none⟩ = some (.func (.func 75) #[.pointer (some ⟨C, 0, none⟩)] #[])) 99 (by kernel_rfl) ⟨hYd, hfd⟩ (fun hS0 => ?_)
   | refine wp_regionU (fun u => ActAt u w.heap.size 0 x ga gc ka kc ∧ u.cell? ⟨w.heap.size + 1 + 1, 4, none⟩ = some (.func (.func 76) #[.pointer (some ⟨C, 0, none⟩)] #[])) 99 (by kernel_rfl) ⟨hYd, hfd⟩ (fun hS0 => ?_)
  generalize w2.drew = wd at hd2 hB2 hYd hTd hA2 hId hfd hs2 hsd hS0 ⊢
  refine anyU_tk (i := 0) rfl hS0 (fun u hSu => by obtain ⟨⟨s0, s1, s2, s3, s4, s5, s6, s7, s8, s9, s10⟩, f0⟩ := hSu; rw [ho.out] at s0; simp only [Nat.zero_add] at s1 s2 s3 s4 s5 s6 s7 s8 s9 s10; go_simp <;> with_reducible rfl) ?_
  refine anyU_tk (i := 1) rfl hS0 (fun u hSu => by obtain ⟨⟨s0, s1, s2, s3, s4, s5, s6, s7, s8, s9, s10⟩, f0⟩ := hSu; rw [ho.out] at s0; simp only [Nat.zero_add] at s1 s2 s3 s4 s5 s6 s7 s8 s9 s10; go_simp <;> with_reducible rfl) ?_
  refine anyU_tk (i := 2) rfl hS0 (fun u hSu => by obtain ⟨⟨s0, s1, s2, s3, s4, s5, s6, s7, s8, s9, s10⟩, f0⟩ := hSu; rw [ho.out] at s0; simp only [Nat.zero_add] at s1 s2 s3 s4 s5 s6 s7 s8 s9 s10; go_simp <;> with_reducible rfl) ?_
  refine anyU_tk (i := 3) rfl hS0 (fun u hSu => by obtain ⟨⟨s0, s1, s2, s3, s4, s5, s6, s7, s8, s9, s10⟩, f0⟩ := hSu; rw [ho.out] at s0; simp only [Nat.zero_add] at s1 s2 s3 s4 s5 s6 s7 s8 s9 s10; go_simp <;> with_reducible rfl) ?_
  refine anyU_tk (i := 4) rfl hS0 (fun u hSu => by obtain ⟨⟨s0, s1, s2, s3, s4, s5, s6, s7, s8, s9, s10⟩, f0⟩ := hSu; rw [ho.out] at s0; simp only [Nat.zero_add] at s1 s2 s3 s4 s5 s6 s7 s8 s9 s10; go_simp <;> with_reducible rfl) ?_
  simp only [Act.put, List.getElem_toArray, List.getElem_cons_zero, List.getElem_cons_succ, List.setIfInBounds_toArray, List.set_cons_zero, List.set_cons_succ]
  have hde := hdd wd hA2
  obtain ⟨r, hr⟩ := hid_ex (d.doA x)
  rw [← hr.out] at hde
  obtain ⟨d3, t⟩ := r
  simp only [AC.val, ho.out] at hde
  refine anyU_one (i := 5) (by kernel_rfl) rfl (fun K hK => ?_)
  go_simp
  refine hde.mono ?_
  rintro e w3 ⟨v, na, nc, nl, lo3, hi3, l3, fa3, fb3, fc3, fe3, rfl, hv, hnl, hO3, hI3, hlo3, hK3⟩
  have hYk : ActAt w3 w.heap.size 0 x ga gc ka kc := hS0.1.kept hK3 (by have := hI.hiw; omega)
  have hfk := hK3.cell hS0.2 (by have := hI.hiw; show ¬ (w.heap.size + 1 + 1 = C ∨ (lo ≤ w.heap.size + 1 + 1 ∧ w.heap.size + 1 + 1 < hi)); omega)
  have hS3 := And.intro hYk hfk
  refine hK.out _ _ hS3 ?_
  clear hK
  have hT3 := hTd.kept hK3 (by have := hI.hiw; omega)
  have hs3 := hK3.size
  have hw1 : w.heap.size + 1 < wd.heap.size := by omega
  have hKw : Kept (fun z => z = C ∨ (lo ≤ z ∧ z < hi)) w w3 := (Kept.of_below hA2 _).trans hK3 (fun _ _ e => e)
  have hloW : Hid ((lo3 = lo ∧ hi3 = hi) ∨ (w.heap.size ≤ lo3 ∧ nl = [] ∧ na = none)) := by exact hlo3.elim Or.inl (fun e => Or.inr ⟨by omega, e.2⟩)
  rcases hv with rfl | ⟨hz, rfl, rfl, rfl⟩
  ·
   refine anyU_tk (i := 6) rfl hS3 (fun u hSu => by obtain ⟨_, _⟩ := hSu; go_simp <;> with_reducible rfl) ?_
   refine anyU_tk (i := 7) rfl hS3 (fun u hSu => by obtain ⟨_, _⟩ := hSu; go_simp <;> with_reducible rfl) ?_
   simp only [Act.put, List.getElem_toArray, List.getElem_cons_zero, List.getElem_cons_succ, List.setIfInBounds_toArray, List.set_cons_zero, List.set_cons_succ]
   obtain ⟨_, r0, r1, r2, r3, r4, r5, r6, rf_⟩ := id hT3
   obtain ⟨hV9, hK9⟩ := hT3.put (.int .i64 t.code) (.int .i64 t.gen) (.int .i64 t.g.root.kind) (.int .i64 t.g.root.num) (.string t.g.root.text) (.int .i64 t.g.root.node) (.slice na t.g.nodes.length nc)
   have hS9 : ActAt _ w.heap.size 0 x ga gc ka kc ∧ _ := And.intro (hS3.1.kept hK9 (by omega)) (hK9.cell hS3.2 (by omega))
   refine anyU_one (i := 8) (by kernel_rfl) rfl (fun K hK => ?_)
   go_simp
   refine hK.out _ _ hS9 ?_
   clear hK
   refine anyU_one (i := 9) (by kernel_rfl) rfl (fun K hK => ?_)
   go_simp
   refine hK.out _ _ hS9 ?_
   clear hK
   have hI9 := hI3.kept hK9 (by have := hI.hiw; omega) (fun z h1 h2 e => by rcases hlo3 with e' | e' <;> (have := hI.hiw; omega))
   have hO9 := hO3.kept hK9 (fun j e hp => by have := (hO3.nodes.lt j (by rw [e]; rfl)).1; omega) (fun y hy j e hp => by have := ((hO3.vals y hy).lt j (by rw [e]; rfl)).1; omega)
   have hKf := hKw.trans hK9 (fun z hz e => by omega)
   generalize (((((((w3.setCell ⟨w.heap.size + 1, 0, none⟩ (.int .i64 t.code)).setCell ⟨w.heap.size + 1, 1, none⟩ (.int .i64 t.gen)).setCell ⟨w.heap.size + 1, 2, none⟩ (.int .i64 t.g.root.kind)).setCell ⟨w.heap.size + 1, 3, none⟩ (.int .i64 t.g.root.num)).setCell ⟨w.heap.size + 1, 4, none⟩ (.string t.g.root.text)).setCell ⟨w.heap.size + 1, 5, none⟩ (.int .i64 t.g.root.node)).setCell ⟨w.heap.size + 1, 6, none⟩ (.slice na t.g.nodes.length nc)) = w9 at hV9 hK9 hS9 hI9 hO9 hKf ⊢
   refine anyU_done (by kernel_rfl) ?_
   go_wp2
   obtain ⟨_, q0, q1, q2, q3, q4, q5, q6, _⟩ := id hV9
   exact bodyPost_ret (v := .tuple #[t.val na nc, .nilIface]) (by simp [results, Tryz.results35, go_sem, q0, q1, q2, q3, q4, q5, q6]) rfl (by rw [← hr.out]; exact ⟨.tuple #[t.val na nc, .nilIface], na, nc, nl, lo3, hi3, l3, fa3, fb3, fc3, fe3, rfl, Or.inl rfl, hnl, hO9.le (by omega), hI9, hloW.out, hKf⟩)
  ·
   have hz' : Hid _ := hz
   clear hz
   refine anyU_tk (i := 6) rfl hS3 (fun u hSu => by obtain ⟨_, _⟩ := hSu; go_simp <;> with_reducible rfl) ?_
   refine anyU_tk (i := 7) rfl hS3 (fun u hSu => by obtain ⟨_, _⟩ := hSu; go_simp <;> with_reducible rfl) ?_
   simp only [Act.put, List.getElem_toArray, List.getElem_cons_zero, List.getElem_cons_succ, List.setIfInBounds_toArray, List.set_cons_zero, List.set_cons_succ]
   obtain ⟨_, r0, r1, r2, r3, r4, r5, r6, rf_⟩ := id hT3
   obtain ⟨hV9, hK9⟩ := hT3.put (.int .i64 0) (.int .i64 0) (.int .i64 zeroG.root.kind) (.int .i64 zeroG.root.num) (.string zeroG.root.text) (.int .i64 zeroG.root.node) (.slice none zeroG.nodes.length 0)
   have hS9 : ActAt _ w.heap.size 0 x ga gc ka kc ∧ _ := And.intro (hS3.1.kept hK9 (by omega)) (hK9.cell hS3.2 (by omega))
   refine anyU_one (i := 8) (by kernel_rfl) rfl (fun K hK => ?_)
   go_simp
   refine hK.out _ _ hS9 ?_
   clear hK
   refine anyU_one (i := 9) (by kernel_rfl) rfl (fun K hK => ?_)
   go_simp
   refine hK.out _ _ hS9 ?_
   clear hK
   have hI9 := hI3.kept hK9 (by have := hI.hiw; omega) (fun z h1 h2 e => by rcases hlo3 with e' | e' <;> (have := hI.hiw; omega))
   have hO9 := hO3.kept hK9 (fun j e hp => by have := (hO3.nodes.lt j (by rw [e]; rfl)).1; omega) (fun y hy j e hp => by have := ((hO3.vals y hy).lt j (by rw [e]; rfl)).1; omega)
   have hKf := hKw.trans hK9 (fun z hz e => by omega)
   generalize (((((((w3.setCell ⟨w.heap.size + 1, 0, none⟩ (.int .i64 0)).setCell ⟨w.heap.size + 1, 1, none⟩ (.int .i64 0)).setCell ⟨w.heap.size + 1, 2, none⟩ (.int .i64 zeroG.root.kind)).setCell ⟨w.heap.size + 1, 3, none⟩ (.int .i64 zeroG.root.num)).setCell ⟨w.heap.size + 1, 4, none⟩ (.string zeroG.root.text)).setCell ⟨w.heap.size + 1, 5, none⟩ (.int .i64 zeroG.root.node)).setCell ⟨w.heap.size + 1, 6, none⟩ (.slice none zeroG.nodes.length 0)) = w9 at hV9 hK9 hS9 hI9 hO9 hKf ⊢
   refine anyU_done (by kernel_rfl) ?_
   go_wp2
   obtain ⟨_, q0, q1, q2, q3, q4, q5, q6, _⟩ := id hV9
   exact bodyPost_ret (v := .tuple #[(TK.mk 0 0 zeroG).val none 0, .iface 132 (.agg #[.int .i64 t.code, .int .i64 t.gen])]) (by simp [results, Tryz.results35, go_sem, q0, q1, q2, q3, q4, q5, q6, zeroG]) rfl (by rw [← hr.out]; exact ⟨.tuple #[(TK.mk 0 0 zeroG).val none 0, .iface 132 (.agg #[.int .i64 t.code, .int .i64 t.gen])], none, 0, nl, lo3, hi3, l3, fa3, fb3, fc3, fe3, rfl, Or.inr ⟨hz'.out, rfl, rfl, rfl⟩, hnl, hO9.le (by omega), hI9, hloW.out.elim Or.inl (fun e => Or.inr ⟨e.1, e.2.1, rfl⟩), hKf⟩)
theorem do_bad (C lo hi : Nat) (l : DL) (d : DD) (fa fb : Nat → Option Addr) (fc fe : Nat → Nat) (x : AC) (ga : Option Addr) (gc : Nat) (ka : Option Addr) (kc : Nat) (w : World) (hI : ID w C lo hi l d fa fb fc fe) (_hG : GoodD d) (hno : x.op < 1 ∨ 5 ≤ x.op) : Calls Tryz.prog 35 #[.pointer (some ⟨C, 0, none⟩), x.val ga gc ka kc] w (IDo C lo hi (d.doA x) w) := by
 have hr0 : d.doA x = (d, ⟨4, 0, zeroG⟩) := if_pos (no_op hno)
 have hr : Hid _ := hr0
 clear hr0
 have hno' : Hid _ := hno
 clear hno
 have hmf : ∀ (fn : Fn) (first cap : Array Value) (w : World), (Instr.makeFunc fn first cap).run Tryz.prog w = .ok (.func fn first cap) w := fun _ _ _ _ => rfl
 have hB := deed_boxes x ga gc ka kc w
 have hCl := hI.box.lt
 go_enter Tryz.func35, Tryz.ntmps35
 go_upto_region 1 with fail
 generalize (w.alloc (.cells #[.int .i64 x.op, .int .i64 x.graph.root.kind, .int .i64 x.graph.root.num, .string x.graph.root.text, .int .i64 x.graph.root.node, .slice ga x.graph.nodes.length gc, .int .i64 x.steps, .slice ka x.kept.length kc, .int .i64 x.block, .int .i64 x.byte, .int .i64 x.xor] 41)).alloc (.cells #[.int .i64 0, .int .i64 0, .int .i64 0, .int .i64 0, .string ⟨#[]⟩, .int .i64 0, .slice none 0 0] 34) = w1 at hB ⊢
 obtain ⟨hY, hT, hA, hs1⟩ := hB
 obtain ⟨p0, p1, p2, p3, p4, p5, p6, p7, p8, p9, p10⟩ := id hY
 simp only [Nat.zero_add] at p1 p2 p3 p4 p5 p6 p7 p8 p9 p10
 by_cases h1 : x.op < 1
 ·
  go_upto_region 3 with fail
  have hAF := gal (gre w1) (.cells #[.nilFunc, .func (.func 73) #[.pointer (some ⟨C, 0, none⟩)] #[], .func (.func 74) #[.pointer (some ⟨C, 0, none⟩)] #[], .func (.func 75) #[.pointer (some ⟨C, 0, none⟩)] #[], .func (.func 76) #[.pointer (some ⟨C, 0, none⟩)] #[]] 137)
  generalize w1.alloc (.cells #[.nilFunc, .func (.func 73) #[.pointer (some ⟨C, 0, none⟩)] #[], .func (.func 74) #[.pointer (some ⟨C, 0, none⟩)] #[], .func (.func 75) #[.pointer (some ⟨C, 0, none⟩)] #[], .func (.func 76) #[.pointer (some ⟨C, 0, none⟩)] #[]] 137) = w2 at hAF ⊢
  have hT2 := hT.grow hAF
  have hA3 := gca hA hAF
  obtain ⟨_, r0, r1, r2, r3, r4, r5, r6, rf_⟩ := id hT2
  go_wp2
  obtain ⟨hV9, hK9⟩ := (hT2).put (.int .i64 0) (.int .i64 0) (.int .i64 0) (.int .i64 0) (.string ⟨#[]⟩) (.int .i64 0) (.slice none 0 0)
  generalize (((((((w2.setCell ⟨w.heap.size + 1, 0, none⟩ (.int .i64 0)).setCell ⟨w.heap.size + 1, 1, none⟩ (.int .i64 0)).setCell ⟨w.heap.size + 1, 2, none⟩ (.int .i64 0)).setCell ⟨w.heap.size + 1, 3, none⟩ (.int .i64 0)).setCell ⟨w.heap.size + 1, 4, none⟩ (.string ⟨#[]⟩)).setCell ⟨w.heap.size + 1, 5, none⟩ (.int .i64 0)).setCell ⟨w.heap.size + 1, 6, none⟩ (.slice none 0 0)) = w9 at hV9 hK9 ⊢
  obtain ⟨_, q0, q1, q2, q3, q4, q5, q6, _⟩ := id hV9
  exact bodyPost_ret (v := .tuple #[(TK.mk 0 0 zeroG).val none 0, .iface 132 (.agg #[.int .i64 4, .int .i64 0])]) (by simp [results, Tryz.results35, go_sem, q0, q1, q2, q3, q4, q5, q6, zeroG]) rfl (by rw [hr.out]; exact IDo.same hI (hA3.trans (hK9.below hA3.size (fun z hz e => by omega))) (Or.inr rfl))
 ·
  have h2 : 5 ≤ x.op := hno'.out.resolve_left h1
  go_upto_region 3 with fail
  have hAF := gal (gre w1) (.cells #[.nilFunc, .func (.func 73) #[.pointer (some ⟨C, 0, none⟩)] #[], .func (.func 74) #[.pointer (some ⟨C, 0, none⟩)] #[], .func (.func 75) #[.pointer (some ⟨C, 0, none⟩)] #[], .func (.func 76) #[.pointer (some ⟨C, 0, none⟩)] #[]] 137)
  generalize w1.alloc (.cells #[.nilFunc, .func (.func 73) #[.pointer (some ⟨C, 0, none⟩)] #[], .func (.func 74) #[.pointer (some ⟨C, 0, none⟩)] #[], .func (.func 75) #[.pointer (some ⟨C, 0, none⟩)] #[], .func (.func 76) #[.pointer (some ⟨C, 0, none⟩)] #[]] 137) = w2 at hAF ⊢
  have hT2 := hT.grow hAF
  have hA3 := gca hA hAF
  obtain ⟨_, r0, r1, r2, r3, r4, r5, r6, rf_⟩ := id hT2
  go_wp2
  obtain ⟨hV9, hK9⟩ := (hT2).put (.int .i64 0) (.int .i64 0) (.int .i64 0) (.int .i64 0) (.string ⟨#[]⟩) (.int .i64 0) (.slice none 0 0)
  generalize (((((((w2.setCell ⟨w.heap.size + 1, 0, none⟩ (.int .i64 0)).setCell ⟨w.heap.size + 1, 1, none⟩ (.int .i64 0)).setCell ⟨w.heap.size + 1, 2, none⟩ (.int .i64 0)).setCell ⟨w.heap.size + 1, 3, none⟩ (.int .i64 0)).setCell ⟨w.heap.size + 1, 4, none⟩ (.string ⟨#[]⟩)).setCell ⟨w.heap.size + 1, 5, none⟩ (.int .i64 0)).setCell ⟨w.heap.size + 1, 6, none⟩ (.slice none 0 0)) = w9 at hV9 hK9 ⊢
  obtain ⟨_, q0, q1, q2, q3, q4, q5, q6, _⟩ := id hV9
  exact bodyPost_ret (v := .tuple #[(TK.mk 0 0 zeroG).val none 0, .iface 132 (.agg #[.int .i64 4, .int .i64 0])]) (by simp [results, Tryz.results35, go_sem, q0, q1, q2, q3, q4, q5, q6, zeroG]) rfl (by rw [hr.out]; exact IDo.same hI (hA3.trans (hK9.below hA3.size (fun z hz e => by omega))) (Or.inr rfl))
theorem do_any (C lo hi : Nat) (l : DL) (d : DD) (fa fb : Nat → Option Addr) (fc fe : Nat → Nat) (x : AC) (ga : Option Addr) (gc : Nat) (ka : Option Addr) (kc : Nat) (w : World) (hI : ID w C lo hi l d fa fb fc fe) (hG : GoodD d) (hx : x.Ok) (hga : NodesAt w.heap.size w ga x.graph.nodes) (hka : BoolsAt w ka x.kept) (hkC : ∀ b off, ka = some ⟨b, off, none⟩ → 0 < x.kept.length → b ≠ C) : Calls Tryz.prog 35 #[.pointer (some ⟨C, 0, none⟩), x.val ga gc ka kc] w (IDo C lo hi (d.doA x) w) := by
 by_cases h : x.op < 1 ∨ 5 ≤ x.op
 · exact do_bad C lo hi l d fa fb fc fe x ga gc ka kc w hI hG h
 · exact do_deeds C lo hi l d fa fb fc fe x ga gc ka kc w hI hG hx hga hka hkC h
end Go.Proofs.YtmdpmdmilgbfiaaGreatDoor
