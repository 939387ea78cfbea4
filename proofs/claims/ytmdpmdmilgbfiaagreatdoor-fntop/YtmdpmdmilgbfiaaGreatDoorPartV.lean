import Derived.Test.YtmdpmdmilgbfiaaGreatDoorPartU
namespace Go.Proofs.YtmdpmdmilgbfiaaGreatDoor
open Go.RowKit
set_option maxRecDepth 100000
set_option maxHeartbeats 8000000
structure SD (base : Nat) (w : World) (l : DL) (d : DD) (lb : List LB) (lw : List LW) : Prop where
 mb : lb.map (·.l) = d.blocks
 mw : lw.map (·.x) = d.waiting
 sb : SB base w l.ba l.bc lb
 sw : SW base w l.wa l.wc lw
theorem SD.at_ {base : Nat} {w : World} {l : DL} {d : DD} {lb : List LB} {lw : List LW} (h : SD base w l d lb lw) : DAt w l d := ⟨by rw [← h.mb]; exact h.sb.at_, by rw [← h.mw]; exact h.sw.at_⟩
theorem SD.grow {base : Nat} {w w' : World} {l : DL} {d : DD} {lb : List LB} {lw : List LW} (h : SD base w l d lb lw) (hb : Below w.heap.size w w') : SD base w' l d lb lw := ⟨h.mb, h.mw, h.sb.grow hb, h.sw.grow hb⟩
theorem SD.le {base base' : Nat} {w : World} {l : DL} {d : DD} {lb : List LB} {lw : List LW} (h : SD base w l d lb lw) (hb : base' ≤ base) : SD base' w l d lb lw := ⟨h.mb, h.mw, h.sb.le hb, h.sw.le hb⟩
def IsTk (w : World) (b : Nat) : Prop := ∃ c, w.heap[b]? = some (.cells c 34 (0, 0))
theorem IsTk.kept {p : Nat → Prop} {w w' : World} {b : Nat} (h : IsTk w b) (k : Kept p w w') (hn : ¬ p b) : IsTk w' b := by
 obtain ⟨c, hc⟩ := h
 exact ⟨c, (k.block b (Array.getElem?_eq_some_iff.1 hc).1 hn).trans hc⟩
theorem IsTk.grow {w w' : World} {b : Nat} (h : IsTk w b) (hb : Below w.heap.size w w') : IsTk w' b := h.kept (Kept.of_below hb (fun _ => False)) (fun e => e)
def NoDisk (w : World) (z : Nat) : Prop := ¬ IsS w z ∧ ¬ IsB w z ∧ ¬ IsW w z
theorem IsD.noDisk {w : World} {z : Nat} (h : IsD w z) : NoDisk w z := ⟨not_S_of_D h, not_B_of_D h, not_W_of_D h⟩
theorem IsTk.noDisk {w : World} {z : Nat} (h : IsTk w z) : NoDisk w z := by
 obtain ⟨c, hc⟩ := h
 refine ⟨fun ⟨c', hc'⟩ => ?_, fun ⟨c', hc'⟩ => ?_, fun ⟨c', hc'⟩ => ?_⟩
 all_goals
  rw [hc] at hc'
  simp at hc'
theorem SD.kept {p : Nat → Prop} {base : Nat} {w w' : World} {l : DL} {d : DD} {lb : List LB} {lw : List LW} (h : SD base w l d lb lw) (K : Kept p w w') (hp : ∀ z, p z → base ≤ z → NoDisk w z) : SD base w' l d lb lw :=
 ⟨h.mb, h.mw, h.sb.kept K (fun z e hz => ⟨(hp z e hz).1, (hp z e hz).2.1⟩), h.sw.kept K (fun z e hz => ⟨(hp z e hz).2.2, (hp z e hz).2.1⟩)⟩
def SDo (base : Nat) (r : DD × TK) (w : World) (e : Ending) (w' : World) : Prop :=
 ∃ (lb : List LB) (lw : List LW) (l : DL) (na : Option Addr) (nc : Nat), e = .returned (.tuple #[r.1.val l, r.2.val na nc]) ∧ SD base w' l r.1 lb lw ∧ (∀ w'', Kept (fun z => z < w.heap.size) w' w'' → NodesAt w''.heap.size w'' na r.2.g.nodes) ∧ Below w.heap.size w w'
theorem do_boxes (d : DD) (l : DL) (x : AC) (ga : Option Addr) (gc : Nat) (ka : Option Addr) (kc : Nat) (w : World) :
  DBox ((((w.alloc (.cells #[.slice l.ba d.blocks.length l.bc, .slice l.wa d.waiting.length l.wc] 46)).alloc (.cells #[.int .i64 x.op, .int .i64 x.graph.root.kind, .int .i64 x.graph.root.num, .string x.graph.root.text, .int .i64 x.graph.root.node, .slice ga x.graph.nodes.length gc, .int .i64 x.steps, .slice ka x.kept.length kc, .int .i64 x.block, .int .i64 x.byte, .int .i64 x.xor] 41)).alloc (.cells #[.slice none 0 0, .slice none 0 0] 46)).alloc (.cells #[.int .i64 0, .int .i64 0, .int .i64 0, .int .i64 0, .string ⟨#[]⟩, .int .i64 0, .slice none 0 0] 34)) w.heap.size d l ∧ ActAt ((((w.alloc (.cells #[.slice l.ba d.blocks.length l.bc, .slice l.wa d.waiting.length l.wc] 46)).alloc (.cells #[.int .i64 x.op, .int .i64 x.graph.root.kind, .int .i64 x.graph.root.num, .string x.graph.root.text, .int .i64 x.graph.root.node, .slice ga x.graph.nodes.length gc, .int .i64 x.steps, .slice ka x.kept.length kc, .int .i64 x.block, .int .i64 x.byte, .int .i64 x.xor] 41)).alloc (.cells #[.slice none 0 0, .slice none 0 0] 46)).alloc (.cells #[.int .i64 0, .int .i64 0, .int .i64 0, .int .i64 0, .string ⟨#[]⟩, .int .i64 0, .slice none 0 0] 34)) (w.heap.size + 1) 0 x ga gc ka kc ∧ VB ((((w.alloc (.cells #[.slice l.ba d.blocks.length l.bc, .slice l.wa d.waiting.length l.wc] 46)).alloc (.cells #[.int .i64 x.op, .int .i64 x.graph.root.kind, .int .i64 x.graph.root.num, .string x.graph.root.text, .int .i64 x.graph.root.node, .slice ga x.graph.nodes.length gc, .int .i64 x.steps, .slice ka x.kept.length kc, .int .i64 x.block, .int .i64 x.byte, .int .i64 x.xor] 41)).alloc (.cells #[.slice none 0 0, .slice none 0 0] 46)).alloc (.cells #[.int .i64 0, .int .i64 0, .int .i64 0, .int .i64 0, .string ⟨#[]⟩, .int .i64 0, .slice none 0 0] 34)) (w.heap.size + 1 + 1) (.slice none 0 0) (.slice none 0 0) ∧ V7 ((((w.alloc (.cells #[.slice l.ba d.blocks.length l.bc, .slice l.wa d.waiting.length l.wc] 46)).alloc (.cells #[.int .i64 x.op, .int .i64 x.graph.root.kind, .int .i64 x.graph.root.num, .string x.graph.root.text, .int .i64 x.graph.root.node, .slice ga x.graph.nodes.length gc, .int .i64 x.steps, .slice ka x.kept.length kc, .int .i64 x.block, .int .i64 x.byte, .int .i64 x.xor] 41)).alloc (.cells #[.slice none 0 0, .slice none 0 0] 46)).alloc (.cells #[.int .i64 0, .int .i64 0, .int .i64 0, .int .i64 0, .string ⟨#[]⟩, .int .i64 0, .slice none 0 0] 34)) (w.heap.size + 1 + 1 + 1) (.int .i64 0) (.int .i64 0) (.int .i64 0) (.int .i64 0) (.string ⟨#[]⟩) (.int .i64 0) (.slice none 0 0) ∧ IsD ((((w.alloc (.cells #[.slice l.ba d.blocks.length l.bc, .slice l.wa d.waiting.length l.wc] 46)).alloc (.cells #[.int .i64 x.op, .int .i64 x.graph.root.kind, .int .i64 x.graph.root.num, .string x.graph.root.text, .int .i64 x.graph.root.node, .slice ga x.graph.nodes.length gc, .int .i64 x.steps, .slice ka x.kept.length kc, .int .i64 x.block, .int .i64 x.byte, .int .i64 x.xor] 41)).alloc (.cells #[.slice none 0 0, .slice none 0 0] 46)).alloc (.cells #[.int .i64 0, .int .i64 0, .int .i64 0, .int .i64 0, .string ⟨#[]⟩, .int .i64 0, .slice none 0 0] 34)) (w.heap.size + 1 + 1) ∧ IsTk ((((w.alloc (.cells #[.slice l.ba d.blocks.length l.bc, .slice l.wa d.waiting.length l.wc] 46)).alloc (.cells #[.int .i64 x.op, .int .i64 x.graph.root.kind, .int .i64 x.graph.root.num, .string x.graph.root.text, .int .i64 x.graph.root.node, .slice ga x.graph.nodes.length gc, .int .i64 x.steps, .slice ka x.kept.length kc, .int .i64 x.block, .int .i64 x.byte, .int .i64 x.xor] 41)).alloc (.cells #[.slice none 0 0, .slice none 0 0] 46)).alloc (.cells #[.int .i64 0, .int .i64 0, .int .i64 0, .int .i64 0, .string ⟨#[]⟩, .int .i64 0, .slice none 0 0] 34)) (w.heap.size + 1 + 1 + 1) ∧ Below w.heap.size w ((((w.alloc (.cells #[.slice l.ba d.blocks.length l.bc, .slice l.wa d.waiting.length l.wc] 46)).alloc (.cells #[.int .i64 x.op, .int .i64 x.graph.root.kind, .int .i64 x.graph.root.num, .string x.graph.root.text, .int .i64 x.graph.root.node, .slice ga x.graph.nodes.length gc, .int .i64 x.steps, .slice ka x.kept.length kc, .int .i64 x.block, .int .i64 x.byte, .int .i64 x.xor] 41)).alloc (.cells #[.slice none 0 0, .slice none 0 0] 46)).alloc (.cells #[.int .i64 0, .int .i64 0, .int .i64 0, .int .i64 0, .string ⟨#[]⟩, .int .i64 0, .slice none 0 0] 34)) ∧ ((((w.alloc (.cells #[.slice l.ba d.blocks.length l.bc, .slice l.wa d.waiting.length l.wc] 46)).alloc (.cells #[.int .i64 x.op, .int .i64 x.graph.root.kind, .int .i64 x.graph.root.num, .string x.graph.root.text, .int .i64 x.graph.root.node, .slice ga x.graph.nodes.length gc, .int .i64 x.steps, .slice ka x.kept.length kc, .int .i64 x.block, .int .i64 x.byte, .int .i64 x.xor] 41)).alloc (.cells #[.slice none 0 0, .slice none 0 0] 46)).alloc (.cells #[.int .i64 0, .int .i64 0, .int .i64 0, .int .i64 0, .string ⟨#[]⟩, .int .i64 0, .slice none 0 0] 34)).heap.size = w.heap.size + 1 + 1 + 1 + 1 :=
 ⟨(DBox.new w d l 46).grow (gal (gal (gal (gre _) _) _) _),
  (ActAt.new_at (w.alloc (.cells #[.slice l.ba d.blocks.length l.bc, .slice l.wa d.waiting.length l.wc] 46)) x ga gc ka kc 41 (w.heap.size + 1) (by simp)).grow (gal (gal (gre _) _) _),
  (VB.new_at ((w.alloc (.cells #[.slice l.ba d.blocks.length l.bc, .slice l.wa d.waiting.length l.wc] 46)).alloc (.cells #[.int .i64 x.op, .int .i64 x.graph.root.kind, .int .i64 x.graph.root.num, .string x.graph.root.text, .int .i64 x.graph.root.node, .slice ga x.graph.nodes.length gc, .int .i64 x.steps, .slice ka x.kept.length kc, .int .i64 x.block, .int .i64 x.byte, .int .i64 x.xor] 41)) (.slice none 0 0) (.slice none 0 0) 46 (w.heap.size + 1 + 1) (by simp)).grow (gal (gre _) _),
  V7.new_at (((w.alloc (.cells #[.slice l.ba d.blocks.length l.bc, .slice l.wa d.waiting.length l.wc] 46)).alloc (.cells #[.int .i64 x.op, .int .i64 x.graph.root.kind, .int .i64 x.graph.root.num, .string x.graph.root.text, .int .i64 x.graph.root.node, .slice ga x.graph.nodes.length gc, .int .i64 x.steps, .slice ka x.kept.length kc, .int .i64 x.block, .int .i64 x.byte, .int .i64 x.xor] 41)).alloc (.cells #[.slice none 0 0, .slice none 0 0] 46)) (.int .i64 0) (.int .i64 0) (.int .i64 0) (.int .i64 0) (.string ⟨#[]⟩) (.int .i64 0) (.slice none 0 0) 34 (w.heap.size + 1 + 1 + 1) (by simp),
  IsD.grow (w := ((w.alloc (.cells #[.slice l.ba d.blocks.length l.bc, .slice l.wa d.waiting.length l.wc] 46)).alloc (.cells #[.int .i64 x.op, .int .i64 x.graph.root.kind, .int .i64 x.graph.root.num, .string x.graph.root.text, .int .i64 x.graph.root.node, .slice ga x.graph.nodes.length gc, .int .i64 x.steps, .slice ka x.kept.length kc, .int .i64 x.block, .int .i64 x.byte, .int .i64 x.xor] 41)).alloc (.cells #[.slice none 0 0, .slice none 0 0] 46)) ⟨_, blk_new_at _ _ _ (by simp)⟩ (gal (gre _) _),
  ⟨_, blk_new_at _ _ _ (by simp)⟩,
  gal (gal (gal (gal (gre w) _) _) _) _, by simp⟩
theorem do_ret {w : World} {R T : Nat} {a b x0 x1 x2 x3 x4 x5 x6 : Value} (hR : VB w R a b) (hT : V7 w T x0 x1 x2 x3 x4 x5 x6) (hne : R ≠ T) (A B y0 y1 y2 y3 y4 y5 y6 : Value) :
  ((((((((((w.setCell ⟨R, 0, none⟩ (A)).setCell ⟨R, 1, none⟩ (B)).setCell ⟨T, 0, none⟩ (y0)).setCell ⟨T, 1, none⟩ (y1)).setCell ⟨T, 2, none⟩ (y2)).setCell ⟨T, 3, none⟩ (y3)).setCell ⟨T, 4, none⟩ (y4)).setCell ⟨T, 5, none⟩ (y5)).setCell ⟨T, 6, none⟩ (y6))).cell? ⟨R, 0, none⟩ = some A ∧ ((((((((((w.setCell ⟨R, 0, none⟩ (A)).setCell ⟨R, 1, none⟩ (B)).setCell ⟨T, 0, none⟩ (y0)).setCell ⟨T, 1, none⟩ (y1)).setCell ⟨T, 2, none⟩ (y2)).setCell ⟨T, 3, none⟩ (y3)).setCell ⟨T, 4, none⟩ (y4)).setCell ⟨T, 5, none⟩ (y5)).setCell ⟨T, 6, none⟩ (y6))).cell? ⟨R, 1, none⟩ = some B ∧ V7 ((((((((((w.setCell ⟨R, 0, none⟩ (A)).setCell ⟨R, 1, none⟩ (B)).setCell ⟨T, 0, none⟩ (y0)).setCell ⟨T, 1, none⟩ (y1)).setCell ⟨T, 2, none⟩ (y2)).setCell ⟨T, 3, none⟩ (y3)).setCell ⟨T, 4, none⟩ (y4)).setCell ⟨T, 5, none⟩ (y5)).setCell ⟨T, 6, none⟩ (y6))) T y0 y1 y2 y3 y4 y5 y6 ∧ Kept (fun z => z = R ∨ z = T) w ((((((((((w.setCell ⟨R, 0, none⟩ (A)).setCell ⟨R, 1, none⟩ (B)).setCell ⟨T, 0, none⟩ (y0)).setCell ⟨T, 1, none⟩ (y1)).setCell ⟨T, 2, none⟩ (y2)).setCell ⟨T, 3, none⟩ (y3)).setCell ⟨T, 4, none⟩ (y4)).setCell ⟨T, 5, none⟩ (y5)).setCell ⟨T, 6, none⟩ (y6))) := by
 have hR1 := (hR.set0 A).set1 B
 have hK1 := (Kept.one w R 0 A).trans (Kept.one _ R 1 B) (fun _ _ e => e)
 have hT1 := hT.kept hK1 (fun e => hne e.symm)
 obtain ⟨h1, h2⟩ := hT1.put y0 y1 y2 y3 y4 y5 y6
 exact ⟨h2.cell hR1.v0 hne, h2.cell hR1.v1 hne, h1, (hK1.mono (fun _ _ e => Or.inl e)).trans h2 (fun _ _ e => Or.inr e)⟩
theorem do_after {base : Nat} {w2 w9 : World} {l : DL} {d : DD} {lb : List LB} {lw : List LW} {R T : Nat} (h : SD base w2 l d lb lw) (hK : Kept (fun z => z = R ∨ z = T) w2 w9) (hR : IsD w2 R) (hT : IsTk w2 T) : SD base w9 l d lb lw :=
 h.kept hK (fun z e _ => e.elim (fun e => by rw [e]; exact hR.noDisk) (fun e => by rw [e]; exact hT.noDisk))
theorem do_no (base : Nat) (d : DD) (l : DL) (lb : List LB) (lw : List LW) (x : AC) (ga : Option Addr) (gc : Nat) (ka : Option Addr) (kc : Nat) (w : World) (_hbw : base ≤ w.heap.size) (_hG : GoodD d) (hS : SD base w l d lb lw) (hok : x.okA = false) : Calls Tryz.prog 33 #[d.val l, x.val ga gc ka kc] w (SDo base (d, ⟨4, 0, zeroG⟩) w) := by
 have hok' : Hid _ := hok
 clear hok
 have hB := do_boxes d l x ga gc ka kc w
 go_enter Tryz.func33, Tryz.ntmps33
 go_upto_region 1 with fail
 generalize (((w.alloc (.cells #[.slice l.ba d.blocks.length l.bc, .slice l.wa d.waiting.length l.wc] 46)).alloc (.cells #[.int .i64 x.op, .int .i64 x.graph.root.kind, .int .i64 x.graph.root.num, .string x.graph.root.text, .int .i64 x.graph.root.node, .slice ga x.graph.nodes.length gc, .int .i64 x.steps, .slice ka x.kept.length kc, .int .i64 x.block, .int .i64 x.byte, .int .i64 x.xor] 41)).alloc (.cells #[.slice none 0 0, .slice none 0 0] 46)).alloc (.cells #[.int .i64 0, .int .i64 0, .int .i64 0, .int .i64 0, .string ⟨#[]⟩, .int .i64 0, .slice none 0 0] 34) = w1 at hB ⊢
 obtain ⟨hX, hY, hR, hT, hRd, hTd, hA, hs1⟩ := hB
 obtain ⟨p0, p1, p2, p3, p4, p5, p6, p7, p8, p9, p10⟩ := id hY
 simp only [Nat.zero_add] at p1 p2 p3 p4 p5 p6 p7 p8 p9 p10
 go_upto_region 2 with (go_at_call 67; refine (l5actOk_any x ga gc ka kc _).mono ?_; rintro e w2 ⟨rfl, hb2⟩; rw [hok'.out])
 have hX2 := hX.grow hb2
 have hY2 := hY.grow hb2
 have hR2 := hR.grow hb2
 have hT2 := hT.grow hb2
 have hRd2 := hRd.grow hb2
 have hTd2 := hTd.grow hb2
 have hA2 := gca hA hb2
 have hs2 := hb2.size
 clear p0 p1 p2 p3 p4 p5 p6 p7 p8 p9 p10 hX hY hR hT hRd hTd hA hb2
 obtain ⟨_, x0, x1⟩ := id hX2
 obtain ⟨p0, p1, p2, p3, p4, p5, p6, p7, p8, p9, p10⟩ := id hY2
 simp only [Nat.zero_add] at p1 p2 p3 p4 p5 p6 p7 p8 p9 p10
 obtain ⟨z0, z1, zf⟩ := id hR2
 obtain ⟨_, r0, r1, r2, r3, r4, r5, r6, rf_⟩ := id hT2
 go_wp2
 obtain ⟨c0, c1, hV9, hK9⟩ := do_ret hR2 hT2 (by omega) (.slice l.ba d.blocks.length l.bc) (.slice l.wa d.waiting.length l.wc) (.int .i64 4) (.int .i64 0) (.int .i64 0) (.int .i64 0) (.string ⟨#[]⟩) (.int .i64 0) (.slice none 0 0)
 generalize (((((((((w2.setCell ⟨w.heap.size + 1 + 1, 0, none⟩ (.slice l.ba d.blocks.length l.bc)).setCell ⟨w.heap.size + 1 + 1, 1, none⟩ (.slice l.wa d.waiting.length l.wc)).setCell ⟨w.heap.size + 1 + 1 + 1, 0, none⟩ (.int .i64 4)).setCell ⟨w.heap.size + 1 + 1 + 1, 1, none⟩ (.int .i64 0)).setCell ⟨w.heap.size + 1 + 1 + 1, 2, none⟩ (.int .i64 0)).setCell ⟨w.heap.size + 1 + 1 + 1, 3, none⟩ (.int .i64 0)).setCell ⟨w.heap.size + 1 + 1 + 1, 4, none⟩ (.string ⟨#[]⟩)).setCell ⟨w.heap.size + 1 + 1 + 1, 5, none⟩ (.int .i64 0)).setCell ⟨w.heap.size + 1 + 1 + 1, 6, none⟩ (.slice none 0 0)) = w9 at c0 c1 hV9 hK9 ⊢
 obtain ⟨_, q0, q1, q2, q3, q4, q5, q6, _⟩ := id hV9
 exact bodyPost_ret (v := .tuple #[d.val l, (TK.mk 4 0 zeroG).val none 0]) (by simp [results, Tryz.results33, go_sem, c0, c1, q0, q1, q2, q3, q4, q5, q6, zeroG]) rfl ⟨lb, lw, l, none, 0, rfl, do_after (hS.grow hA2) hK9 hRd2 hTd2, fun _ _ i hi => absurd hi (Nat.not_lt_zero _), hA2.trans (hK9.below hA2.size (fun z hz e => by omega))⟩
theorem do_take (base : Nat) (d : DD) (l : DL) (lb : List LB) (lw : List LW) (x : AC) (ga : Option Addr) (gc : Nat) (ka : Option Addr) (kc : Nat) (w : World) (_hbw : base ≤ w.heap.size) (hG : GoodD d) (hS : SD base w l d lb lw) (hok : x.okA = true) (ho : Hid (x.op = 3)) : Calls Tryz.prog 33 #[d.val l, x.val ga gc ka kc] w (SDo base (d, d.takeT) w) := by
 obtain ⟨t, ht⟩ := hid_ex d.takeT
 rw [← ht.out]
 have hsp := fun (u : World) (h : DAt u l d) => specTake_K d l u hG.o h
 rw [← ht.out] at hsp
 have hok' : Hid _ := hok
 clear hok
 have hB := do_boxes d l x ga gc ka kc w
 go_enter Tryz.func33, Tryz.ntmps33
 go_upto_region 1 with fail
 generalize (((w.alloc (.cells #[.slice l.ba d.blocks.length l.bc, .slice l.wa d.waiting.length l.wc] 46)).alloc (.cells #[.int .i64 x.op, .int .i64 x.graph.root.kind, .int .i64 x.graph.root.num, .string x.graph.root.text, .int .i64 x.graph.root.node, .slice ga x.graph.nodes.length gc, .int .i64 x.steps, .slice ka x.kept.length kc, .int .i64 x.block, .int .i64 x.byte, .int .i64 x.xor] 41)).alloc (.cells #[.slice none 0 0, .slice none 0 0] 46)).alloc (.cells #[.int .i64 0, .int .i64 0, .int .i64 0, .int .i64 0, .string ⟨#[]⟩, .int .i64 0, .slice none 0 0] 34) = w1 at hB ⊢
 obtain ⟨hX, hY, hR, hT, hRd, hTd, hA, hs1⟩ := hB
 obtain ⟨p0, p1, p2, p3, p4, p5, p6, p7, p8, p9, p10⟩ := id hY
 simp only [Nat.zero_add] at p1 p2 p3 p4 p5 p6 p7 p8 p9 p10
 go_upto_region 3 with (go_at_call 67; refine (l5actOk_any x ga gc ka kc _).mono ?_; rintro e w2 ⟨rfl, hb2⟩; rw [hok'.out])
 have hX2 := hX.grow hb2
 have hY2 := hY.grow hb2
 have hR2 := hR.grow hb2
 have hT2 := hT.grow hb2
 have hRd2 := hRd.grow hb2
 have hTd2 := hTd.grow hb2
 have hA2 := gca hA hb2
 have hs2 := hb2.size
 clear p0 p1 p2 p3 p4 p5 p6 p7 p8 p9 p10 hX hY hR hT hRd hTd hA hb2
 obtain ⟨_, x0, x1⟩ := id hX2
 obtain ⟨p0, p1, p2, p3, p4, p5, p6, p7, p8, p9, p10⟩ := id hY2
 simp only [Nat.zero_add] at p1 p2 p3 p4 p5 p6 p7 p8 p9 p10
 have ho3 := ho.out
 go_upto_region 4 with fail
 have hB : Below w2.heap.size w2 w2.drew := gdr (gre _)
 refine wp_regionU (fun u => DBox u w.heap.size d l) 99 (by kernel_rfl) (hX2.grow hB) (fun _ => ?_)
 refine anyU_tk (i := 0) rfl (hX2.grow hB) (fun u hSu => by obtain ⟨_, s0, s1⟩ := hSu; go_simp <;> with_reducible rfl) ?_
 refine anyU_tk (i := 1) rfl (hX2.grow hB) (fun u hSu => by obtain ⟨_, s0, s1⟩ := hSu; go_simp <;> with_reducible rfl) ?_
 simp only [Act.put, List.getElem_toArray, List.getElem_cons_zero, List.getElem_cons_succ, List.setIfInBounds_toArray, List.set_cons_zero, List.set_cons_succ]
 refine anyU_one (i := 2) (by kernel_rfl) rfl (fun K hK => ?_)
 go_simp
 refine (hsp _ (hS.grow (gca hA2 hB)).at_).mono ?_
 rintro e w3 ⟨na, nc, rfl, hN3, hb3⟩
 have hB := gca hB hb3
 have hX3 := hX2.grow hB
 have hR3 := hR2.grow hB
 have hT3 := hT2.grow hB
 have hA3 := gca hA2 hB
 have hS3 := hS.grow hA3
 refine hK.out _ _ hX3 ?_
 clear hK
 obtain ⟨z0, z1, zf⟩ := id hR3
 obtain ⟨_, r0, r1, r2, r3, r4, r5, r6, rf_⟩ := id hT3
 have hRd3 := hRd2.grow hB
 have hTd3 := hTd2.grow hB
 have hs3 := hB.size
 have hw2d : w2.drew.heap.size = w2.heap.size := rfl
 obtain ⟨_, _, K2⟩ := ret2 (A := .slice l.ba d.blocks.length l.bc) (B := .slice l.wa d.waiting.length l.wc) z0 z1
 refine anyU_one (i := 3) (by kernel_rfl) rfl (fun K hK => ?_)
 go_simp
 refine hK.out _ _ (hX3.kept K2 (by omega)) ?_
 clear hK
 obtain ⟨c0, c1, hV9, hK9⟩ := do_ret hR3 hT3 (by omega) (.slice l.ba d.blocks.length l.bc) (.slice l.wa d.waiting.length l.wc) (.int .i64 t.code) (.int .i64 t.gen) (.int .i64 t.g.root.kind) (.int .i64 t.g.root.num) (.string t.g.root.text) (.int .i64 t.g.root.node) (.slice na t.g.nodes.length nc)
 have hT4 := hT3.kept K2 (by omega)
 obtain ⟨_, u0, u1, u2, u3, u4, u5, u6, uf_⟩ := id hT4
 refine anyU_one (i := 4) (by kernel_rfl) rfl (fun K hK => ?_)
 go_simp
 refine hK.out _ _ (hX3.kept hK9 (by omega)) ?_
 clear hK u0 u1 u2 u3 u4 u5 u6 hT4 K2
 generalize (((((((((w3.setCell ⟨w.heap.size + 1 + 1, 0, none⟩ (.slice l.ba d.blocks.length l.bc)).setCell ⟨w.heap.size + 1 + 1, 1, none⟩ (.slice l.wa d.waiting.length l.wc)).setCell ⟨w.heap.size + 1 + 1 + 1, 0, none⟩ (.int .i64 t.code)).setCell ⟨w.heap.size + 1 + 1 + 1, 1, none⟩ (.int .i64 t.gen)).setCell ⟨w.heap.size + 1 + 1 + 1, 2, none⟩ (.int .i64 t.g.root.kind)).setCell ⟨w.heap.size + 1 + 1 + 1, 3, none⟩ (.int .i64 t.g.root.num)).setCell ⟨w.heap.size + 1 + 1 + 1, 4, none⟩ (.string t.g.root.text)).setCell ⟨w.heap.size + 1 + 1 + 1, 5, none⟩ (.int .i64 t.g.root.node)).setCell ⟨w.heap.size + 1 + 1 + 1, 6, none⟩ (.slice na t.g.nodes.length nc)) = w9 at c0 c1 hV9 hK9 ⊢
 refine anyU_done (by kernel_rfl) ?_
 go_wp2
 obtain ⟨_, q0, q1, q2, q3, q4, q5, q6, _⟩ := id hV9
 exact bodyPost_ret (v := .tuple #[d.val l, t.val na nc]) (by simp [results, Tryz.results33, go_sem, c0, c1, q0, q1, q2, q3, q4, q5, q6]) rfl ⟨lb, lw, l, na, nc, rfl, do_after hS3 hK9 hRd3 hTd3, fun w'' hK'' => hN3 w'' ((hK9.mono (q := fun z => z < w2.drew.heap.size) (fun k _ e => by omega)).trans (hK''.mono (q := fun z => z < w2.drew.heap.size) (fun k _ e => by omega)) (fun _ _ e => e)), hA3.trans (hK9.below hA3.size (fun z hz e => by omega))⟩
theorem do_none (base : Nat) (d : DD) (l : DL) (lb : List LB) (lw : List LW) (x : AC) (ga : Option Addr) (gc : Nat) (ka : Option Addr) (kc : Nat) (w : World) (_hbw : base ≤ w.heap.size) (_hG : GoodD d) (hS : SD base w l d lb lw) (hg : x.graph.Ok) (hga : NodesAt w.heap.size w ga x.graph.nodes) (hok : x.okA = true) (ho3 : Hid (¬ x.op = 3)) (ho4 : Hid (¬ x.op = 4)) (hp0 : Hid (packB x.graph = [])) : Calls Tryz.prog 33 #[d.val l, x.val ga gc ka kc] w (SDo base (d, ⟨5, 0, zeroG⟩) w) := by
 have hok' : Hid _ := hok
 clear hok
 have hB := do_boxes d l x ga gc ka kc w
 go_enter Tryz.func33, Tryz.ntmps33
 go_upto_region 1 with fail
 generalize (((w.alloc (.cells #[.slice l.ba d.blocks.length l.bc, .slice l.wa d.waiting.length l.wc] 46)).alloc (.cells #[.int .i64 x.op, .int .i64 x.graph.root.kind, .int .i64 x.graph.root.num, .string x.graph.root.text, .int .i64 x.graph.root.node, .slice ga x.graph.nodes.length gc, .int .i64 x.steps, .slice ka x.kept.length kc, .int .i64 x.block, .int .i64 x.byte, .int .i64 x.xor] 41)).alloc (.cells #[.slice none 0 0, .slice none 0 0] 46)).alloc (.cells #[.int .i64 0, .int .i64 0, .int .i64 0, .int .i64 0, .string ⟨#[]⟩, .int .i64 0, .slice none 0 0] 34) = w1 at hB ⊢
 obtain ⟨hX, hY, hR, hT, hRd, hTd, hA, hs1⟩ := hB
 obtain ⟨p0, p1, p2, p3, p4, p5, p6, p7, p8, p9, p10⟩ := id hY
 simp only [Nat.zero_add] at p1 p2 p3 p4 p5 p6 p7 p8 p9 p10
 go_upto_region 3 with (go_at_call 67; refine (l5actOk_any x ga gc ka kc _).mono ?_; rintro e w2 ⟨rfl, hb2⟩; rw [hok'.out])
 have hX2 := hX.grow hb2
 have hY2 := hY.grow hb2
 have hR2 := hR.grow hb2
 have hT2 := hT.grow hb2
 have hRd2 := hRd.grow hb2
 have hTd2 := hTd.grow hb2
 have hA2 := gca hA hb2
 have hs2 := hb2.size
 clear p0 p1 p2 p3 p4 p5 p6 p7 p8 p9 p10 hX hY hR hT hRd hTd hA hb2
 obtain ⟨_, x0, x1⟩ := id hX2
 obtain ⟨p0, p1, p2, p3, p4, p5, p6, p7, p8, p9, p10⟩ := id hY2
 simp only [Nat.zero_add] at p1 p2 p3 p4 p5 p6 p7 p8 p9 p10
 have ho3 := ho3.out
 have ho4 := ho4.out
 have hpk := fun (u : World) (h : NodesAt u.heap.size u ga x.graph.nodes) => specPack_any ga gc x.graph u hg h
 rw [hp0.out] at hpk
 go_upto_region 10 with (go_at_call 16; refine (hpk _ (hga.grow hA2)).mono ?_; rintro e w3 ⟨oa, oc, rfl, hM3, hb3⟩)
 have hX3 := hX2.grow hb3
 have hR3 := hR2.grow hb3
 have hT3 := hT2.grow hb3
 have hRd3 := hRd2.grow hb3
 have hTd3 := hTd2.grow hb3
 have hA3 := gca hA2 hb3
 clear p0 p1 p2 p3 p4 p5 p6 p7 p8 p9 p10 x0 x1
 obtain ⟨_, x0, x1⟩ := id hX3
 obtain ⟨z0, z1, zf⟩ := id hR3
 obtain ⟨_, r0, r1, r2, r3, r4, r5, r6, rf_⟩ := id hT3
 go_wp2
 obtain ⟨c0, c1, hV9, hK9⟩ := do_ret hR3 hT3 (by omega) (.slice l.ba d.blocks.length l.bc) (.slice l.wa d.waiting.length l.wc) (.int .i64 5) (.int .i64 0) (.int .i64 0) (.int .i64 0) (.string ⟨#[]⟩) (.int .i64 0) (.slice none 0 0)
 generalize (((((((((w3.setCell ⟨w.heap.size + 1 + 1, 0, none⟩ (.slice l.ba d.blocks.length l.bc)).setCell ⟨w.heap.size + 1 + 1, 1, none⟩ (.slice l.wa d.waiting.length l.wc)).setCell ⟨w.heap.size + 1 + 1 + 1, 0, none⟩ (.int .i64 5)).setCell ⟨w.heap.size + 1 + 1 + 1, 1, none⟩ (.int .i64 0)).setCell ⟨w.heap.size + 1 + 1 + 1, 2, none⟩ (.int .i64 0)).setCell ⟨w.heap.size + 1 + 1 + 1, 3, none⟩ (.int .i64 0)).setCell ⟨w.heap.size + 1 + 1 + 1, 4, none⟩ (.string ⟨#[]⟩)).setCell ⟨w.heap.size + 1 + 1 + 1, 5, none⟩ (.int .i64 0)).setCell ⟨w.heap.size + 1 + 1 + 1, 6, none⟩ (.slice none 0 0)) = w9 at c0 c1 hV9 hK9 ⊢
 obtain ⟨_, q0, q1, q2, q3, q4, q5, q6, _⟩ := id hV9
 exact bodyPost_ret (v := .tuple #[d.val l, (TK.mk 5 0 zeroG).val none 0]) (by simp [results, Tryz.results33, go_sem, c0, c1, q0, q1, q2, q3, q4, q5, q6, zeroG]) rfl ⟨lb, lw, l, none, 0, rfl, do_after (hS.grow hA3) hK9 hRd3 hTd3, fun _ _ i hi => absurd hi (Nat.not_lt_zero _), hA3.trans (hK9.below hA3.size (fun z hz e => by omega))⟩
instance : Inhabited TK := ⟨⟨0, 0, ⟨default, []⟩⟩⟩
structure TkAt (w : World) (b off : Nat) (t : TK) (ga : Option Addr) (gc : Nat) : Prop where
 c0 : w.cell? ⟨b, off, none⟩ = some (.int .i64 t.code)
 c1 : w.cell? ⟨b, off + 1, none⟩ = some (.int .i64 t.gen)
 c2 : w.cell? ⟨b, off + 2, none⟩ = some (.int .i64 t.g.root.kind)
 c3 : w.cell? ⟨b, off + 3, none⟩ = some (.int .i64 t.g.root.num)
 c4 : w.cell? ⟨b, off + 4, none⟩ = some (.string t.g.root.text)
 c5 : w.cell? ⟨b, off + 5, none⟩ = some (.int .i64 t.g.root.node)
 c6 : w.cell? ⟨b, off + 6, none⟩ = some (.slice ga t.g.nodes.length gc)
theorem TkAt.grow {w w' : World} {b off : Nat} {t : TK} {ga : Option Addr} {gc : Nat} (h : TkAt w b off t ga gc) (hb : Below w.heap.size w w') : TkAt w' b off t ga gc :=
 ⟨cell_later hb h.c0, cell_later hb h.c1, cell_later hb h.c2, cell_later hb h.c3, cell_later hb h.c4, cell_later hb h.c5, cell_later hb h.c6⟩
def TksAt (w : World) (a : Option Addr) (ls : List TK) : Prop :=
 ∀ i, i < ls.length → ∃ b off ga gc, a = some ⟨b, off, none⟩ ∧ TkAt w b (off + i * 7) ls[i]! ga gc ∧ NodesAt w.heap.size w ga ls[i]!.g.nodes
theorem TksAt.get {w : World} {a : Option Addr} {ls : List TK} (h : TksAt w a ls) {k : Nat} (hk : k < ls.length) :
  ∃ x b off ga gc, Hid (x = ls[k]!) ∧ x ∈ ls ∧ a = some ⟨b, off, none⟩ ∧ TkAt w b (off + k * 7) x ga gc ∧ NodesAt w.heap.size w ga x.g.nodes := by
 obtain ⟨b, off, ga, gc, ha, hc, hn⟩ := h k hk
 exact ⟨ls[k]!, b, off, ga, gc, rfl, mem_at hk, ha, hc, hn⟩
theorem TksAt.grow {w w' : World} {a : Option Addr} {ls : List TK} (h : TksAt w a ls) (hb : Below w.heap.size w w') : TksAt w' a ls := fun i hi => by
 obtain ⟨b, off, ga, gc, ha, hc, hn⟩ := h i hi
 exact ⟨b, off, ga, gc, ha, hc.grow hb, hn.grow hb⟩
structure LT where
 t : TK
 a : Option Addr
 c : Nat
 nl : List NL
 lo : Nat
 hi : Nat
instance : Inhabited LT := ⟨⟨default, none, 0, [], 0, 0⟩⟩
def LT.cells (y : LT) : List Value := [.int .i64 y.t.code, .int .i64 y.t.gen, .int .i64 y.t.g.root.kind, .int .i64 y.t.g.root.num, .string y.t.g.root.text, .int .i64 y.t.g.root.node, .slice y.a y.t.g.nodes.length y.c]
theorem LT.cells_length (y : LT) : y.cells.length = 7 := rfl
def tCells (l : List LT) : List Value := l.flatMap LT.cells
theorem tCells_app (a b : List LT) : tCells (a ++ b) = tCells a ++ tCells b := by unfold tCells; rw [List.flatMap_append]
theorem tCells_one (y : LT) : tCells [y] = y.cells := by simp [tCells]
theorem tCells_get (l : List LT) (i j : Nat) (hi : i < l.length) (hj : j < 7) : (tCells l)[i * 7 + j]? = l[i]!.cells[j]? := flatMap_get LT.cells_length l i j hi hj
theorem owns_isTk {w : World} {base size n cap : Nat} {a : Option Addr} {xs : List Value} (h : w.ownsRow base 34 size (.slice a n cap) n xs) {z : Nat} (hz : (Value.slice a n cap).ownBlock = some z) : IsTk w z ∧ base ≤ z := by
 have ha := owns_addr h hz
 rcases h.2 with ⟨e, _⟩ | ⟨g, cap', cur, hv, hb, hg, _⟩
 ·
  simp at e
  rw [e.1] at ha
  cases ha
 ·
  simp only [Value.slice.injEq] at hv
  rw [ha] at hv
  obtain rfl := some_addr hv.1
  exact ⟨⟨cur, hg⟩, hb⟩
theorem info_taken : (Tryz.prog.info? 34).map (fun i => (i.zero, i.size, i.bytes)) = some (some (.agg #[.int .i64 0, .int .i64 0, .int .i64 0, .int .i64 0, .string .empty, .int .i64 0, .slice none 0 0]), 7, 80) := by kernel_rfl
structure ST (base : Nat) (w : World) (oa : Option Addr) (oc : Nat) (lt : List LT) : Prop where
 own : w.ownsRow base 34 7 (.slice oa lt.length oc) lt.length (tCells lt)
 rng : ∀ y, y ∈ lt → base ≤ y.lo ∧ y.lo ≤ y.hi ∧ y.hi ≤ w.heap.size
 row : ∀ y, y ∈ lt → ∀ z, (Value.slice oa lt.length oc).ownBlock = some z → z < y.lo ∨ y.hi ≤ z
 nod : ∀ y, y ∈ lt → ∀ w', Kept (fun z => z < y.lo ∨ y.hi ≤ z) w w' → NodesAt w'.heap.size w' y.a y.t.g.nodes
theorem ST.nil (base : Nat) (w : World) : ST base w none 0 [] := ⟨owns_none _ _ _ _, fun y hy => (by cases hy), fun y hy => (by cases hy), fun y hy => (by cases hy)⟩
theorem ST.kept {p : Nat → Prop} {base : Nat} {w w' : World} {oa : Option Addr} {oc : Nat} {lt : List LT} (h : ST base w oa oc lt) (K : Kept p w w') (hr : ∀ z, (Value.slice oa lt.length oc).ownBlock = some z → ¬ p z) (hp : ∀ y, y ∈ lt → ∀ z, p z → z < w.heap.size → z < y.lo ∨ y.hi ≤ z) : ST base w' oa oc lt :=
 ⟨K.owns h.own hr, fun y hy => ⟨(h.rng y hy).1, (h.rng y hy).2.1, Nat.le_trans (h.rng y hy).2.2 K.size⟩, h.row, fun y hy w'' k => h.nod y hy w'' ((K.mono (fun z hz e => hp y hy z e hz)).trans k (fun _ _ e => e))⟩
theorem ST.grow {base : Nat} {w w' : World} {oa : Option Addr} {oc : Nat} {lt : List LT} (h : ST base w oa oc lt) (hb : Below w.heap.size w w') : ST base w' oa oc lt := h.kept (Kept.of_below hb (fun _ => False)) (fun _ _ e => e) (fun _ _ _ e => e.elim)
theorem ST.at_ {base : Nat} {w : World} {oa : Option Addr} {oc : Nat} {lt : List LT} (h : ST base w oa oc lt) : TksAt w oa (lt.map (·.t)) := fun i hi => by
 have hi' : i < lt.length := by simpa using hi
 have e : (lt.map (·.t))[i]! = lt[i]!.t := by rw [getElem!_pos _ i hi, getElem!_pos lt i hi']; simp
 obtain ⟨g, f, ha, _, _, hr, hc, hf⟩ := owns_row h.own (by omega)
 have cell : ∀ j u, j < 7 → lt[i]!.cells[j]? = some u → w.cell? ⟨g, 0 + i * 7 + j, none⟩ = some u := fun j u hj hu => by
  rw [Nat.zero_add, ← hf _ _ ((tCells_get lt i j hi' hj).trans hu)]
  exact hr.cell (by omega)
 rw [e]
 exact ⟨g, 0, lt[i]!.a, lt[i]!.c, ha, ⟨cell 0 _ (by omega) rfl, cell 1 _ (by omega) rfl, cell 2 _ (by omega) rfl, cell 3 _ (by omega) rfl, cell 4 _ (by omega) rfl, cell 5 _ (by omega) rfl, cell 6 _ (by omega) rfl⟩, h.nod _ (mem_at hi') w (Kept.refl _ _)⟩
theorem ST.push {base : Nat} {w w5 : World} {oa : Option Addr} {oc : Nat} {lt : List LT} (h : ST base w oa oc lt) {y : LT} (hr : base ≤ y.lo ∧ y.lo ≤ y.hi ∧ y.hi ≤ w.heap.size) (ho : ∀ z, (Value.slice oa lt.length oc).ownBlock = some z → z < y.lo ∨ y.hi ≤ z) (hn : ∀ w', Kept (fun z => z < y.lo ∨ y.hi ≤ z) w w' → NodesAt w'.heap.size w' y.a y.t.g.nodes) {gg cc : Nat}
  (hown : w5.ownsRow base 34 7 (.slice (some ⟨gg, 0, none⟩) (lt.length + 1) cc) (lt.length + 1) (tCells lt ++ y.cells)) (hgrow : w.grownBy w5 (Value.slice oa lt.length oc).ownBlock) (hat : (Value.slice oa lt.length oc).ownBlock = some gg ∨ gg = w.heap.size) : ST base w5 (some ⟨gg, 0, none⟩) cc (lt ++ [y]) := by
 have K := Kept.of_grown hgrow
 have hK : ∀ x, x ∈ lt ++ [y] → (base ≤ x.lo ∧ x.lo ≤ x.hi ∧ x.hi ≤ w.heap.size) ∧ (∀ z, (Value.slice oa lt.length oc).ownBlock = some z → z < x.lo ∨ x.hi ≤ z) ∧ ∀ w', Kept (fun z => z < x.lo ∨ x.hi ≤ z) w w' → NodesAt w'.heap.size w' x.a x.t.g.nodes := fun x hx => by
  rcases List.mem_append.1 hx with e | e
  · exact ⟨h.rng x e, h.row x e, h.nod x e⟩
  ·
   obtain rfl : x = y := by simpa using e
   exact ⟨hr, ho, hn⟩
 refine ⟨by rw [tCells_app, tCells_one, List.length_append]; exact hown, fun x hx => ?_, fun x hx z hz => ?_, fun x hx w' k => ?_⟩
 ·
  obtain ⟨h1, _, _⟩ := hK x hx
  exact ⟨h1.1, h1.2.1, Nat.le_trans h1.2.2 K.size⟩
 ·
  obtain ⟨h1, h2, _⟩ := hK x hx
  have e : z = gg := by simpa [Value.ownBlock] using hz.symm
  subst e
  rcases hat with e | e
  · exact h2 z e
  · exact Or.inr (by omega)
 ·
  obtain ⟨_, h2, h3⟩ := hK x hx
  exact h3 w' ((K.mono (fun z _ e => h2 z e)).trans k (fun _ _ e => e))
structure ID (w : World) (C lo hi : Nat) (l : DL) (d : DD) (fa fb : Nat → Option Addr) (fc fe : Nat → Nat) : Prop where
 box : VB w C (.slice l.ba d.blocks.length l.bc) (.slice l.wa d.waiting.length l.wc)
 md : MD w lo hi l d fa fb fc fe
 clo : C < lo ∨ hi ≤ C
 hiw : hi ≤ w.heap.size
theorem ID.grow {w w' : World} {C lo hi : Nat} {l : DL} {d : DD} {fa fb : Nat → Option Addr} {fc fe : Nat → Nat} (h : ID w C lo hi l d fa fb fc fe) (hb : Below w.heap.size w w') : ID w' C lo hi l d fa fb fc fe :=
 ⟨h.box.grow hb, h.md.grow hb, h.clo, Nat.le_trans h.hiw hb.size⟩
theorem ID.at_ {w : World} {C lo hi : Nat} {l : DL} {d : DD} {fa fb : Nat → Option Addr} {fc fe : Nat → Nat} (h : ID w C lo hi l d fa fb fc fe) : DAt w l d := h.md.at_
theorem ID.kept {p : Nat → Prop} {w w' : World} {C lo hi : Nat} {l : DL} {d : DD} {fa fb : Nat → Option Addr} {fc fe : Nat → Nat} (h : ID w C lo hi l d fa fb fc fe) (K : Kept p w w') (hC : ¬ p C) (hp : ∀ z, lo ≤ z → z < hi → ¬ p z) : ID w' C lo hi l d fa fb fc fe :=
 ⟨h.box.kept K hC, h.md.out K hp, h.clo, Nat.le_trans h.hiw K.size⟩
def DD.laidS (d : DD) (g : GG) (s : Int) : DD := (applyN d (d.lay (packB g)) (min s ((d.lay (packB g)).length : Int)).toNat).getD zeroD
theorem ops_lay {d : DD} (h : GoodD d) {p : List Nat} (hp : p ≠ []) (hl : p.length ≤ 4096) : d.ops p = d.lay p := if_pos ⟨h.ok, h.w, hp, hl⟩
theorem laidS_cut {d : DD} {x : AC} (hs : x.op = 2) (_h0 : 0 ≤ x.steps) : d.laidS x.graph x.steps = d.laidA x := by
 unfold DD.laidS DD.laidA AC.cutN
 generalize d.lay (packB x.graph) = ops
 by_cases h : x.steps < (ops.length : Int)
 · rw [if_pos ⟨hs, h⟩, Int.min_eq_left (by omega)]
 · rw [if_neg (fun k => h k.2), Int.min_eq_right (by omega), Int.toNat_natCast]
theorem laidS_keep {d : DD} {x : AC} (hs : x.op = 1) : d.laidS x.graph 200 = d.laidA x := by
 have hl := lay_len d (packB_lenK x.graph)
 unfold DD.laidS DD.laidA AC.cutN
 rw [if_neg (fun k => by have := k.1; rw [hs] at this; cases this), Int.min_eq_right (by omega), Int.toNat_natCast]
theorem layDown_no (C lo hi : Nat) (l : DL) (d : DD) (fa fb : Nat → Option Addr) (fc fe : Nat → Nat) (g : GG) (a : Option Addr) (cap : Nat) (s : Int) (w : World) (_hI : ID w C lo hi l d fa fb fc fe) (hg : g.Ok) (hga : NodesAt w.heap.size w a g.nodes) (hp0 : Hid (packB g = [])) :
  Calls Tryz.prog 120 #[.pointer (some ⟨C, 0, none⟩), g.val a cap, .int .i64 s] w fun e w' => e = .returned (.iface 132 (.agg #[.int .i64 5, .int .i64 0])) ∧ Below w.heap.size w w' := by
 have hX := GBox.new w g a cap 32
 have hA := gal (gre w) (.cells #[.int .i64 g.root.kind, .int .i64 g.root.num, .string g.root.text, .int .i64 g.root.node, .slice a g.nodes.length cap] 32)
 have hpk := fun (u : World) (h : NodesAt u.heap.size u a g.nodes) => implPack_cap a cap g u hg h
 rw [hp0.out] at hpk
 go_enter Tryz.func120, Tryz.ntmps120
 go_upto_region 1 with fail
 generalize w.alloc (.cells #[.int .i64 g.root.kind, .int .i64 g.root.num, .string g.root.text, .int .i64 g.root.node, .slice a g.nodes.length cap] 32) = w1 at hA hX ⊢
 obtain ⟨_, x0, x1, x2, x3, x4⟩ := id hX
 go_wp2_with (go_at_call 14; refine (hpk _ (hga.grow hA)).mono ?_; rintro e w2 ⟨oa, oc, rfl, hM2, hb2, hoc⟩)
 go_ret
 exact ⟨rfl, gca hA hb2⟩
theorem layDown_yes (C lo hi : Nat) (l : DL) (d : DD) (fa fb : Nat → Option Addr) (fc fe : Nat → Nat) (g : GG) (a : Option Addr) (cap : Nat) (s : Int) (w : World) (hI : ID w C lo hi l d fa fb fc fe) (hG : GoodD d) (hg : g.Ok) (hga : NodesAt w.heap.size w a g.nodes) (hp0 : Hid (packB g ≠ [])) (hs0 : 0 ≤ s) (hs1 : s ≤ 200) :
  Calls Tryz.prog 120 #[.pointer (some ⟨C, 0, none⟩), g.val a cap, .int .i64 s] w fun e w' => ∃ lo' hi' l' fa' fb' fc' fe', e = .returned .nilIface ∧ ID w' C lo' hi' l' (d.laidS g s) fa' fb' fc' fe' ∧ w.heap.size ≤ lo' ∧ Kept (fun z => z = C) w w' := by
 have hX := GBox.new w g a cap 32
 have hA := gal (gre w) (.cells #[.int .i64 g.root.kind, .int .i64 g.root.num, .string g.root.text, .int .i64 g.root.node, .slice a g.nodes.length cap] 32)
 have hf := DD.fit hG.ok
 have hr := newest_rng hf
 obtain ⟨c, hc⟩ := hid_ex (d.laidS g s)
 rw [← hc.out]
 have hcd : Hid (c = (applyN d (d.lay (packB g)) (min s ((d.lay (packB g)).length : Int)).toNat).getD zeroD) := hc.out
 obtain ⟨p, hp⟩ := hid_ex (packB g)
 rw [← hp.out] at hcd
 have hpl : p.length ≤ 4096 := by rw [hp.out]; exact packB_lenK g
 have hpb : ∀ z, z ∈ p → z < 256 := by rw [hp.out]; exact packB_bytesK g
 have hpn : p ≠ [] := by rw [hp.out]; exact hp0.out
 have hpne : ((p.length : Int) == 0) = false := by
  rw [beq_eq_false_iff_ne]
  intro e
  exact hpn (List.eq_nil_of_length_eq_zero (by omega))
 have hoo := lay_opsOk d ⟨hr.g.2, hr.g.1⟩ hpb hpl
 have hol := lay_len d hpl
 have hopl := ops_lay hG hpn hpl
 obtain ⟨ops, hops⟩ := hid_ex (d.lay p)
 rw [← hops.out] at hoo hol hopl hcd
 have hopl' : Hid _ := hopl
 have hpn' : Hid _ := hpn
 clear hopl hpn
 go_enter Tryz.func120, Tryz.ntmps120
 go_upto_region 1 with fail
 generalize w.alloc (.cells #[.int .i64 g.root.kind, .int .i64 g.root.num, .string g.root.text, .int .i64 g.root.node, .slice a g.nodes.length cap] 32) = w1 at hA hX ⊢
 obtain ⟨_, x0, x1, x2, x3, x4⟩ := id hX
 go_upto_region 5 with (first
  | (go_at_call 14; refine (implPack_cap a cap g _ hg (hga.grow hA)).mono ?_; rw [← hp.out]; rintro e w2 ⟨oa, oc, rfl, hM2, hb2, hoc⟩; obtain ⟨v0, v1, vf⟩ := (hI.grow (gca hA hb2)).box)
  | (go_at_call 18; refine (implOps_any d l oa p oc _ hG.o (hI.grow (gca hA hb2)).at_ (mb_bytesK hM2) hpb (by omega) hoc).mono ?_; rw [hopl'.out]; rintro e w3 ⟨pa, pc, lo1, rfl, hlo, hSO, hb3⟩))
 have hA3 := gca (gca hA hb2) hb3
 have hoat := hSO.at_
 rw [hlo] at hoat
 have hpc := owns_capH hSO.own
 have hlol : lo1.length = ops.length := by rw [← hlo, List.length_map]
 rw [hlol] at hpc
 clear v0 v1 vf x0 x1 x2 x3 x4
 have hI3 := hI.grow hA3
 obtain ⟨v0, v1, vf⟩ := id hI3.box
 have hap : ∀ n : Int, (n = min s (ops.length : Int) ∧ 0 ≤ n ∧ n ≤ (ops.length : Int)) → Hid (d.apply ops n = c) := fun n h => by
  show _ = _
  unfold DD.apply
  rw [if_pos ⟨hG.ok, h.2.1, h.2.2⟩, hcd.out, h.1]
 have hCl := hI.box.lt
 have hCw := hA3.size
 by_cases e3 : (ops.length : Int) < s
 ·
  skip
  go_wp2_with (go_at_call 21; refine (implApply_any d l pa ops pc (ops.length : Int) _ hG.o hI3.at_ hoat hpc (by omega) hoo (by unfold I64; omega)).mono ?_; rw [(hap (ops.length : Int) (by omega)).out]; rintro e w4 ⟨l6, fa6, ga6, fc6, gc6, rfl, hmd, hb4⟩; obtain ⟨v0, v1, vf⟩ := hI3.box.grow hb4)
  go_ret
  have hV4 := ((hI3.box.grow hb4).set0 (.slice l6.ba c.blocks.length l6.bc)).set1 (.slice l6.wa c.waiting.length l6.wc)
  have K4 := (Kept.one w4 C 0 (.slice l6.ba c.blocks.length l6.bc)).trans (Kept.one _ C 1 (.slice l6.wa c.waiting.length l6.wc)) (fun _ _ e => e)
  exact ⟨w3.heap.size, w4.heap.size, l6, fa6, ga6, fc6, gc6, rfl, ⟨hV4, hmd.out K4 (fun z h1 h2 e => by omega), by omega, K4.size⟩, hA3.size, (Kept.of_below (gca hA3 hb4) (fun z => z = C)).trans K4 (fun _ _ e => e)⟩
 ·
  skip
  go_wp2_with (go_at_call 21; refine (implApply_any d l pa ops pc s _ hG.o hI3.at_ hoat hpc (by omega) hoo (by unfold I64; omega)).mono ?_; rw [(hap s (by omega)).out]; rintro e w4 ⟨l6, fa6, ga6, fc6, gc6, rfl, hmd, hb4⟩; obtain ⟨v0, v1, vf⟩ := hI3.box.grow hb4)
  go_ret
  have hV4 := ((hI3.box.grow hb4).set0 (.slice l6.ba c.blocks.length l6.bc)).set1 (.slice l6.wa c.waiting.length l6.wc)
  have K4 := (Kept.one w4 C 0 (.slice l6.ba c.blocks.length l6.bc)).trans (Kept.one _ C 1 (.slice l6.wa c.waiting.length l6.wc)) (fun _ _ e => e)
  exact ⟨w3.heap.size, w4.heap.size, l6, fa6, ga6, fc6, gc6, rfl, ⟨hV4, hmd.out K4 (fun z h1 h2 e => by omega), by omega, K4.size⟩, hA3.size, (Kept.of_below (gca hA3 hb4) (fun z => z = C)).trans K4 (fun _ _ e => e)⟩
theorem field_gen (a b c e : Value) (u : World) : (Instr.field 62 (.agg #[a, b, c, e]) 1).run Tryz.prog u = .ok b u := by
 first | kernel_rfl | rfl | simp [go_sem, Tryz.underlying62]
theorem newestGen_any (C lo hi : Nat) (l : DL) (d : DD) (fa fb : Nat → Option Addr) (fc fe : Nat → Nat) (w : World) (hI : ID w C lo hi l d fa fb fc fe) (hG : GoodD d) :
  Calls Tryz.prog 121 #[.pointer (some ⟨C, 0, none⟩)] w fun e w' => e = .returned ((TK.mk 0 d.newestOf.gen zeroG).val none 0) ∧ Below w.heap.size w w' := by
 have hT := V7.new_at w (.int .i64 0) (.int .i64 0) (.int .i64 0) (.int .i64 0) (.string ⟨#[]⟩) (.int .i64 0) (.slice none 0 0) 34 w.heap.size rfl
 have hA := gal (gre w) (.cells #[.int .i64 0, .int .i64 0, .int .i64 0, .int .i64 0, .string ⟨#[]⟩, .int .i64 0, .slice none 0 0] 34)
 obtain ⟨k, hk⟩ := hid_ex d.newestOf
 have hkn : Hid (d.newest = k) := by show _ = _; rw [hk.out]; exact if_pos hG.ok
 rw [← hk.out]
 go_enter Tryz.func121, Tryz.ntmps121
 go_upto_region 1 with fail
 generalize w.alloc (.cells #[.int .i64 0, .int .i64 0, .int .i64 0, .int .i64 0, .string ⟨#[]⟩, .int .i64 0, .slice none 0 0] 34) = w1 at hT hA ⊢
 have hI1 := hI.grow hA
 obtain ⟨v0, v1, vf⟩ := id hI1.box
 have hfd := field_gen
 go_wp2_with (go_at_call 27; refine (implNewest_any d l _ hG.o hI1.at_).mono ?_; rw [hkn.out]; rintro e w2 ⟨oa, oc, rfl, _, hM, hb2⟩; simp only [KK.val]; obtain ⟨_, r0, r1, r2, r3, r4, r5, r6, rf_⟩ := hT.grow hb2)
 have hT2 := hT.grow hb2
 have hA2 := gca hA hb2
 obtain ⟨hV9, hK9⟩ := hT2.put (.int .i64 0) (.int .i64 k.gen) (.int .i64 0) (.int .i64 0) (.string ⟨#[]⟩) (.int .i64 0) (.slice none 0 0)
 generalize (((((((w2.setCell ⟨w.heap.size, 0, none⟩ (.int .i64 0)).setCell ⟨w.heap.size, 1, none⟩ (.int .i64 k.gen)).setCell ⟨w.heap.size, 2, none⟩ (.int .i64 0)).setCell ⟨w.heap.size, 3, none⟩ (.int .i64 0)).setCell ⟨w.heap.size, 4, none⟩ (.string ⟨#[]⟩)).setCell ⟨w.heap.size, 5, none⟩ (.int .i64 0)).setCell ⟨w.heap.size, 6, none⟩ (.slice none 0 0)) = w9 at hV9 hK9 ⊢
 obtain ⟨_, q0, q1, q2, q3, q4, q5, q6, _⟩ := id hV9
 exact bodyPost_ret (v := (TK.mk 0 k.gen zeroG).val none 0) (by simp [results, Tryz.results121, go_sem, q0, q1, q2, q3, q4, q5, q6, zeroG]) rfl ⟨rfl, hA2.trans (hK9.below hA2.size (fun z hz e => by omega))⟩
theorem okA_op2 {x : AC} (h : x.okA = true) (e : x.op = 2) : 0 ≤ x.steps ∧ x.steps ≤ 200 ∧ x.kept.length ≤ 200 ∧ x.block = 0 ∧ x.byte = 0 ∧ x.xor = 0 := by
 unfold AC.okA at h
 simp only [e] at h
 simp at h
 omega
theorem okA_op12 {x : AC} (h : x.okA = true) (e3 : ¬ x.op = 3) (e4 : ¬ x.op = 4) : x.op = 1 ∨ x.op = 2 := by
 unfold AC.okA at h
 by_cases o1 : x.op = 1
 · exact Or.inl o1
 ·
  by_cases o2 : x.op = 2
  · exact Or.inr o2
  · simp [o1, o2, e3, e4] at h
def AnsV (t : TK) (na : Option Addr) (nc : Nat) (v : Value) : Prop := v = .tuple #[t.val na nc, .nilIface] ∨ (t.g = zeroG ∧ na = none ∧ nc = 0 ∧ v = .tuple #[(TK.mk 0 0 zeroG).val none 0, .iface 132 (.agg #[.int .i64 t.code, .int .i64 t.gen])])
def IDo (C lo hi : Nat) (r : DD × TK) (w : World) (e : Ending) (w' : World) : Prop :=
 ∃ v na nc nl lo' hi' l fa fb fc fe, e = .returned v ∧ AnsV r.2 na nc v ∧ nl.map (·.n) = r.2.g.nodes ∧ OwnG w' w.heap.size na nc nl ∧ ID w' C lo' hi' l r.1 fa fb fc fe ∧ ((lo' = lo ∧ hi' = hi) ∨ (w.heap.size ≤ lo' ∧ nl = [] ∧ na = none)) ∧ Kept (fun z => z = C ∨ (lo ≤ z ∧ z < hi)) w w'
theorem deed_boxes (x : AC) (ga : Option Addr) (gc : Nat) (ka : Option Addr) (kc : Nat) (w : World) :
  ActAt ((w.alloc (.cells #[.int .i64 x.op, .int .i64 x.graph.root.kind, .int .i64 x.graph.root.num, .string x.graph.root.text, .int .i64 x.graph.root.node, .slice ga x.graph.nodes.length gc, .int .i64 x.steps, .slice ka x.kept.length kc, .int .i64 x.block, .int .i64 x.byte, .int .i64 x.xor] 41)).alloc (.cells #[.int .i64 0, .int .i64 0, .int .i64 0, .int .i64 0, .string ⟨#[]⟩, .int .i64 0, .slice none 0 0] 34)) w.heap.size 0 x ga gc ka kc ∧ V7 ((w.alloc (.cells #[.int .i64 x.op, .int .i64 x.graph.root.kind, .int .i64 x.graph.root.num, .string x.graph.root.text, .int .i64 x.graph.root.node, .slice ga x.graph.nodes.length gc, .int .i64 x.steps, .slice ka x.kept.length kc, .int .i64 x.block, .int .i64 x.byte, .int .i64 x.xor] 41)).alloc (.cells #[.int .i64 0, .int .i64 0, .int .i64 0, .int .i64 0, .string ⟨#[]⟩, .int .i64 0, .slice none 0 0] 34)) (w.heap.size + 1) (.int .i64 0) (.int .i64 0) (.int .i64 0) (.int .i64 0) (.string ⟨#[]⟩) (.int .i64 0) (.slice none 0 0) ∧ Below w.heap.size w ((w.alloc (.cells #[.int .i64 x.op, .int .i64 x.graph.root.kind, .int .i64 x.graph.root.num, .string x.graph.root.text, .int .i64 x.graph.root.node, .slice ga x.graph.nodes.length gc, .int .i64 x.steps, .slice ka x.kept.length kc, .int .i64 x.block, .int .i64 x.byte, .int .i64 x.xor] 41)).alloc (.cells #[.int .i64 0, .int .i64 0, .int .i64 0, .int .i64 0, .string ⟨#[]⟩, .int .i64 0, .slice none 0 0] 34)) ∧ ((w.alloc (.cells #[.int .i64 x.op, .int .i64 x.graph.root.kind, .int .i64 x.graph.root.num, .string x.graph.root.text, .int .i64 x.graph.root.node, .slice ga x.graph.nodes.length gc, .int .i64 x.steps, .slice ka x.kept.length kc, .int .i64 x.block, .int .i64 x.byte, .int .i64 x.xor] 41)).alloc (.cells #[.int .i64 0, .int .i64 0, .int .i64 0, .int .i64 0, .string ⟨#[]⟩, .int .i64 0, .slice none 0 0] 34)).heap.size = w.heap.size + 1 + 1 :=
 ⟨(ActAt.new_at w x ga gc ka kc 41 w.heap.size rfl).grow (gal (gre _) _), V7.new_at (w.alloc (.cells #[.int .i64 x.op, .int .i64 x.graph.root.kind, .int .i64 x.graph.root.num, .string x.graph.root.text, .int .i64 x.graph.root.node, .slice ga x.graph.nodes.length gc, .int .i64 x.steps, .slice ka x.kept.length kc, .int .i64 x.block, .int .i64 x.byte, .int .i64 x.xor] 41)) (.int .i64 0) (.int .i64 0) (.int .i64 0) (.int .i64 0) (.string ⟨#[]⟩) (.int .i64 0) (.slice none 0 0) 34 (w.heap.size + 1) (by simp), gal (gal (gre w) _) _, by simp⟩
theorem IDo.same {w w' : World} {C lo hi : Nat} {l : DL} {d : DD} {fa fb : Nat → Option Addr} {fc fe : Nat → Nat} {c g : Int} {v : Value} (hI : ID w C lo hi l d fa fb fc fe) (hb : Below w.heap.size w w') (hv : v = .tuple #[(TK.mk c g zeroG).val none 0, .nilIface] ∨ v = .tuple #[(TK.mk 0 0 zeroG).val none 0, .iface 132 (.agg #[.int .i64 c, .int .i64 g])]) : IDo C lo hi (d, ⟨c, g, zeroG⟩) w (.returned v) w' :=
 ⟨v, none, 0, [], lo, hi, l, fa, fb, fc, fe, rfl, hv.elim (fun e => Or.inl e) (fun e => Or.inr ⟨rfl, rfl, rfl, e⟩), rfl, own_nil _ _, hI.grow hb, Or.inl ⟨rfl, rfl⟩, Kept.of_below hb _⟩
theorem IDo.laid {w w' : World} {C lo hi lo' hi' : Nat} {l : DL} {c : DD} {fa fb : Nat → Option Addr} {fc fe : Nat → Nat} {g : Int} (hI : ID w' C lo' hi' l c fa fb fc fe) (hl : w.heap.size ≤ lo') (hK : Kept (fun z => z = C ∨ (lo ≤ z ∧ z < hi)) w w') : IDo C lo hi (c, ⟨0, g, zeroG⟩) w (.returned (.tuple #[(TK.mk 0 g zeroG).val none 0, .nilIface])) w' :=
 ⟨.tuple #[(TK.mk 0 g zeroG).val none 0, .nilIface], none, 0, [], lo', hi', l, fa, fb, fc, fe, rfl, Or.inl rfl, rfl, own_nil _ _, hI, Or.inr ⟨hl, rfl, rfl⟩, hK⟩
theorem bare1 {x : AC} (h : x.op = 1) : x.okA = (AC.mk x.op zeroG x.steps x.kept x.block x.byte x.xor).bare := by
 unfold AC.okA AC.bare
 simp [h, zeroG, GV.nul, Bool.and_assoc]
theorem bare3 {x : AC} (h : x.op = 3) : x.okA = x.bare := by
 unfold AC.okA AC.bare
 simp [h]
 cases x.graph.root.nul <;> cases decide (x.graph.nodes = []) <;> simp [Bool.and_assoc]
theorem bare2 {x : AC} (h : x.op = 2) : x.okA = ((AC.mk x.op zeroG 0 [] x.block x.byte x.xor).bare && decide (0 ≤ x.steps) && decide (x.steps ≤ 200) && decide (x.kept.length ≤ 200)) := by
 unfold AC.okA AC.bare
 simp [h, zeroG, GV.nul]
 cases decide (0 ≤ x.steps) <;> cases decide (x.steps ≤ 200) <;> cases decide (x.kept.length ≤ 200) <;> simp
theorem bare4 {x : AC} (h : x.op = 4) : x.okA = ((AC.mk x.op x.graph x.steps x.kept 0 0 0).bare && (decide (0 ≤ x.block) && decide (x.block < 130)) && decide (0 ≤ x.byte) && decide (x.byte < 64) && decide (1 ≤ x.xor) && decide (x.xor ≤ 255)) := by
 unfold AC.okA AC.bare
 simp [h]
 cases x.graph.root.nul <;> cases decide (x.graph.nodes = []) <;> cases decide (x.steps = 0) <;> cases decide (x.kept = []) <;> simp [Bool.and_assoc]
theorem keep_any (C lo hi : Nat) (l : DL) (d : DD) (fa fb : Nat → Option Addr) (fc fe : Nat → Nat) (x : AC) (ga : Option Addr) (gc : Nat) (ka : Option Addr) (kc : Nat) (w : World) (hI : ID w C lo hi l d fa fb fc fe) (hG : GoodD d) (hg : x.graph.Ok) (hga : NodesAt w.heap.size w ga x.graph.nodes) (ho : Hid (x.op = 1)) : Calls Tryz.prog 73 #[.pointer (some ⟨C, 0, none⟩), x.val ga gc ka kc] w (IDo C lo hi (d.doA x) w) := by
 have hok := bare1 ho.out
 have hB := deed_boxes x ga gc ka kc w
 have hCl := hI.box.lt
 go_enter Tryz.func73, Tryz.ntmps73
 go_upto_region 1 with fail
 generalize (w.alloc (.cells #[.int .i64 x.op, .int .i64 x.graph.root.kind, .int .i64 x.graph.root.num, .string x.graph.root.text, .int .i64 x.graph.root.node, .slice ga x.graph.nodes.length gc, .int .i64 x.steps, .slice ka x.kept.length kc, .int .i64 x.block, .int .i64 x.byte, .int .i64 x.xor] 41)).alloc (.cells #[.int .i64 0, .int .i64 0, .int .i64 0, .int .i64 0, .string ⟨#[]⟩, .int .i64 0, .slice none 0 0] 34) = w1 at hB ⊢
 obtain ⟨hY, hT, hA, hs1⟩ := hB
 obtain ⟨p0, p1, p2, p3, p4, p5, p6, p7, p8, p9, p10⟩ := id hY
 simp only [Nat.zero_add] at p1 p2 p3 p4 p5 p6 p7 p8 p9 p10
 go_upto_region 3 with fail
 have hR := ActAt.new_at w1 (AC.mk x.op zeroG x.steps x.kept x.block x.byte x.xor) none 0 ka kc 41 (w.heap.size + 1 + 1) (by omega)
 have hA2 := gal (gre w1) (.cells #[.int .i64 x.op, .int .i64 0, .int .i64 0, .string ⟨#[]⟩, .int .i64 0, .slice none 0 0, .int .i64 x.steps, .slice ka x.kept.length kc, .int .i64 x.block, .int .i64 x.byte, .int .i64 x.xor] 41)
 have hRs : (w1.alloc (.cells #[.int .i64 x.op, .int .i64 0, .int .i64 0, .string ⟨#[]⟩, .int .i64 0, .slice none 0 0, .int .i64 x.steps, .slice ka x.kept.length kc, .int .i64 x.block, .int .i64 x.byte, .int .i64 x.xor] 41)).heap.size = w1.heap.size + 1 := by simp
 have hR' : ActAt (w1.alloc (.cells #[.int .i64 x.op, .int .i64 0, .int .i64 0, .string ⟨#[]⟩, .int .i64 0, .slice none 0 0, .int .i64 x.steps, .slice ka x.kept.length kc, .int .i64 x.block, .int .i64 x.byte, .int .i64 x.xor] 41)) (w.heap.size + 1 + 1) 0 (AC.mk x.op zeroG x.steps x.kept x.block x.byte x.xor) none 0 ka kc := hR
 clear hR
 generalize w1.alloc (.cells #[.int .i64 x.op, .int .i64 0, .int .i64 0, .string ⟨#[]⟩, .int .i64 0, .slice none 0 0, .int .i64 x.steps, .slice ka x.kept.length kc, .int .i64 x.block, .int .i64 x.byte, .int .i64 x.xor] 41) = w2 at hA2 hR' hRs ⊢
 clear p0 p1 p2 p3 p4 p5 p6 p7 p8 p9 p10
 obtain ⟨s0, s1, s2, s3, s4, s5, s6, s7, s8, s9, s10⟩ := id hR'
 simp only [Nat.zero_add, zeroG, List.length_nil] at s1 s2 s3 s4 s5 s6 s7 s8 s9 s10
 have hY2 := hY.grow hA2
 have hT2 := hT.grow hA2
 have hAB := gca hA hA2
 have hba := fun u => isBare_any (AC.mk x.op zeroG x.steps x.kept x.block x.byte x.xor) none 0 ka kc u
 rw [← hok] at hba
 have hdo : Hid (d.doA x = if x.okA = false then (d, ⟨4, 0, zeroG⟩) else if packB x.graph = [] then (d, ⟨5, 0, zeroG⟩) else (d.laidC x, ⟨0, (d.laidC x).newestOf.gen, zeroG⟩)) := by
  show _ = _
  unfold DD.doA
  rw [if_neg (show ¬ x.op = 3 by rw [ho.out]; decide), if_neg (show ¬ x.op = 4 by rw [ho.out]; decide)]
 cases hk : x.okA with
 | false =>
  have hr0 := hdo.out.trans (if_pos hk)
  have hr : Hid _ := hr0
  clear hr0
  rw [hk] at hba
  clear hk
  go_upto_region 4 with (go_at_call 119; refine (hba _).mono ?_; rintro e w3 ⟨rfl, hb3⟩)
  have hT3 := hT2.grow hb3
  have hA3 := gca hAB hb3
  obtain ⟨_, r0, r1, r2, r3, r4, r5, r6, rf_⟩ := id hT3
  go_wp2
  obtain ⟨hV9, hK9⟩ := (hT3).put (.int .i64 0) (.int .i64 0) (.int .i64 0) (.int .i64 0) (.string ⟨#[]⟩) (.int .i64 0) (.slice none 0 0)
  generalize (((((((w3.setCell ⟨w.heap.size + 1, 0, none⟩ (.int .i64 0)).setCell ⟨w.heap.size + 1, 1, none⟩ (.int .i64 0)).setCell ⟨w.heap.size + 1, 2, none⟩ (.int .i64 0)).setCell ⟨w.heap.size + 1, 3, none⟩ (.int .i64 0)).setCell ⟨w.heap.size + 1, 4, none⟩ (.string ⟨#[]⟩)).setCell ⟨w.heap.size + 1, 5, none⟩ (.int .i64 0)).setCell ⟨w.heap.size + 1, 6, none⟩ (.slice none 0 0)) = w9 at hV9 hK9 ⊢
  obtain ⟨_, q0, q1, q2, q3, q4, q5, q6, _⟩ := id hV9
  exact bodyPost_ret (v := .tuple #[(TK.mk 0 0 zeroG).val none 0, .iface 132 (.agg #[.int .i64 4, .int .i64 0])]) (by simp [results, Tryz.results73, go_sem, q0, q1, q2, q3, q4, q5, q6, zeroG]) rfl (by rw [hr.out]; exact IDo.same hI (hA3.trans (hK9.below hA3.size (fun z hz e => by omega))) (Or.inr rfl))
 | true =>
  have hr1 := hdo.out.trans (if_neg (by rw [hk]; decide))
  rw [hk] at hba
  clear hk
  by_cases hp : packB x.graph = []
  ·
   have hr0 := hr1.trans (if_pos hp)
   have hr : Hid _ := hr0
   clear hr0
   have hp' : Hid _ := hp
   clear hp hr1
   go_upto_region 7 with (first
    | (go_at_call 119; refine (hba _).mono ?_; rintro e w3 ⟨rfl, hb3⟩; obtain ⟨p0, p1, p2, p3, p4, p5, p6, p7, p8, p9, p10⟩ := hY2.grow hb3; simp only [Nat.zero_add] at p1 p2 p3 p4 p5 p6 p7 p8 p9 p10)
    | (go_at_call 120; refine (layDown_no C lo hi l d fa fb fc fe x.graph ga gc 200 _ (hI.grow (gca hAB hb3)) hg (hga.grow (gca hAB hb3)) hp').mono ?_; rintro e w4 ⟨rfl, hb4⟩))
   have hT3 := (hT2.grow hb3).grow hb4
   have hA3 := gca (gca hAB hb3) hb4
   clear p0 p1 p2 p3 p4 p5 p6 p7 p8 p9 p10
   obtain ⟨_, r0, r1, r2, r3, r4, r5, r6, rf_⟩ := id hT3
   go_wp2
   obtain ⟨hV9, hK9⟩ := (hT3).put (.int .i64 0) (.int .i64 0) (.int .i64 0) (.int .i64 0) (.string ⟨#[]⟩) (.int .i64 0) (.slice none 0 0)
   generalize (((((((w4.setCell ⟨w.heap.size + 1, 0, none⟩ (.int .i64 0)).setCell ⟨w.heap.size + 1, 1, none⟩ (.int .i64 0)).setCell ⟨w.heap.size + 1, 2, none⟩ (.int .i64 0)).setCell ⟨w.heap.size + 1, 3, none⟩ (.int .i64 0)).setCell ⟨w.heap.size + 1, 4, none⟩ (.string ⟨#[]⟩)).setCell ⟨w.heap.size + 1, 5, none⟩ (.int .i64 0)).setCell ⟨w.heap.size + 1, 6, none⟩ (.slice none 0 0)) = w9 at hV9 hK9 ⊢
   obtain ⟨_, q0, q1, q2, q3, q4, q5, q6, _⟩ := id hV9
   exact bodyPost_ret (v := .tuple #[(TK.mk 0 0 zeroG).val none 0, .iface 132 (.agg #[.int .i64 5, .int .i64 0])]) (by simp [results, Tryz.results73, go_sem, q0, q1, q2, q3, q4, q5, q6, zeroG]) rfl (by rw [hr.out]; exact IDo.same hI (hA3.trans (hK9.below hA3.size (fun z hz e => by omega))) (Or.inr rfl))
  ·
   have hr0 := hr1.trans (if_neg hp)
   have hr : Hid _ := hr0
   clear hr0
   have hp' : Hid _ := hp
   clear hp hr1
   have hGc := laidC_good hG x
   have hce : Hid (d.laidS x.graph 200 = d.laidC x) := by show _ = _; rw [laidS_keep ho.out]; unfold DD.laidC; rw [if_neg (by rw [ho.out]; decide)]
   obtain ⟨c, hc⟩ := hid_ex (d.laidC x)
   rw [← hc.out] at hGc hce hr
   obtain ⟨k, hkn⟩ := hid_ex c.newestOf
   rw [← hkn.out] at hr
   go_upto_region 8 with (first
    | (go_at_call 119; refine (hba _).mono ?_; rintro e w3 ⟨rfl, hb3⟩; obtain ⟨p0, p1, p2, p3, p4, p5, p6, p7, p8, p9, p10⟩ := hY2.grow hb3; simp only [Nat.zero_add] at p1 p2 p3 p4 p5 p6 p7 p8 p9 p10)
    | (go_at_call 120; refine (layDown_yes C lo hi l d fa fb fc fe x.graph ga gc 200 _ (hI.grow (gca hAB hb3)) hG hg (hga.grow (gca hAB hb3)) hp' (by omega) (by omega)).mono ?_; rw [hce.out]; rintro e w4 ⟨lo4, hi4, l4, fa4, fb4, fc4, fe4, rfl, hI4, hlo4, hK4⟩))
   have hsAB := (gca hAB hb3).size
   have hs3 := hb3.size
   have hT4 := (hT2.grow hb3).kept hK4 (by omega)
   have hK0 : Kept (fun z => z = C ∨ (lo ≤ z ∧ z < hi)) w w4 := (Kept.of_below (gca hAB hb3) _).trans hK4 (fun _ _ e => Or.inl e)
   clear p0 p1 p2 p3 p4 p5 p6 p7 p8 p9 p10
   go_wp2_with (go_at_call 121; refine (newestGen_any C lo4 hi4 l4 c fa4 fb4 fc4 fe4 _ hI4 hGc).mono ?_; rw [← hkn.out]; rintro e w5 ⟨rfl, hb5⟩; obtain ⟨_, r0, r1, r2, r3, r4, r5, r6, rf_⟩ := hT4.grow hb5)
   have hT5 := hT4.grow hb5
   have hI5 := hI4.grow hb5
   have hK5 := hK0.trans (Kept.of_below hb5 (fun _ => False)) (fun _ _ e => e.elim)
   obtain ⟨hV9, hK9⟩ := (hT5).put (.int .i64 0) (.int .i64 k.gen) (.int .i64 zeroG.root.kind) (.int .i64 zeroG.root.num) (.string zeroG.root.text) (.int .i64 zeroG.root.node) (.slice none zeroG.nodes.length 0)
   have hK9' := (hK5).trans hK9 (fun z hz e => by omega)
   have hI9 := (hI5).kept hK9 (by omega) (fun z h1 h2 e => by omega)
   generalize (((((((w5.setCell ⟨w.heap.size + 1, 0, none⟩ (.int .i64 0)).setCell ⟨w.heap.size + 1, 1, none⟩ (.int .i64 k.gen)).setCell ⟨w.heap.size + 1, 2, none⟩ (.int .i64 zeroG.root.kind)).setCell ⟨w.heap.size + 1, 3, none⟩ (.int .i64 zeroG.root.num)).setCell ⟨w.heap.size + 1, 4, none⟩ (.string zeroG.root.text)).setCell ⟨w.heap.size + 1, 5, none⟩ (.int .i64 zeroG.root.node)).setCell ⟨w.heap.size + 1, 6, none⟩ (.slice none zeroG.nodes.length 0)) = w9 at hV9 hK9 hK9' hI9 ⊢
   obtain ⟨_, q0, q1, q2, q3, q4, q5, q6, _⟩ := id hV9
   exact bodyPost_ret (v := .tuple #[(TK.mk 0 k.gen zeroG).val none 0, .nilIface]) (by simp [results, Tryz.results73, go_sem, q0, q1, q2, q3, q4, q5, q6, zeroG]) rfl (by rw [hr.out]; exact IDo.laid hI9 (by omega) hK9')
end Go.Proofs.YtmdpmdmilgbfiaaGreatDoor
