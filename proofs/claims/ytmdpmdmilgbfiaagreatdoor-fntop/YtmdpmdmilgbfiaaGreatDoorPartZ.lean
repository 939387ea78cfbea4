import Derived.Deep.QuietTactic
import Derived.BigQuiet
import Derived.Deep.RegionHeld3
import Derived.Test.YtmdpmdmilgbfiaaGreatDoorPartX
import Derived.Test.YtmdpmdmilgbfiaaGreatDoorPartY
namespace Go.Proofs.YtmdpmdmilgbfiaaGreatDoor
open Go.RowKit
set_option maxRecDepth 100000
set_option maxHeartbeats 8000000
def SPl (ts : List TK) (w : World) (e : Ending) (w' : World) : Prop := ∃ oa oc lt, e = .returned (.slice oa ts.length oc) ∧ lt.map LT.t = ts ∧ ST w.heap.size w' oa oc lt ∧ Below w.heap.size w w'
theorem do_retV {w : World} {R T : Nat} {a b x0 x1 x2 x3 x4 x5 x6 : Value} (hR : VB w R a b) (hT : V7 w T x0 x1 x2 x3 x4 x5 x6) (hne : R ≠ T) (A B y0 y1 y2 y3 y4 y5 y6 : Value) : VB ((((((((((w.setCell ⟨R, 0, none⟩ (A)).setCell ⟨R, 1, none⟩ (B)).setCell ⟨T, 0, none⟩ (y0)).setCell ⟨T, 1, none⟩ (y1)).setCell ⟨T, 2, none⟩ (y2)).setCell ⟨T, 3, none⟩ (y3)).setCell ⟨T, 4, none⟩ (y4)).setCell ⟨T, 5, none⟩ (y5)).setCell ⟨T, 6, none⟩ (y6))) R A B := by
 have hK1 := (Kept.one w R 0 A).trans (Kept.one _ R 1 B) (fun _ _ e => e)
 exact ((hR.set0 A).set1 B).kept ((hT.kept hK1 (fun e => hne e.symm)).put y0 y1 y2 y3 y4 y5 y6).2 hne
theorem do_retD {w : World} {R T : Nat} {x0 x1 x2 x3 x4 x5 x6 : Value} (hR : IsD w R) (hT : V7 w T x0 x1 x2 x3 x4 x5 x6) (hne : R ≠ T) (A B y0 y1 y2 y3 y4 y5 y6 : Value) : IsD ((((((((((w.setCell ⟨R, 0, none⟩ (A)).setCell ⟨R, 1, none⟩ (B)).setCell ⟨T, 0, none⟩ (y0)).setCell ⟨T, 1, none⟩ (y1)).setCell ⟨T, 2, none⟩ (y2)).setCell ⟨T, 3, none⟩ (y3)).setCell ⟨T, 4, none⟩ (y4)).setCell ⟨T, 5, none⟩ (y5)).setCell ⟨T, 6, none⟩ (y6))) R := by
 have hK1 := (Kept.one w R 0 A).trans (Kept.one _ R 1 B) (fun _ _ e => e)
 exact IsD.kept (w := (w.setCell ⟨R, 0, none⟩ A).setCell ⟨R, 1, none⟩ B) (blk_setType (blk_setType hR)) ((hT.kept hK1 (fun e => hne e.symm)).put y0 y1 y2 y3 y4 y5 y6).2 hne
theorem ST.le {base base' : Nat} {w : World} {oa : Option Addr} {oc : Nat} {lt : List LT} (h : ST base w oa oc lt) (hb : base' ≤ base) : ST base' w oa oc lt := ⟨owns_le h.own hb, fun y hy => ⟨Nat.le_trans hb (h.rng y hy).1, (h.rng y hy).2⟩, h.row, h.nod⟩
theorem specPlay_any (a : Option Addr) (cap : Nat) (ls : List AC) (w : World) (hl : ls.length ≤ maxLen) (hv : ∀ v, v ∈ ls → v.Ok) (ha : ActsAt w a ls) :
  Calls Tryz.prog 8 #[.slice a ls.length cap] w (SPl (playA ls) w) := by
 unfold maxLen at hl
 by_cases h60 : ls.length ≤ 60
 ·
  have e : Hid (playA ls = ansN ls ls.length) := if_pos h60
  rw [e.out]
  have hg : ¬ ((60 : Int) < (ls.length : Int)) := by omega
  obtain ⟨i0, hi, hz0, hz1, hz2⟩ := info_parts info_taken
  go_enter Tryz.func8, Tryz.ntmps8
  go_upto_region 4 with (go_at_call 32; refine (specBlank_own _).mono ?_; rintro e w1 ⟨lb0, ba0, bc0, rfl, hm0, hS0, hb0⟩)
  have hV0 := VB.new w1 (.slice ba0 blankD.blocks.length bc0) (.slice none blankD.waiting.length 0) 46
  have hVd0 : IsD (w1.alloc (.cells #[.slice ba0 blankD.blocks.length bc0, .slice none blankD.waiting.length 0] 46)) w1.heap.size := ⟨_, blk_new_at _ _ _ rfl⟩
  have hSD0 : SD w.heap.size (w1.alloc (.cells #[.slice ba0 blankD.blocks.length bc0, .slice none blankD.waiting.length 0] 46)) ⟨ba0, bc0, none, 0⟩ blankD lb0 [] := ⟨hm0, rfl, hS0.grow (gal (gre w1) _), SW.nil _ _⟩
  have hA0 := gal hb0 (.cells #[.slice ba0 blankD.blocks.length bc0, .slice none blankD.waiting.length 0] 46)
  have hVw := hb0.size
  generalize w1.alloc (.cells #[.slice ba0 blankD.blocks.length bc0, .slice none blankD.waiting.length 0] 46) = w2 at hV0 hVd0 hSD0 hA0 ⊢
  generalize w1.heap.size = V at hV0 hVd0 hVw ⊢
  clear hm0 hS0 hb0
  go_wp2
  go_loopw [4, 14] (fun o i wr => ∃ (k : Nat) (oa : Option Addr) (oc : Nat) (lt : List LT) (l : DL) (lb : List LB) (lw : List LW), k ≤ ls.length ∧ i = .int .i64 k ∧ o = .slice oa lt.length oc ∧ Hid (lt.map LT.t = ansN ls k) ∧ Hid (lt.length = k) ∧ ST (V + 1) wr oa oc lt ∧ VB wr V (.slice l.ba (diskN ls k).blocks.length l.bc) (.slice l.wa (diskN ls k).waiting.length l.wc) ∧ IsD wr V ∧ SD w.heap.size wr l (diskN ls k) lb lw ∧ Below w.heap.size w wr) (fun _ i _ => ls.length - (intOf i).toNat)
  case atStart => exact ⟨0, none, 0, [], ⟨ba0, bc0, none, 0⟩, lb0, [], Nat.zero_le _, rfl, rfl, rfl, rfl, ST.nil _ _, hV0, hVd0, hSD0, hA0⟩
  case round =>
   obtain ⟨k, oa, oc, lt, l, lb, lw, hk, rfl, rfl, hlm, hll, hST, hV, hVd, hSD, hb⟩ := hrel
   clear hV0 hVd0 hSD0 hA0
   by_cases hlt : k < ls.length
   ·
    obtain ⟨x, b, off, ga, gc, ka, kc, hvk, hvm, rfl, hc, hn, hkk⟩ := (ha.grow hb).get hlt
    have i0' : (0 : Int) ≤ (k : Int) := by omega
    have i1' : (k : Int) < (ls.length : Int) := by omega
    obtain ⟨c0, c1, c2, c3, c4, c5, c6, c7, c8, c9, c10⟩ := id hc
    have hG := diskN_good ls k
    have hr0 : Hid (diskN ls (k + 1) = ((diskN ls k).doA x).1 ∧ ansN ls (k + 1) = ansN ls k ++ [((diskN ls k).doA x).2]) := ⟨by rw [hvk.out]; rfl, by rw [hvk.out]; rfl⟩
    obtain ⟨e, he⟩ := hid_ex (diskN ls k)
    rw [← he.out] at hV hSD hG hr0
    obtain ⟨r, hr⟩ := hid_ex (e.doA x)
    rw [← hr.out] at hr0
    obtain ⟨d3, t⟩ := r
    go_upto_region 9 with fail
    have hAl := gal (gal (gre wr) (.cells #[.int .i64 x.op, .int .i64 x.graph.root.kind, .int .i64 x.graph.root.num, .string x.graph.root.text, .int .i64 x.graph.root.node, .slice ga x.graph.nodes.length gc, .int .i64 x.steps, .slice ka x.kept.length kc, .int .i64 x.block, .int .i64 x.byte, .int .i64 x.xor] 41)) (.cells #[.int .i64 0, .int .i64 0, .int .i64 0, .int .i64 0, .string ⟨#[]⟩, .int .i64 0, .slice none 0 0] 34)
    have hY := (ActAt.new_at wr x ga gc ka kc 41 wr.heap.size rfl).grow (gal (gre _) (.cells #[.int .i64 0, .int .i64 0, .int .i64 0, .int .i64 0, .string ⟨#[]⟩, .int .i64 0, .slice none 0 0] 34))
    have hT := V7.new_at (wr.alloc (.cells #[.int .i64 x.op, .int .i64 x.graph.root.kind, .int .i64 x.graph.root.num, .string x.graph.root.text, .int .i64 x.graph.root.node, .slice ga x.graph.nodes.length gc, .int .i64 x.steps, .slice ka x.kept.length kc, .int .i64 x.block, .int .i64 x.byte, .int .i64 x.xor] 41)) (.int .i64 0) (.int .i64 0) (.int .i64 0) (.int .i64 0) (.string ⟨#[]⟩) (.int .i64 0) (.slice none 0 0) 34 (wr.heap.size + 1) (by simp)
    have hTd : IsTk ((wr.alloc (.cells #[.int .i64 x.op, .int .i64 x.graph.root.kind, .int .i64 x.graph.root.num, .string x.graph.root.text, .int .i64 x.graph.root.node, .slice ga x.graph.nodes.length gc, .int .i64 x.steps, .slice ka x.kept.length kc, .int .i64 x.block, .int .i64 x.byte, .int .i64 x.xor] 41)).alloc (.cells #[.int .i64 0, .int .i64 0, .int .i64 0, .int .i64 0, .string ⟨#[]⟩, .int .i64 0, .slice none 0 0] 34)) (wr.heap.size + 1) := ⟨_, blk_new_at _ _ _ (by simp)⟩
    have hs2 : ((wr.alloc (.cells #[.int .i64 x.op, .int .i64 x.graph.root.kind, .int .i64 x.graph.root.num, .string x.graph.root.text, .int .i64 x.graph.root.node, .slice ga x.graph.nodes.length gc, .int .i64 x.steps, .slice ka x.kept.length kc, .int .i64 x.block, .int .i64 x.byte, .int .i64 x.xor] 41)).alloc (.cells #[.int .i64 0, .int .i64 0, .int .i64 0, .int .i64 0, .string ⟨#[]⟩, .int .i64 0, .slice none 0 0] 34)).heap.size = wr.heap.size + 1 + 1 := by simp
    generalize (wr.alloc (.cells #[.int .i64 x.op, .int .i64 x.graph.root.kind, .int .i64 x.graph.root.num, .string x.graph.root.text, .int .i64 x.graph.root.node, .slice ga x.graph.nodes.length gc, .int .i64 x.steps, .slice ka x.kept.length kc, .int .i64 x.block, .int .i64 x.byte, .int .i64 x.xor] 41)).alloc (.cells #[.int .i64 0, .int .i64 0, .int .i64 0, .int .i64 0, .string ⟨#[]⟩, .int .i64 0, .slice none 0 0] 34) = wA at hAl hY hT hTd hs2 ⊢
    obtain ⟨T, hTe⟩ := hid_ex (wr.heap.size + 1)
    rw [← hTe.out] at hT hTd ⊢
    have hVA := hV.grow hAl
    have hVdA := hVd.grow hAl
    have hSDA := hSD.grow hAl
    have hSTA := hST.grow hAl
    have hbA := gca hb hAl
    have hnA := hn.grow hAl
    have hkA := hkk.grow hAl
    have hVlt := hV.lt
    have hTV : V ≠ T := by have := hTe.out; omega
    clear hV hVd hSD hb hn hkk hc c0 c1 c2 c3 c4 c5 c6 c7 c8 c9 c10
    obtain ⟨v0, v1, vf⟩ := id hVA
    obtain ⟨p0, p1, p2, p3, p4, p5, p6, p7, p8, p9, p10⟩ := id hY
    simp only [Nat.zero_add] at p1 p2 p3 p4 p5 p6 p7 p8 p9 p10
    have hdo := l5do_any w.heap.size e l lb lw x ga gc ka kc wA hbA.size hG hSDA (hv x hvm) hnA hkA
    rw [← hr.out] at hdo
    go_upto_region 10 with (go_at_call 33; refine hdo.mono ?_; rintro e' w3 ⟨lb3, lw3, l3, na, nc, rfl, hSD3, hN3, hb3⟩; obtain ⟨v0, v1, vf⟩ := hVA.grow hb3; obtain ⟨_, r0, r1, r2, r3, r4, r5, r6, rf_⟩ := hT.grow hb3)
    have hV3 := hVA.grow hb3
    have hT3 := hT.grow hb3
    have hVd3 := hVdA.grow hb3
    have hTd3 := hTd.grow hb3
    have hST3 := hSTA.grow hb3
    have hb3A := gca hbA hb3
    have hsz3 := hb3.size
    obtain ⟨q0', q1', hT4, hK4⟩ := do_ret hV3 hT3 hTV (.slice l3.ba d3.blocks.length l3.bc) (.slice l3.wa d3.waiting.length l3.wc) (.int .i64 t.code) (.int .i64 t.gen) (.int .i64 t.g.root.kind) (.int .i64 t.g.root.num) (.string t.g.root.text) (.int .i64 t.g.root.node) (.slice na t.g.nodes.length nc)
    have hV4 := do_retV hV3 hT3 hTV (.slice l3.ba d3.blocks.length l3.bc) (.slice l3.wa d3.waiting.length l3.wc) (.int .i64 t.code) (.int .i64 t.gen) (.int .i64 t.g.root.kind) (.int .i64 t.g.root.num) (.string t.g.root.text) (.int .i64 t.g.root.node) (.slice na t.g.nodes.length nc)
    have hSD4 := do_after hSD3 hK4 hVd3 hTd3
    have hVd4 : IsD ((((((((((w3.setCell ⟨V, 0, none⟩ (.slice l3.ba d3.blocks.length l3.bc)).setCell ⟨V, 1, none⟩ (.slice l3.wa d3.waiting.length l3.wc)).setCell ⟨T, 0, none⟩ (.int .i64 t.code)).setCell ⟨T, 1, none⟩ (.int .i64 t.gen)).setCell ⟨T, 2, none⟩ (.int .i64 t.g.root.kind)).setCell ⟨T, 3, none⟩ (.int .i64 t.g.root.num)).setCell ⟨T, 4, none⟩ (.string t.g.root.text)).setCell ⟨T, 5, none⟩ (.int .i64 t.g.root.node)).setCell ⟨T, 6, none⟩ (.slice na t.g.nodes.length nc))) V := do_retD hVd3 hT3 hTV (.slice l3.ba d3.blocks.length l3.bc) (.slice l3.wa d3.waiting.length l3.wc) (.int .i64 t.code) (.int .i64 t.gen) (.int .i64 t.g.root.kind) (.int .i64 t.g.root.num) (.string t.g.root.text) (.int .i64 t.g.root.node) (.slice na t.g.nodes.length nc)
    generalize (((((((((w3.setCell ⟨V, 0, none⟩ (.slice l3.ba d3.blocks.length l3.bc)).setCell ⟨V, 1, none⟩ (.slice l3.wa d3.waiting.length l3.wc)).setCell ⟨T, 0, none⟩ (.int .i64 t.code)).setCell ⟨T, 1, none⟩ (.int .i64 t.gen)).setCell ⟨T, 2, none⟩ (.int .i64 t.g.root.kind)).setCell ⟨T, 3, none⟩ (.int .i64 t.g.root.num)).setCell ⟨T, 4, none⟩ (.string t.g.root.text)).setCell ⟨T, 5, none⟩ (.int .i64 t.g.root.node)).setCell ⟨T, 6, none⟩ (.slice na t.g.nodes.length nc)) = w4 at q0' q1' hT4 hK4 hV4 hSD4 hVd4 ⊢
    have hrow : ∀ z, (Value.slice oa lt.length oc).ownBlock = some z → z < wr.heap.size ∧ V + 1 ≤ z := fun z hz => by
     obtain ⟨⟨c, hc⟩, h2⟩ := owns_isTk hST.own hz
     exact ⟨(Array.getElem?_eq_some_iff.1 hc).1, h2⟩
    have hST4 := hST3.kept hK4 (fun z hz e => by have := hrow z hz; have := hTe.out; omega) (fun y hy z e _ => by have := hST.rng y hy; have := hTe.out; omega)
    have hb4A := hb3A.trans (hK4.below hb3A.size (fun z hz e => by have := hb3A.size; have := hTe.out; have := hbA.size; omega))
    have hsz4 := hK4.size
    have hTl := hT3.lt
    obtain ⟨_, q0, q1, q2, q3, q4, q5, q6, _⟩ := id hT4
    have hlk := hll.out
    clear v0 v1 vf r0 r1 r2 r3 r4 r5 r6 rf_ p0 p1 p2 p3 p4 p5 p6 p7 p8 p9 p10
    have hB5 := gal (gre w4) (.cells #[.int .i64 t.code, .int .i64 t.gen, .int .i64 t.g.root.kind, .int .i64 t.g.root.num, .string t.g.root.text, .int .i64 t.g.root.node, .slice na t.g.nodes.length nc] 34)
    have hST5 := hST4.grow hB5
    have hSD5 := hSD4.grow hB5
    have hV5 := hV4.grow hB5
    have hVd5 := hVd4.grow hB5
    have hb5A := gca hb4A hB5
    have hs5 : (w4.alloc (.cells #[.int .i64 t.code, .int .i64 t.gen, .int .i64 t.g.root.kind, .int .i64 t.g.root.num, .string t.g.root.text, .int .i64 t.g.root.node, .slice na t.g.nodes.length nc] 34)).heap.size = w4.heap.size + 1 := by simp
    have hK5 : Kept (fun z => z < wA.heap.size) w3 (w4.alloc (.cells #[.int .i64 t.code, .int .i64 t.gen, .int .i64 t.g.root.kind, .int .i64 t.g.root.num, .string t.g.root.text, .int .i64 t.g.root.node, .slice na t.g.nodes.length nc] 34)) := ((hK4.mono (q := fun z => z < wA.heap.size) (fun z _ e => by have := hTe.out; omega)).alloc _)
    go_wp2_with (at_builtin; refine wpList_append_lies _ rfl (.tmp 25) (.tmp 27) 25 rfl (V + 1) 34 i0 _ 7 80 Tryz.underlying25 hi hz0 hz1 hz2 rfl (by decide) _ _ _ rfl hST5.own ⟨w4.heap.size, 0, none⟩ 1 1 [.int .i64 t.code, .int .i64 t.gen, .int .i64 t.g.root.kind, .int .i64 t.g.root.num, .string t.g.root.text, .int .i64 t.g.root.node, .slice na t.g.nodes.length nc] rfl rfl (World.news_of_block (cs := #[.int .i64 t.code, .int .i64 t.gen, .int .i64 t.g.root.kind, .int .i64 t.g.root.num, .string t.g.root.text, .int .i64 t.g.root.node, .slice na t.g.nodes.length nc]) (t := 34) (fr := (0, 0)) (blk_new_at _ _ _ rfl)) (by simp [Value.oneCell']) (by decide) (by unfold maxLen; omega) (by omega) (by omega) (w4.heap.size + 1) hs5 ?_; intro gg cc w6 hown6 hgrow6 hat6 hlt6)
    generalize w4.alloc (.cells #[.int .i64 t.code, .int .i64 t.gen, .int .i64 t.g.root.kind, .int .i64 t.g.root.num, .string t.g.root.text, .int .i64 t.g.root.node, .slice na t.g.nodes.length nc] 34) = w5 at hB5 hST5 hSD5 hV5 hVd5 hb5A hs5 hK5 hown6 hgrow6
    have K6 := Kept.of_grown hgrow6
    have hz6 : ∀ z, (Value.slice oa lt.length oc).ownBlock = some z → IsTk w5 z ∧ V + 1 ≤ z := fun z hz => owns_isTk hST5.own hz
    have hST6 := hST5.push (y := ⟨t, na, nc, [], wA.heap.size, w3.heap.size⟩) ⟨by show V + 1 ≤ wA.heap.size; omega, hsz3, by show w3.heap.size ≤ w5.heap.size; omega⟩ (fun z hz => Or.inl (by have := hrow z hz; show z < wA.heap.size; omega)) (fun w' k => hN3 w' (hK5.trans (k.mono (fun z hz e => e)) (fun z hz e => by rcases e with e | e; exact e; exact absurd hz (by show ¬ z < w3.heap.size; have : w3.heap.size ≤ z := e; omega)))) hown6 hgrow6 (by rw [hs5]; exact hat6)
    have hV6 := hV5.kept K6 (fun e => by have := (hz6 _ e).2; omega)
    have hVd6 := hVd5.kept K6 (fun e => by have := (hz6 _ e).2; omega)
    have hSD6 := hSD5.kept K6 (fun z e _ => (hz6 z e).1.noDisk)
    have hb6A := hb5A.trans (K6.below hb5A.size (fun z hz e => by have := (hz6 z e).2; omega))
    go_roundw
    case rel =>
     refine ⟨k + 1, some ⟨gg, 0, none⟩, cc, lt ++ [⟨t, na, nc, [], wA.heap.size, w3.heap.size⟩], l3, lb3, lw3, by omega, by go_num, by rw [List.length_append, hlk]; rfl, ?_, ?_, hST6, ?_, hVd6, ?_, hb6A⟩
     ·
      show _ = _
      rw [List.map_append, hlm.out, hr0.out.2]; rfl
     ·
      show _ = _
      rw [List.length_append, hlk]; rfl
     · rw [hr0.out.1]; exact hV6
     · rw [hr0.out.1]; exact hSD6
    case measure => simp [intOf]; omega
   ·
    obtain rfl : k = ls.length := by omega
    go_wp2
    go_ret
    exact ⟨oa, oc, lt, by show Ending.returned (Value.slice oa lt.length oc) = _; rw [ansN_length, hll.out], hlm.out, hST.le (by omega), hb⟩
 ·
  have e : Hid (playA ls = []) := if_neg h60
  rw [e.out]
  have hg : (60 : Int) < (ls.length : Int) := by omega
  go_enter Tryz.func8, Tryz.ntmps8
  go_wp2
  go_ret
  exact ⟨none, 0, [], rfl, rfl, ST.nil _ _, gre _⟩
structure IT (base : Nat) (w : World) (oa : Option Addr) (oc : Nat) (lt : List LT) : Prop where
 own : w.ownsRow base 34 7 (.slice oa lt.length oc) lt.length (tCells lt)
 rng : ∀ y, y ∈ lt → base ≤ y.lo ∧ y.lo ≤ y.hi ∧ y.hi ≤ w.heap.size
 row : ∀ y, y ∈ lt → ∀ z, (Value.slice oa lt.length oc).ownBlock = some z → z < y.lo ∨ y.hi ≤ z
 nod : ∀ y, y ∈ lt → y.nl.map (·.n) = y.t.g.nodes ∧ OwnG w y.lo y.a y.c y.nl ∧ ∀ b, Touch y.a y.nl.length (fun i => y.nl[i]!.a) b → b < y.hi
 far : lt.Pairwise fun y z => y.hi ≤ z.lo
theorem own_keptI {p : Nat → Prop} {w w' : World} {y : LT} (h : OwnG w y.lo y.a y.c y.nl) (ht : ∀ b, Touch y.a y.nl.length (fun i => y.nl[i]!.a) b → b < y.hi) (K : Kept p w w') (hp : ∀ z, y.lo ≤ z → z < y.hi → ¬ p z) : OwnG w' y.lo y.a y.c y.nl := by
 refine h.kept K (fun b e => ?_) (fun x hx b e => ?_)
 ·
  have hT : Touch y.a y.nl.length (fun i => y.nl[i]!.a) b := Or.inl e
  exact hp b (h.touch hT).1 (ht b hT)
 ·
  obtain ⟨i, hi, rfl⟩ := List.getElem_of_mem hx
  have hT : Touch y.a y.nl.length (fun i => y.nl[i]!.a) b := Or.inr ⟨i, hi, by show y.nl[i]!.a = _; rw [getElem!_pos y.nl i hi]; exact e⟩
  exact hp b (h.touch hT).1 (ht b hT)
theorem IT.nil (base : Nat) (w : World) : IT base w none 0 [] := ⟨owns_none _ _ _ _, fun y hy => (by cases hy), fun y hy => (by cases hy), fun y hy => (by cases hy), List.Pairwise.nil⟩
theorem IT.kept {p : Nat → Prop} {base : Nat} {w w' : World} {oa : Option Addr} {oc : Nat} {lt : List LT} (h : IT base w oa oc lt) (K : Kept p w w') (hr : ∀ z, (Value.slice oa lt.length oc).ownBlock = some z → ¬ p z) (hp : ∀ y, y ∈ lt → ∀ z, y.lo ≤ z → z < y.hi → ¬ p z) : IT base w' oa oc lt :=
 ⟨K.owns h.own hr, fun y hy => ⟨(h.rng y hy).1, (h.rng y hy).2.1, Nat.le_trans (h.rng y hy).2.2 K.size⟩, h.row, fun y hy => ⟨(h.nod y hy).1, own_keptI (h.nod y hy).2.1 (h.nod y hy).2.2 K (hp y hy), (h.nod y hy).2.2⟩, h.far⟩
theorem IT.grow {base : Nat} {w w' : World} {oa : Option Addr} {oc : Nat} {lt : List LT} (h : IT base w oa oc lt) (hb : Below w.heap.size w w') : IT base w' oa oc lt := h.kept (Kept.of_below hb (fun _ => False)) (fun _ _ e => e) (fun _ _ _ _ _ e => e)
theorem IT.le {base base' : Nat} {w : World} {oa : Option Addr} {oc : Nat} {lt : List LT} (h : IT base w oa oc lt) (hb : base' ≤ base) : IT base' w oa oc lt := ⟨owns_le h.own hb, fun y hy => ⟨Nat.le_trans hb (h.rng y hy).1, (h.rng y hy).2⟩, h.row, h.nod, h.far⟩
theorem IT.push {base : Nat} {w w5 : World} {oa : Option Addr} {oc : Nat} {lt : List LT} (h : IT base w oa oc lt) {y : LT} (hr : base ≤ y.lo ∧ y.lo ≤ y.hi ∧ y.hi ≤ w.heap.size) (ho : ∀ z, (Value.slice oa lt.length oc).ownBlock = some z → z < y.lo ∨ y.hi ≤ z) (hn : y.nl.map (·.n) = y.t.g.nodes ∧ OwnG w y.lo y.a y.c y.nl ∧ ∀ b, Touch y.a y.nl.length (fun i => y.nl[i]!.a) b → b < y.hi) (hf : ∀ x, x ∈ lt → x.hi ≤ y.lo) {gg cc : Nat}
  (hown : w5.ownsRow base 34 7 (.slice (some ⟨gg, 0, none⟩) (lt.length + 1) cc) (lt.length + 1) (tCells lt ++ y.cells)) (hgrow : w.grownBy w5 (Value.slice oa lt.length oc).ownBlock) (hat : (Value.slice oa lt.length oc).ownBlock = some gg ∨ gg = w.heap.size) : IT base w5 (some ⟨gg, 0, none⟩) cc (lt ++ [y]) := by
 have K := Kept.of_grown hgrow
 have hK : ∀ x, x ∈ lt ++ [y] → (base ≤ x.lo ∧ x.lo ≤ x.hi ∧ x.hi ≤ w.heap.size) ∧ (∀ z, (Value.slice oa lt.length oc).ownBlock = some z → z < x.lo ∨ x.hi ≤ z) ∧ (x.nl.map (·.n) = x.t.g.nodes ∧ OwnG w x.lo x.a x.c x.nl ∧ ∀ b, Touch x.a x.nl.length (fun i => x.nl[i]!.a) b → b < x.hi) := fun x hx => by
  rcases List.mem_append.1 hx with e | e
  · exact ⟨h.rng x e, h.row x e, h.nod x e⟩
  ·
   obtain rfl : x = y := by simpa using e
   exact ⟨hr, ho, hn⟩
 refine ⟨by rw [tCells_app, tCells_one, List.length_append]; exact hown, fun x hx => ?_, fun x hx z hz => ?_, fun x hx => ?_, ?_⟩
 ·
  obtain ⟨h1, _, _⟩ := hK x hx
  exact ⟨h1.1, h1.2.1, Nat.le_trans h1.2.2 K.size⟩
 ·
  obtain ⟨h1, h2, _⟩ := hK x hx
  have e : z = gg := by simpa [Value.ownBlock] using hz.symm
  subst e
  rcases hat with e | e
  · exact h2 z e
  · exact Or.inr (by omega)
 ·
  obtain ⟨_, h2, h3⟩ := hK x hx
  exact ⟨h3.1, own_keptI h3.2.1 h3.2.2 K (fun z a b e => by have := h2 z e; omega), h3.2.2⟩
 ·
  exact List.pairwise_append.2 ⟨h.far, List.pairwise_singleton _ _, fun x hx z hz => by
   obtain rfl : z = y := by simpa using hz
   exact hf x hx⟩
def IPl (ts : List TK) (w : World) (e : Ending) (w' : World) : Prop := ∃ oa oc lt, e = .returned (.slice oa ts.length oc) ∧ lt.map LT.t = ts ∧ IT w.heap.size w' oa oc lt ∧ Below w.heap.size w w'
structure PInv (w wr : World) (C : Nat) (d : DD) (oa : Option Addr) (oc : Nat) (lt : List LT) (lo hi : Nat) (l : DL) (fa fb : Nat → Option Addr) (fc fe : Nat → Nat) : Prop where
 id : ID wr C lo hi l d fa fb fc fe
 it : IT (C + 1) wr oa oc lt
 ap : ∀ y, y ∈ lt → y.hi ≤ lo ∨ hi ≤ y.lo
 ar : ∀ z, (Value.slice oa lt.length oc).ownBlock = some z → z < lo ∨ hi ≤ z
 bel : Below w.heap.size w wr
 low : w.heap.size ≤ lo
theorem implPlay_any (a : Option Addr) (cap : Nat) (ls : List AC) (w : World) (hl : ls.length ≤ maxLen) (hv : ∀ v, v ∈ ls → v.Ok) (ha : ActsAt w a ls) (hg : w.cell? ⟨0, 0, none⟩ = some (.iface 211 (.agg #[.pointer (some ⟨1, 80, none⟩)]))) :
  Calls Tryz.prog 9 #[.slice a ls.length cap] w (IPl (playA ls) w) := by
 unfold maxLen at hl
 have hg' : Hid _ := hg
 clear hg
 by_cases h60 : ls.length ≤ 60
 ·
  have e : Hid (playA ls = ansN ls ls.length) := if_pos h60
  rw [e.out]
  have hgt : ¬ ((60 : Int) < (ls.length : Int)) := by omega
  obtain ⟨i0, hi, hz0, hz1, hz2⟩ := info_parts info_taken
  go_enter Tryz.func9, Tryz.ntmps9
  go_upto_region 4 with (go_at_call 25; refine (implBlank_any _).mono ?_; rintro e w1 ⟨l0, fa0, fb0, fc0, fe0, rfl, hm0, hb0⟩)
  have hV0 := VB.new w1 (.slice l0.ba blankD.blocks.length l0.bc) (.slice l0.wa blankD.waiting.length l0.wc) 77
  have hA0 := gal hb0 (.cells #[.slice l0.ba blankD.blocks.length l0.bc, .slice l0.wa blankD.waiting.length l0.wc] 77)
  have hI0 : MD (w1.alloc (.cells #[.slice l0.ba blankD.blocks.length l0.bc, .slice l0.wa blankD.waiting.length l0.wc] 77)) w.heap.size w1.heap.size l0 blankD fa0 fb0 fc0 fe0 := hm0.grow (gal (gre w1) _)
  have hVw := hb0.size
  have hw2 : (w1.alloc (.cells #[.slice l0.ba blankD.blocks.length l0.bc, .slice l0.wa blankD.waiting.length l0.wc] 77)).heap.size = w1.heap.size + 1 := by simp
  generalize w1.alloc (.cells #[.slice l0.ba blankD.blocks.length l0.bc, .slice l0.wa blankD.waiting.length l0.wc] 77) = w2 at hV0 hI0 hA0 hw2 ⊢
  have hP0 : PInv w w2 w1.heap.size blankD none 0 [] w.heap.size w1.heap.size l0 fa0 fb0 fc0 fe0 := ⟨⟨hV0, hI0, Or.inr (Nat.le_refl _), by omega⟩, IT.nil _ _, fun y hy => (by cases hy), fun z hz => (by simp [Value.ownBlock] at hz), hA0, Nat.le_refl _⟩
  generalize w1.heap.size = C at hP0 hVw ⊢
  clear hV0 hI0 hA0 hm0 hb0 hw2
  go_wp2
  go_loopw [4, 14] (fun o i wr => ∃ (k : Nat) (oa : Option Addr) (oc : Nat) (lt : List LT) (lo hi : Nat) (l : DL) (fa fb : Nat → Option Addr) (fc fe : Nat → Nat), k ≤ ls.length ∧ i = .int .i64 k ∧ o = .slice oa lt.length oc ∧ Hid (lt.map LT.t = ansN ls k) ∧ Hid (lt.length = k) ∧ PInv w wr C (diskN ls k) oa oc lt lo hi l fa fb fc fe) (fun _ i _ => ls.length - (intOf i).toNat)
  case atStart => exact ⟨0, none, 0, [], _, _, l0, fa0, fb0, fc0, fe0, Nat.zero_le _, rfl, rfl, rfl, rfl, hP0⟩
  case round =>
   obtain ⟨k, oa, oc, lt, lo, hi', l, fa, fb, fc, fe, hk, rfl, rfl, hlm, hll, hP⟩ := hrel
   clear hP0
   by_cases hlt : k < ls.length
   ·
    obtain ⟨x, b, off, ga, gc, ka, kc, hvk, hvm, rfl, hc0, hn0, hkk0⟩ := ha.get hlt
    have hkC : ∀ b off, ka = some ⟨b, off, none⟩ → 0 < x.kept.length → b ≠ C := fun b off e h0 => by
     obtain ⟨b', off', e', hc'⟩ := hkk0 0 h0
     have h1 := World.block_lt_of_cell? _ _ hc'
     rw [e] at e'
     have h2 := congrArg (fun q => q.map Addr.block) e'
     simp at h1 h2
     omega
    have hc := hc0.grow hP.bel
    have i0' : (0 : Int) ≤ (k : Int) := by omega
    have i1' : (k : Int) < (ls.length : Int) := by omega
    obtain ⟨c0, c1, c2, c3, c4, c5, c6, c7, c8, c9, c10⟩ := id hc
    have hG := diskN_good ls k
    have hr0 : Hid (diskN ls (k + 1) = ((diskN ls k).doA x).1 ∧ ansN ls (k + 1) = ansN ls k ++ [((diskN ls k).doA x).2]) := ⟨by rw [hvk.out]; rfl, by rw [hvk.out]; rfl⟩
    obtain ⟨e, he⟩ := hid_ex (diskN ls k)
    rw [← he.out] at hP hG hr0
    obtain ⟨r, hr⟩ := hid_ex (e.doA x)
    rw [← hr.out] at hr0
    obtain ⟨d3, t⟩ := r
    go_upto_region 8 with fail
    have hAl := gal (gre wr) (.cells #[.int .i64 x.op, .int .i64 x.graph.root.kind, .int .i64 x.graph.root.num, .string x.graph.root.text, .int .i64 x.graph.root.node, .slice ga x.graph.nodes.length gc, .int .i64 x.steps, .slice ka x.kept.length kc, .int .i64 x.block, .int .i64 x.byte, .int .i64 x.xor] 41)
    have hY := ActAt.new_at wr x ga gc ka kc 41 wr.heap.size rfl
    have hs2 : (wr.alloc (.cells #[.int .i64 x.op, .int .i64 x.graph.root.kind, .int .i64 x.graph.root.num, .string x.graph.root.text, .int .i64 x.graph.root.node, .slice ga x.graph.nodes.length gc, .int .i64 x.steps, .slice ka x.kept.length kc, .int .i64 x.block, .int .i64 x.byte, .int .i64 x.xor] 41)).heap.size = wr.heap.size + 1 := by simp
    generalize wr.alloc (.cells #[.int .i64 x.op, .int .i64 x.graph.root.kind, .int .i64 x.graph.root.num, .string x.graph.root.text, .int .i64 x.graph.root.node, .slice ga x.graph.nodes.length gc, .int .i64 x.steps, .slice ka x.kept.length kc, .int .i64 x.block, .int .i64 x.byte, .int .i64 x.xor] 41) = wA at hAl hY hs2 ⊢
    have hIA := hP.id.grow hAl
    have hITA := hP.it.grow hAl
    have hbA := gca hP.bel hAl
    clear c0 c1 c2 c3 c4 c5 c6 c7 c8 c9 c10
    obtain ⟨p0, p1, p2, p3, p4, p5, p6, p7, p8, p9, p10⟩ := id hY
    simp only [Nat.zero_add] at p1 p2 p3 p4 p5 p6 p7 p8 p9 p10
    have hdo := do_any C lo hi' l e fa fb fc fe x ga gc ka kc wA hIA hG (hv x hvm) (hn0.grow hbA) (hkk0.grow hbA) hkC
    rw [← hr.out] at hdo
    have hCl := hP.id.box.lt
    have hiw := hP.id.hiw
    have hrow : ∀ z, (Value.slice oa lt.length oc).ownBlock = some z → z < wr.heap.size ∧ C + 1 ≤ z := fun z hz => by
     obtain ⟨⟨c, hc⟩, h2⟩ := owns_isTk hP.it.own hz
     exact ⟨(Array.getElem?_eq_some_iff.1 hc).1, h2⟩
    have hC0 : 0 < w.heap.size := by
     have := World.block_lt_of_cell? _ _ hg'.out
     simpa using this
    -- the act, and its answer
    have hboth : Calls Tryz.prog 35 #[.pointer (some ⟨C, 0, none⟩), x.val ga gc ka kc] wA fun e2 w2 => ∃ v na nc nl lo2 hi2 l2 fa2 fb2 fc2 fe2, e2 = .returned v ∧ AnsV t na nc v ∧ nl.map (·.n) = t.g.nodes ∧ OwnG w2 wA.heap.size na nc nl ∧ ID w2 C lo2 hi2 l2 d3 fa2 fb2 fc2 fe2 ∧ Hid ((lo2 = lo ∧ hi2 = hi') ∨ (wA.heap.size ≤ lo2 ∧ nl = [] ∧ na = none)) ∧ Kept (fun z => z = C ∨ (lo ≤ z ∧ z < hi')) wA w2 := hdo
    go_wp2_with (go_at_call 35; refine hboth.mono ?_; rintro e2 w2 ⟨v, na, nc, nl, lo2, hi2, l2, fa2, fb2, fc2, fe2, rfl, rfl | ⟨hz, rfl, rfl, rfl⟩, hnl, hO2, hI2, hlo2, hK2⟩)
    ·
     skip
     have hb2A : Below w.heap.size w w2 := hbA.trans (hK2.below hbA.size (fun z hz e => by have := hP.low; omega))
     have hs2A := hK2.size
     have hIT2 := hITA.kept hK2 (fun z hz e => by have := hrow z hz; have := hP.ar z hz; omega) (fun y hy z h1 h2 e => by have := hP.it.rng y hy; have := hP.ap y hy; omega)
     refine (answered_nil t na nc w2).mono ?_
     rintro e3 w3 ⟨rfl, hb3⟩
     have hIT3 := hIT2.grow hb3
     have hI3 := hI2.grow hb3
     have hb3A := gca hb2A hb3
     have hs3 := hb3.size
     have hO3 := hO2.kept (Kept.of_below hb3 (fun _ => False)) (fun _ _ e => e) (fun _ _ _ _ e => e)
     have hB4 := gal (gre w3) (.cells #[.int .i64 t.code, .int .i64 t.gen, .int .i64 t.g.root.kind, .int .i64 t.g.root.num, .string t.g.root.text, .int .i64 t.g.root.node, .slice na t.g.nodes.length nc] 34)
     have hIT4 := hIT3.grow hB4
     have hI4 := hI3.grow hB4
     have hb4A := gca hb3A hB4
     have hO4 := hO3.kept (Kept.of_below hB4 (fun _ => False)) (fun _ _ e => e) (fun _ _ _ _ e => e)
     have hs4 : (w3.alloc (.cells #[.int .i64 t.code, .int .i64 t.gen, .int .i64 t.g.root.kind, .int .i64 t.g.root.num, .string t.g.root.text, .int .i64 t.g.root.node, .slice na t.g.nodes.length nc] 34)).heap.size = w3.heap.size + 1 := by simp
     go_wp2_with (at_builtin; refine wpList_append_lies _ rfl (.tmp 18) (.tmp 24) 25 rfl (C + 1) 34 i0 _ 7 80 Tryz.underlying25 hi hz0 hz1 hz2 rfl (by decide) _ _ _ rfl hIT4.own ⟨w3.heap.size, 0, none⟩ 1 1 [.int .i64 t.code, .int .i64 t.gen, .int .i64 t.g.root.kind, .int .i64 t.g.root.num, .string t.g.root.text, .int .i64 t.g.root.node, .slice na t.g.nodes.length nc] rfl rfl (World.news_of_block (cs := #[.int .i64 t.code, .int .i64 t.gen, .int .i64 t.g.root.kind, .int .i64 t.g.root.num, .string t.g.root.text, .int .i64 t.g.root.node, .slice na t.g.nodes.length nc]) (t := 34) (fr := (0, 0)) (blk_new_at _ _ _ rfl)) (by simp [Value.oneCell']) (by decide) (by unfold maxLen; have := hll.out; omega) (by have := hll.out; omega) (by omega) (w3.heap.size + 1) hs4 ?_; intro gg cc w5 hown5 hgrow5 hat5 hlt5)
     generalize w3.alloc (.cells #[.int .i64 t.code, .int .i64 t.gen, .int .i64 t.g.root.kind, .int .i64 t.g.root.num, .string t.g.root.text, .int .i64 t.g.root.node, .slice na t.g.nodes.length nc] 34) = w4 at hB4 hIT4 hI4 hb4A hO4 hs4 hown5 hgrow5
     have hlk := hll.out
     have K5 := Kept.of_grown hgrow5
     have hz5 : ∀ z, (Value.slice oa lt.length oc).ownBlock = some z → z < wr.heap.size ∧ C + 1 ≤ z := hrow
     have hlo2' := hlo2.out
     have hb5A := hb4A.trans (K5.below hb4A.size (fun z hz e => by have := (hrow z e).2; omega))
     have hI5 := hI4.kept K5 (fun e => by have := (hrow _ e).2; omega) (fun z h1 h2 e => by have := hP.ar z e; have := hrow z e; omega)
     obtain ⟨H, hH⟩ : ∃ H, Hid (H = if nl = [] ∧ na = none then wA.heap.size else w2.heap.size) := ⟨_, rfl⟩
     have hH1 : wA.heap.size ≤ H ∧ H ≤ w2.heap.size := by rw [hH.out]; split <;> omega
     have hH2 : H ≤ lo2 ∨ hi2 ≤ wA.heap.size := by
      rcases hlo2' with e | e
      · exact Or.inr (by omega)
      · exact Or.inl (by rw [hH.out, if_pos e.2]; exact e.1)
     have hH3 : ∀ b, Touch na nl.length (fun i => nl[i]!.a) b → b < H := fun b hb => by
      have h1 := hO2.touch hb
      rw [hH.out]
      split
      ·
       rename_i e
       rcases hb with e2 | ⟨i, hi2, _⟩
       · rw [e.2] at e2; cases e2
       · rw [e.1] at hi2; exact absurd hi2 (Nat.not_lt_zero _)
      · exact h1.2
     have hIT5 := hIT4.push (y := ⟨t, na, nc, nl, wA.heap.size, H⟩) ⟨by show C + 1 ≤ wA.heap.size; omega, hH1.1, by show H ≤ w4.heap.size; omega⟩ (fun z hz => Or.inl (by have := hrow z hz; show z < wA.heap.size; omega)) ⟨hnl, hO4, hH3⟩ (fun y hy => by have := hP.it.rng y hy; show y.hi ≤ wA.heap.size; omega) hown5 hgrow5 (by rw [hs4]; exact hat5)
     have hap5 : ∀ y, y ∈ lt ++ [(⟨t, na, nc, nl, wA.heap.size, H⟩ : LT)] → y.hi ≤ lo2 ∨ hi2 ≤ y.lo := fun y hy => by
      rcases List.mem_append.1 hy with e | e
      ·
       have h1 := hP.ap y e
       have h2 := hP.it.rng y e
       omega
      ·
       obtain rfl : y = ⟨t, na, nc, nl, wA.heap.size, H⟩ := by simpa using e
       exact hH2
     have har5 : ∀ z, (Value.slice (some ⟨gg, 0, none⟩) (lt ++ [(⟨t, na, nc, nl, wA.heap.size, H⟩ : LT)]).length cc).ownBlock = some z → z < lo2 ∨ hi2 ≤ z := fun z hz => by
      have e : z = gg := by simpa [Value.ownBlock] using hz.symm
      subst e
      have h0 := hI2.hiw
      rcases hat5 with e | e
      ·
       have h1 := hP.ar z e
       have h2 := hrow z e
       omega
      · exact Or.inr (by omega)
     have hP5 : PInv w w5 C d3 (some ⟨gg, 0, none⟩) cc (lt ++ [⟨t, na, nc, nl, wA.heap.size, H⟩]) lo2 hi2 l2 fa2 fb2 fc2 fe2 := ⟨hI5, hIT5, hap5, har5, hb5A, by have := hP.low; have := hbA.size; rcases hlo2' with e | e <;> omega⟩
     go_roundw
     case rel =>
      refine ⟨k + 1, some ⟨gg, 0, none⟩, cc, lt ++ [⟨t, na, nc, nl, wA.heap.size, H⟩], lo2, hi2, l2, fa2, fb2, fc2, fe2, by omega, by go_num, by rw [List.length_append, hlk]; rfl, ?_, ?_, ?_⟩
      ·
       show _ = _
       rw [List.map_append, hlm.out, hr0.out.2]; rfl
      ·
       show _ = _
       rw [List.length_append, hlk]; rfl
      · rw [hr0.out.1]; exact hP5
     case measure => simp [intOf]; omega
    ·
     have hz' : Hid _ := hz
     clear hz
     have hb2A : Below w.heap.size w w2 := hbA.trans (hK2.below hbA.size (fun z hz e => by have := hP.low; omega))
     have hs2A := hK2.size
     have hIT2 := hITA.kept hK2 (fun z hz e => by have := hrow z hz; have := hP.ar z hz; omega) (fun y hy z h1 h2 e => by have := hP.it.rng y hy; have := hP.ap y hy; omega)
     have htz : Hid (TK.mk t.code t.gen zeroG = t) := by show _ = _; cases t; simp only [TK.mk.injEq, true_and]; exact hz'.out.symm
     have hah := answered_hit ⟨0, 0, zeroG⟩ none 0 t.code t.gen w2 (cell_later hb2A hg'.out)
     rw [htz.out] at hah
     refine hah.mono ?_
     rintro e3 w3 ⟨rfl, hb3⟩
     have hIT3 := hIT2.grow hb3
     have hI3 := hI2.grow hb3
     have hb3A := gca hb2A hb3
     have hs3 := hb3.size
     have hO3 := hO2.kept (Kept.of_below hb3 (fun _ => False)) (fun _ _ e => e) (fun _ _ _ _ e => e)
     have hB4 := gal (gre w3) (.cells #[.int .i64 t.code, .int .i64 t.gen, .int .i64 t.g.root.kind, .int .i64 t.g.root.num, .string t.g.root.text, .int .i64 t.g.root.node, .slice none t.g.nodes.length 0] 34)
     have hIT4 := hIT3.grow hB4
     have hI4 := hI3.grow hB4
     have hb4A := gca hb3A hB4
     have hO4 := hO3.kept (Kept.of_below hB4 (fun _ => False)) (fun _ _ e => e) (fun _ _ _ _ e => e)
     have hs4 : (w3.alloc (.cells #[.int .i64 t.code, .int .i64 t.gen, .int .i64 t.g.root.kind, .int .i64 t.g.root.num, .string t.g.root.text, .int .i64 t.g.root.node, .slice none t.g.nodes.length 0] 34)).heap.size = w3.heap.size + 1 := by simp
     go_wp2_with (at_builtin; refine wpList_append_lies _ rfl (.tmp 18) (.tmp 24) 25 rfl (C + 1) 34 i0 _ 7 80 Tryz.underlying25 hi hz0 hz1 hz2 rfl (by decide) _ _ _ rfl hIT4.own ⟨w3.heap.size, 0, none⟩ 1 1 [.int .i64 t.code, .int .i64 t.gen, .int .i64 t.g.root.kind, .int .i64 t.g.root.num, .string t.g.root.text, .int .i64 t.g.root.node, .slice none t.g.nodes.length 0] rfl rfl (World.news_of_block (cs := #[.int .i64 t.code, .int .i64 t.gen, .int .i64 t.g.root.kind, .int .i64 t.g.root.num, .string t.g.root.text, .int .i64 t.g.root.node, .slice none t.g.nodes.length 0]) (t := 34) (fr := (0, 0)) (blk_new_at _ _ _ rfl)) (by simp [Value.oneCell']) (by decide) (by unfold maxLen; have := hll.out; omega) (by have := hll.out; omega) (by omega) (w3.heap.size + 1) hs4 ?_; intro gg cc w5 hown5 hgrow5 hat5 hlt5)
     generalize w3.alloc (.cells #[.int .i64 t.code, .int .i64 t.gen, .int .i64 t.g.root.kind, .int .i64 t.g.root.num, .string t.g.root.text, .int .i64 t.g.root.node, .slice none t.g.nodes.length 0] 34) = w4 at hB4 hIT4 hI4 hb4A hO4 hs4 hown5 hgrow5
     have hlk := hll.out
     have K5 := Kept.of_grown hgrow5
     have hz5 : ∀ z, (Value.slice oa lt.length oc).ownBlock = some z → z < wr.heap.size ∧ C + 1 ≤ z := hrow
     have hlo2' := hlo2.out
     have hb5A := hb4A.trans (K5.below hb4A.size (fun z hz e => by have := (hrow z e).2; omega))
     have hI5 := hI4.kept K5 (fun e => by have := (hrow _ e).2; omega) (fun z h1 h2 e => by have := hP.ar z e; have := hrow z e; omega)
     obtain ⟨H, hH⟩ : ∃ H, Hid (H = if nl = [] ∧ (none : Option Addr) = none then wA.heap.size else w2.heap.size) := ⟨_, rfl⟩
     have hH1 : wA.heap.size ≤ H ∧ H ≤ w2.heap.size := by rw [hH.out]; split <;> omega
     have hH2 : H ≤ lo2 ∨ hi2 ≤ wA.heap.size := by
      rcases hlo2' with e | e
      · exact Or.inr (by omega)
      · exact Or.inl (by rw [hH.out, if_pos ⟨e.2.1, rfl⟩]; exact e.1)
     have hH3 : ∀ b, Touch none nl.length (fun i => nl[i]!.a) b → b < H := fun b hb => by
      have h1 := hO2.touch hb
      rw [hH.out]
      split
      ·
       rename_i e
       rcases hb with e2 | ⟨i, hi2, _⟩
       · rw [e.2] at e2; cases e2
       · rw [e.1] at hi2; exact absurd hi2 (Nat.not_lt_zero _)
      · exact h1.2
     have hIT5 := hIT4.push (y := ⟨t, none, 0, nl, wA.heap.size, H⟩) ⟨by show C + 1 ≤ wA.heap.size; omega, hH1.1, by show H ≤ w4.heap.size; omega⟩ (fun z hz => Or.inl (by have := hrow z hz; show z < wA.heap.size; omega)) ⟨hnl, hO4, hH3⟩ (fun y hy => by have := hP.it.rng y hy; show y.hi ≤ wA.heap.size; omega) hown5 hgrow5 (by rw [hs4]; exact hat5)
     have hap5 : ∀ y, y ∈ lt ++ [(⟨t, none, 0, nl, wA.heap.size, H⟩ : LT)] → y.hi ≤ lo2 ∨ hi2 ≤ y.lo := fun y hy => by
      rcases List.mem_append.1 hy with e | e
      ·
       have h1 := hP.ap y e
       have h2 := hP.it.rng y e
       omega
      ·
       obtain rfl : y = ⟨t, none, 0, nl, wA.heap.size, H⟩ := by simpa using e
       exact hH2
     have har5 : ∀ z, (Value.slice (some ⟨gg, 0, none⟩) (lt ++ [(⟨t, none, 0, nl, wA.heap.size, H⟩ : LT)]).length cc).ownBlock = some z → z < lo2 ∨ hi2 ≤ z := fun z hz => by
      have e : z = gg := by simpa [Value.ownBlock] using hz.symm
      subst e
      have h0 := hI2.hiw
      rcases hat5 with e | e
      ·
       have h1 := hP.ar z e
       have h2 := hrow z e
       omega
      · exact Or.inr (by omega)
     have hP5 : PInv w w5 C d3 (some ⟨gg, 0, none⟩) cc (lt ++ [⟨t, none, 0, nl, wA.heap.size, H⟩]) lo2 hi2 l2 fa2 fb2 fc2 fe2 := ⟨hI5, hIT5, hap5, har5, hb5A, by have := hP.low; have := hbA.size; rcases hlo2' with e | e <;> omega⟩
     go_roundw
     case rel =>
      refine ⟨k + 1, some ⟨gg, 0, none⟩, cc, lt ++ [⟨t, none, 0, nl, wA.heap.size, H⟩], lo2, hi2, l2, fa2, fb2, fc2, fe2, by omega, by go_num, by rw [List.length_append, hlk]; rfl, ?_, ?_, ?_⟩
      ·
       show _ = _
       rw [List.map_append, hlm.out, hr0.out.2]; rfl
      ·
       show _ = _
       rw [List.length_append, hlk]; rfl
      · rw [hr0.out.1]; exact hP5
     case measure => simp [intOf]; omega
   ·
    obtain rfl : k = ls.length := by omega
    go_wp2
    go_ret
    exact ⟨oa, oc, lt, by show Ending.returned (Value.slice oa lt.length oc) = _; rw [ansN_length, hll.out], hlm.out, hP.it.le (by omega), hP.bel⟩
 ·
  have e : Hid (playA ls = []) := if_neg h60
  rw [e.out]
  have hgt : (60 : Int) < (ls.length : Int) := by omega
  go_enter Tryz.func9, Tryz.ntmps9
  go_wp2
  go_ret
  exact ⟨none, 0, [], rfl, rfl, IT.nil _ _, gre _⟩
theorem DS.newP {w : World} {sa : Option Addr} {bs : List Nat} {cap : Nat} (t : Nat) (hb : BytesAt w sa bs) (hu : ∀ x, x ∈ bs → x < 256) (hl : bs.length ≤ maxLen) (hs : ∀ g off, sa = some ⟨g, off, none⟩ → g < w.heap.size) :
  DS (w.alloc (.cells #[.slice sa bs.length cap, .int .i64 0, .int .u64 0] t)) w.heap.size sa bs cap 0 := by
 refine ⟨⟨by simp, ?_, ?_, ⟨0, by decide, ?_⟩, fun o => ?_, hb.kept ((Kept.refl (fun _ => False) w).alloc _) (fun _ _ _ e => e), fun g off e => ?_, hu, hl, fun g off e => ?_⟩, ?_⟩
 · simp [go_sem]
 · simp [go_sem]
 · simp [go_sem]
 · simp
 · have := hs g off e; omega
 · have := hs g off e; simp; omega
 · simp [go_sem, seedF]
def DPl (xs : List AC) (w : World) (e : Ending) (w' : World) : Prop := ∃ (oa : Option Addr) (oc : Nat), e = .returned (.slice oa xs.length oc) ∧ xs.length ≤ 61 ∧ (∀ x, x ∈ xs → x.Ok) ∧ ActsAt w' oa xs ∧ Below w.heap.size w w'
theorem drawPlay_any (sa : Option Addr) (bs : List Nat) (cap : Nat) (w : World) (hb : BytesAt w sa bs) (hu : ∀ x, x ∈ bs → x < 256) (hl : bs.length ≤ maxLen) (hs : ∀ g off, sa = some ⟨g, off, none⟩ → g < w.heap.size) :
  Calls Tryz.prog 7 #[.slice sa bs.length cap] w (DPl (actsF bs 0).1 w) := by
 have hDS := DS.newP (w := w) (cap := cap) 72 hb hu hl hs
 have hKB : Kept (fun _ => False) w (w.alloc (.cells #[.slice sa bs.length cap, .int .i64 0, .int .u64 0] 72)) := (Kept.refl _ w).alloc _
 go_enter Tryz.func7, Tryz.ntmps7
 go_wp2_with (go_at_call 31; refine (f6acts_x w.heap.size sa bs cap 0 _ hDS (by omega)).mono ?_; rintro e w3 ⟨la, oa, oc, at', hE, rfl, hn, hO, hS, hk3⟩)
 go_ret
 have hm : (actsF bs 0).1 = la.map (·.x) := by rw [← hE.out]
 refine ⟨oa, oc, by rw [hm, List.length_map]; rfl, by rw [hm, List.length_map]; exact hn, fun x hx => ?_, by rw [hm]; exact hS.at_, (hKB.trans hk3.kept (fun k hk e => by omega)).below (Nat.le_refl _) (fun k hk e => e)⟩
 rw [hm] at hx
 obtain ⟨y, hy, rfl⟩ := List.mem_map.1 hx
 exact hO y hy
theorem IT.get_at {base : Nat} {w w' : World} {oa : Option Addr} {oc : Nat} {lt : List LT} {j : Nat} (h : IT base w oa oc lt) (K : Kept (fun z => ∃ m, m < j ∧ lt[m]!.lo ≤ z ∧ z < lt[m]!.hi) w w') (hj : j < lt.length) :
  ∃ (g off : Nat) (y : LT) (vs : List Value), Hid (y = lt[j]!) ∧ oa = some ⟨g, off, none⟩ ∧ g < w.heap.size ∧ TkAt w' g (off + j * 7) y.t y.a y.c ∧ NodesAt w'.heap.size w' y.a y.t.g.nodes ∧ w'.ownsRow y.lo 37 2 (.slice y.a y.t.g.nodes.length y.c) y.t.g.nodes.length vs ∧ base ≤ y.lo ∧ y.hi ≤ w.heap.size ∧ (g < y.lo ∨ y.hi ≤ g) ∧ ∀ z, (Value.slice y.a y.t.g.nodes.length y.c).ownBlock = some z → y.lo ≤ z ∧ z < y.hi := by
 have hm := mem_at hj
 obtain ⟨h1, h2, h3⟩ := h.nod _ hm
 have hr := h.rng _ hm
 have hO := own_keptI h2 h3 K (fun z e1 e2 ⟨m, hmj, e3, e4⟩ => by
  have hf := (List.pairwise_iff_getElem.1 h.far) m j (by omega) hj hmj
  rw [← getElem!_pos lt m (by omega), ← getElem!_pos lt j hj] at hf
  omega)
 have own := K.owns h.own (fun z hz ⟨m, hmj, e3, e4⟩ => by
  have := h.row _ (mem_at (show m < lt.length by omega)) z hz
  omega)
 obtain ⟨g, f, ha, hg1, _, hrw, hc, hf⟩ := owns_row own (by omega)
 have cell : ∀ k u, k < 7 → lt[j]!.cells[k]? = some u → w'.cell? ⟨g, 0 + j * 7 + k, none⟩ = some u := fun k u hk hu => by
  rw [Nat.zero_add, ← hf _ _ ((tCells_get lt j k hj hk).trans hu)]
  exact hrw.cell (by omega)
 have hob : (Value.slice oa lt.length oc).ownBlock = some g := by rw [ha]; rfl
 have hgl : g < w.heap.size := by
  obtain ⟨⟨c, hc⟩, _⟩ := owns_isTk h.own hob
  exact (Array.getElem?_eq_some_iff.1 hc).1
 have hn := hO.at_
 rw [h1] at hn
 have hl : lt[j]!.nl.length = lt[j]!.t.g.nodes.length := by rw [← h1, List.length_map]
 have hNo := hO.nodes
 rw [hl] at hNo
 exact ⟨g, 0, lt[j]!, _, rfl, ha, hgl, ⟨cell 0 _ (by omega) rfl, cell 1 _ (by omega) rfl, cell 2 _ (by omega) rfl, cell 3 _ (by omega) rfl, cell 4 _ (by omega) rfl, cell 5 _ (by omega) rfl, cell 6 _ (by omega) rfl⟩, hn, hNo, hr.1, hr.2.2, h.row _ hm g hob, fun z hz => by
  have hT : Touch lt[j]!.a lt[j]!.nl.length (fun i => lt[j]!.nl[i]!.a) z := Or.inl (owns_addr hNo hz)
  exact ⟨(hO.touch hT).1, h3 z hT⟩⟩
structure WBox (w : World) (p : Nat) (s : Value) : Prop where
 c4 : w.cell? ⟨p, 4, none⟩ = some s
theorem WBox.grow {w w' : World} {p : Nat} {s : Value} (h : WBox w p s) (hb : Below w.heap.size w w') : WBox w' p s := ⟨(World.cell?_of_block (w := w) (hb.block p (World.block_lt_of_cell? w ⟨p, 4, none⟩ h.c4))).trans h.c4⟩
theorem wGraph_same (a a' : Option Addr) (cap cap' : Nat) (g : GG) (w : World) (hg : g.Ok) (ha : NodesAt w.heap.size w a g.nodes) (ha' : NodesAt w.heap.size w a' g.nodes) :
  Calls Tryz.prog 11 #[g.val a cap, g.val a' cap'] w fun e w' => e = .returned (.bool true) ∧ Below w.heap.size w w' := by
 have hgl := hg.len
 unfold maxLen at hgl
 have hne : ((g.nodes.length : Int) != (g.nodes.length : Int)) = false := by simp
 have hA := gal (gal (gre w) (.cells #[.int .i64 g.root.kind, .int .i64 g.root.num, .string g.root.text, .int .i64 g.root.node, .slice a g.nodes.length cap] 32)) (.cells #[.int .i64 g.root.kind, .int .i64 g.root.num, .string g.root.text, .int .i64 g.root.node, .slice a' g.nodes.length cap'] 32)
 have hX0 : WBox ((w.alloc (.cells #[.int .i64 g.root.kind, .int .i64 g.root.num, .string g.root.text, .int .i64 g.root.node, .slice a g.nodes.length cap] 32)).alloc (.cells #[.int .i64 g.root.kind, .int .i64 g.root.num, .string g.root.text, .int .i64 g.root.node, .slice a' g.nodes.length cap'] 32)) w.heap.size (.slice a g.nodes.length cap) := WBox.grow ⟨by simp⟩ (gal (gre _) _)
 have hY0 : WBox ((w.alloc (.cells #[.int .i64 g.root.kind, .int .i64 g.root.num, .string g.root.text, .int .i64 g.root.node, .slice a g.nodes.length cap] 32)).alloc (.cells #[.int .i64 g.root.kind, .int .i64 g.root.num, .string g.root.text, .int .i64 g.root.node, .slice a' g.nodes.length cap'] 32)) (w.heap.size + 1) (.slice a' g.nodes.length cap') := by
  have e : (w.alloc (.cells #[.int .i64 g.root.kind, .int .i64 g.root.num, .string g.root.text, .int .i64 g.root.node, .slice a g.nodes.length cap] 32)).heap.size = w.heap.size + 1 := by simp
  rw [← e]; exact ⟨by simp⟩
 go_enter Tryz.func11, Tryz.ntmps11
 go_wp2
 generalize (w.alloc (.cells #[.int .i64 g.root.kind, .int .i64 g.root.num, .string g.root.text, .int .i64 g.root.node, .slice a g.nodes.length cap] 32)).alloc (.cells #[.int .i64 g.root.kind, .int .i64 g.root.num, .string g.root.text, .int .i64 g.root.node, .slice a' g.nodes.length cap'] 32) = wA at hA hX0 hY0 ⊢
 go_loopw [24] (fun i wr => ∃ k : Nat, k ≤ g.nodes.length ∧ i = .int .i64 k ∧ Below wA.heap.size wA wr) (fun i _ => g.nodes.length - (intOf i).toNat)
 case atStart => exact ⟨0, Nat.zero_le _, rfl, gre _⟩
 case round =>
  obtain ⟨k, hk, rfl, hb⟩ := hrel
  by_cases hlt : k < g.nodes.length
  ·
   have hB := gca hA hb
   obtain ⟨n, b, off, av, cv, hvk, hvm, rfl, hbs, hva⟩ := (ha.grow hB).get hlt
   obtain ⟨n', b', off', av', cv', hvk', hvm', rfl, hbs', hva'⟩ := (ha'.grow hB).get hlt
   obtain rfl : n' = n := by rw [hvk.out, hvk'.out]
   have x4 := (hX0.grow hb).c4
   have y4 := (hY0.grow hb).c4
   have c0 := hva.tag
   have c1 := hva.sl
   have d0 := hva'.tag
   have d1 := hva'.sl
   have hv1 := hva.vals
   have hv2 := hva'.vals
   have i0 : (0 : Int) ≤ (k : Int) := by omega
   have i1 : (k : Int) < (g.nodes.length : Int) := by omega
   have hnl := (hg.nodes n' hvm).len
   unfold maxLen at hnl
   have t1 : ((n'.tag : Int) != n'.tag) = false := by simp
   have t2 : ((n'.vals.length : Int) != (n'.vals.length : Int)) = false := by simp
   clear hva hva' hvk hvk' ha ha'
   go_wp2_with (go_quiet (fail))
   rename World => wB
   go_loopw [64] (fun i wr2 => ∃ j : Nat, j ≤ n'.vals.length ∧ i = .int .i64 j ∧ Below wB.heap.size wB wr2) (fun i _ => n'.vals.length - (intOf i).toNat)
   case atStart => exact ⟨0, Nat.zero_le _, rfl, by first | exact gre _ | exact (gre wB).trans ⟨rfl, rfl, rfl, Nat.le_refl _, fun _ _ => rfl⟩⟩
   case round =>
    obtain ⟨j, hj, rfl, hb2⟩ := hrel
    by_cases hlt2 : j < n'.vals.length
    ·
     obtain ⟨v, vb, vo, hvj, hvm2, rfl, hvb, hvv⟩ := (hv1.grow hb2).get hlt2
     obtain ⟨v', vb', vo', hvj', hvm2', rfl, hvb', hvv'⟩ := (hv2.grow hb2).get hlt2
     obtain rfl : v' = v := by rw [hvj.out, hvj'.out]
     have c1' := cell_later hb2 c1
     have d1' := cell_later hb2 d1
     have x4' := cell_later hb2 x4
     have y4' := cell_later hb2 y4
     have e0 := hvv.kind
     have e1 := hvv.num
     have e2 := hvv.text
     have e3 := hvv.node
     have f0 := hvv'.kind
     have f1 := hvv'.num
     have f2 := hvv'.text
     have f3 := hvv'.node
     have j0 : (0 : Int) ≤ (j : Int) := by omega
     have j1 : (j : Int) < (n'.vals.length : Int) := by omega
     clear hvv hvv' hvj hvj' c0 c1 d0 d1 x4 y4 hv1 hv2
     go_wp2_with (go_quiet (fail))
     go_roundw
     case rel => exact ⟨j + 1, by omega, by go_num, by first | exact hb2 | exact hb2.trans ⟨rfl, rfl, rfl, Nat.le_refl _, fun _ _ => rfl⟩⟩
     case measure => simp [intOf]; omega
    ·
     go_wp2
     go_roundw
     case rel => exact ⟨k + 1, by omega, by go_num, gca hb hb2⟩
     case measure => simp [intOf]; omega
  ·
   go_wp2
   go_ret
   exact ⟨rfl, gca hA hb⟩
theorem wTaken_same (t : TK) (a a' : Option Addr) (cap cap' : Nat) (w : World) (hg : t.g.Ok) (ha : NodesAt w.heap.size w a t.g.nodes) (ha' : NodesAt w.heap.size w a' t.g.nodes) :
  Calls Tryz.prog 10 #[t.val a cap, t.val a' cap'] w fun e w' => e = .returned (.bool true) ∧ Below w.heap.size w w' := by
 have h1 : ((t.code : Int) == t.code) = true := by simp
 have h2 : ((t.gen : Int) == t.gen) = true := by simp
 have hA := gal (gal (gre w) (.cells #[.int .i64 t.code, .int .i64 t.gen, .int .i64 t.g.root.kind, .int .i64 t.g.root.num, .string t.g.root.text, .int .i64 t.g.root.node, .slice a t.g.nodes.length cap] 34)) (.cells #[.int .i64 t.code, .int .i64 t.gen, .int .i64 t.g.root.kind, .int .i64 t.g.root.num, .string t.g.root.text, .int .i64 t.g.root.node, .slice a' t.g.nodes.length cap'] 34)
 have hX := (V7.new_at w (.int .i64 t.code) (.int .i64 t.gen) (.int .i64 t.g.root.kind) (.int .i64 t.g.root.num) (.string t.g.root.text) (.int .i64 t.g.root.node) (.slice a t.g.nodes.length cap) 34 w.heap.size rfl).grow (gal (gre _) (.cells #[.int .i64 t.code, .int .i64 t.gen, .int .i64 t.g.root.kind, .int .i64 t.g.root.num, .string t.g.root.text, .int .i64 t.g.root.node, .slice a' t.g.nodes.length cap'] 34))
 have hY := V7.new_at (w.alloc (.cells #[.int .i64 t.code, .int .i64 t.gen, .int .i64 t.g.root.kind, .int .i64 t.g.root.num, .string t.g.root.text, .int .i64 t.g.root.node, .slice a t.g.nodes.length cap] 34)) (.int .i64 t.code) (.int .i64 t.gen) (.int .i64 t.g.root.kind) (.int .i64 t.g.root.num) (.string t.g.root.text) (.int .i64 t.g.root.node) (.slice a' t.g.nodes.length cap') 34 (w.heap.size + 1) (by simp)
 go_enter Tryz.func10, Tryz.ntmps10
 go_upto_region 1 with fail
 generalize (w.alloc (.cells #[.int .i64 t.code, .int .i64 t.gen, .int .i64 t.g.root.kind, .int .i64 t.g.root.num, .string t.g.root.text, .int .i64 t.g.root.node, .slice a t.g.nodes.length cap] 34)).alloc (.cells #[.int .i64 t.code, .int .i64 t.gen, .int .i64 t.g.root.kind, .int .i64 t.g.root.num, .string t.g.root.text, .int .i64 t.g.root.node, .slice a' t.g.nodes.length cap'] 34) = w1 at hA hX hY ⊢
 obtain ⟨_, x0, x1, x2, x3, x4, x5, x6, _⟩ := id hX
 obtain ⟨_, y0, y1, y2, y3, y4, y5, y6, _⟩ := id hY
 go_wp2_with (go_at_call 11; refine (wGraph_same a a' cap cap' t.g _ hg (ha.grow hA) (ha'.grow hA)).mono ?_; rintro e w2 ⟨rfl, hb2⟩)
 go_ret
 exact ⟨rfl, gca hA hb2⟩
end Go.Proofs.YtmdpmdmilgbfiaaGreatDoor
