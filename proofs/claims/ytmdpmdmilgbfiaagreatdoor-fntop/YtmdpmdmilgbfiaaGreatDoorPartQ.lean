import Derived.Deep.CutRange
import Derived.RangeFuncRecord
import Derived.RangeFuncNested
import Derived.RangeFuncBound
import Derived.RangeFuncCalls
import Derived.RangeFuncLeaves
import Derived.Shelf.Abstract
import Derived.WalkKit
import Derived.OwnWalkIn
import Derived.TacticsInMore
import Derived.LoopNIn
import Derived.LoopIn
import Derived.Test.YtmdpmdmilgbfiaaGreatDoorPartP
namespace Go.Proofs.YtmdpmdmilgbfiaaGreatDoor
open Go.RowKit
set_option maxRecDepth 100000
set_option maxHeartbeats 8000000
def DD.step (d : DD) (o : OP) : DD := if o.sync = true then d.settle keepAll else d.put o.block o.bytes
def applyN (d : DD) (ops : List OP) : Nat → Option DD
 | 0 => some d
 | j + 1 => (applyN d ops j).bind fun e => if (e.step ops[j]!).ok = true then some (e.step ops[j]!) else none
theorem applyN_yes {d e : DD} {ops : List OP} {j : Nat} (h : applyN d ops j = some e) (hk : (e.step ops[j]!).ok = true) : applyN d ops (j + 1) = some (e.step ops[j]!) := by
 show (applyN d ops j).bind _ = _
 rw [h]
 exact if_pos hk
theorem applyN_no {d e : DD} {ops : List OP} {j : Nat} (h : applyN d ops j = some e) (hk : (e.step ops[j]!).ok = false) : applyN d ops (j + 1) = none := by
 show (applyN d ops j).bind _ = _
 rw [h]
 exact if_neg (by rw [hk]; exact Bool.false_ne_true)
theorem applyN_none {d : DD} {ops : List OP} {j : Nat} (h : applyN d ops j = none) : ∀ k, applyN d ops (j + k) = none
 | 0 => h
 | k + 1 => by
  show (applyN d ops (j + k)).bind _ = _
  rw [applyN_none h k]
  rfl
theorem Fit.smallA {d : DD} (h : d.Fit) : d.Small := ⟨by have := h.bl; omega, fun b hb => by have := h.bb b hb; omega, by have := h.wl; omega, fun x hx => by have := (h.wb x hx).2.2; omega⟩
theorem settle_okA {d : DD} (hd : d.Ok) (hok : d.ok = true) (keep : Nat → Bool) : (d.settle keep).Ok := by
 have hf := DD.fit hok
 rw [settle_yes hok]
 exact ⟨by show (settleN _ _ _ _).length ≤ maxLen; rw [settleN_length]; exact hd.bl, settleN_all hd.bb hd.wb _ (Nat.le_refl _), Nat.zero_le _, fun x hx => (by cases hx), fun x hx => (by cases hx)⟩
theorem step_ok {d : DD} {o : OP} (hd : d.Ok) (hok : d.ok = true) (hb : I64 o.block) (hk : BOk o.bytes) : (d.step o).Ok := by
 unfold DD.step
 split
 · exact settle_okA hd hok _
 · exact (put_tame hd hb hk).1
def ApPost (d : DD) (ops : List OP) (n : Nat) (w : World) (e : Ending) (w' : World) : Prop :=
 ∃ (lb : List LB) (lw : List LW) (ba : Option Addr) (bc : Nat) (wa : Option Addr) (wc : Nat) (f : DD) (b : Bool), e = .returned (.tuple #[f.val ⟨ba, bc, wa, wc⟩, .bool b]) ∧ Hid (applyN d ops n = if b = true then some f else none) ∧ (b = true → f.ok = true ∧ f.Ok) ∧ lb.map (·.l) = f.blocks ∧ lw.map (·.x) = f.waiting ∧ SB w.heap.size w' ba bc lb ∧ SW w.heap.size w' wa wc lw ∧ Below w.heap.size w w'
theorem blk_setType {w : World} {V o t : Nat} {s : Value} (h : ∃ c, w.heap[V]? = some (.cells c t (0, 0))) : ∃ c, (w.setCell ⟨V, o, none⟩ s).heap[V]? = some (.cells c t (0, 0)) := by
 obtain ⟨c, hc⟩ := h
 obtain ⟨hlt, hk⟩ := Array.getElem?_eq_some_iff.1 hc
 refine ⟨c.setIfInBounds o s, ?_⟩
 show (w.heap.modify V _)[V]? = _
 rw [Array.getElem?_eq_getElem (by rw [Array.size_modify]; exact hlt), Array.getElem_modify_self, hk]
 rfl
structure ApM (w : World) (V R : Nat) (e : DD) (lb : List LB) (lw : List LW) (ba : Option Addr) (bc : Nat) (wa : Option Addr) (wc : Nat) (wr : World) : Prop where
 mb : lb.map (·.l) = e.blocks
 mw : lw.map (·.x) = e.waiting
 sb : SB w.heap.size wr ba bc lb
 sw : SW w.heap.size wr wa wc lw
 v : VB wr V (.slice ba e.blocks.length bc) (.slice wa e.waiting.length wc)
 vd : IsD wr V
 r : VB wr R (.slice none 0 0) (.slice none 0 0)
 rd : IsD wr R
 bel : Below w.heap.size w wr
theorem ApM.at_ {w : World} {V R : Nat} {e : DD} {lb : List LB} {lw : List LW} {ba : Option Addr} {bc : Nat} {wa : Option Addr} {wc : Nat} {wr : World} (h : ApM w V R e lb lw ba bc wa wc wr) : DAt wr ⟨ba, bc, wa, wc⟩ e := ⟨by rw [← h.mb]; exact h.sb.at_, by rw [← h.mw]; exact h.sw.at_⟩
theorem ApM.grow {w : World} {V R : Nat} {e : DD} {lb : List LB} {lw : List LW} {ba : Option Addr} {bc : Nat} {wa : Option Addr} {wc : Nat} {wr w' : World} (h : ApM w V R e lb lw ba bc wa wc wr) (hb : Below wr.heap.size wr w') : ApM w V R e lb lw ba bc wa wc w' :=
 ⟨h.mb, h.mw, h.sb.grow hb, h.sw.grow hb, h.v.grow hb, h.vd.grow hb, h.r.grow hb, h.rd.grow hb, gca h.bel hb⟩
theorem ApM.store {w : World} {V R : Nat} {e f : DD} {lb lb' : List LB} {lw lw' : List LW} {ba ba' : Option Addr} {bc bc' : Nat} {wa wa' : Option Addr} {wc wc' : Nat} {wr w2 : World} (h : ApM w V R e lb lw ba bc wa wc wr) (hVw : w.heap.size ≤ V) (hVR : R ≠ V) (mb : lb'.map (·.l) = f.blocks) (mw : lw'.map (·.x) = f.waiting) (sb : SB wr.heap.size w2 ba' bc' lb') (sw : SW wr.heap.size w2 wa' wc' lw') (hb : Below wr.heap.size wr w2) :
  ApM w V R f lb' lw' ba' bc' wa' wc' ((w2.setCell ⟨V, 0, none⟩ (.slice ba' f.blocks.length bc')).setCell ⟨V, 1, none⟩ (.slice wa' f.waiting.length wc')) := by
 have hD := h.vd.grow hb
 have hD1 : IsD (w2.setCell ⟨V, 0, none⟩ (.slice ba' f.blocks.length bc')) V := blk_setType hD
 have hle := h.bel.size
 refine ⟨mb, mw, ?_, ?_, ?_, blk_setType hD1, ?_, ((h.rd.grow hb).kept (Kept.one w2 V 0 _) hVR).kept (Kept.one _ V 1 _) hVR, ?_⟩
 · exact ((sb.le hle).kept (Kept.one w2 V 0 _) (fun z e _ => by subst e; exact ⟨not_S_of_D hD, not_B_of_D hD⟩)).kept (Kept.one _ V 1 _) (fun z e _ => by subst e; exact ⟨not_S_of_D hD1, not_B_of_D hD1⟩)
 · exact ((sw.le hle).kept (Kept.one w2 V 0 _) (fun z e _ => by subst e; exact ⟨not_W_of_D hD, not_B_of_D hD⟩)).kept (Kept.one _ V 1 _) (fun z e _ => by subst e; exact ⟨not_W_of_D hD1, not_B_of_D hD1⟩)
 · exact ((h.v.grow hb).set0 _).set1 _
 · exact ((h.r.grow hb).kept (Kept.one w2 V 0 _) hVR).kept (Kept.one _ V 1 _) hVR
 · exact gse (gse (gca h.bel hb) hVw _) hVw _
theorem l4apply_any (d : DD) (l : DL) (oa : Option Addr) (ops : List OP) (oc n : Nat) (m : Int) (w : World) (hm : m = (n : Int)) (hok : d.ok = true) (hd : d.Ok) (ha : DAt w l d) (hops : OpsOk ops) (hat : OpsAt w oa ops) (hn : n ≤ ops.length) :
  Calls Tryz.prog 70 #[d.val l, .slice oa ops.length oc, .int .i64 m] w (ApPost d ops n w) := by
 have hf := DD.fit hok
 have hsm := Fit.smallA hf
 have hol := hops.len
 unfold maxLen at hol
 have hX0 := DBox.new w d l 46
 have hA0 := gal (gal (gre w) (.cells #[.slice l.ba d.blocks.length l.bc, .slice l.wa d.waiting.length l.wc] 46)) (.cells #[.slice none 0 0, .slice none 0 0] 46)
 obtain ⟨_, x0, x1⟩ := hX0.grow (gal (gre _) (.cells #[.slice none 0 0, .slice none 0 0] 46))
 subst hm
 go_enter Tryz.func70, Tryz.ntmps70
 go_upto_region 2 with (go_at_call 68; refine (l3copy_any d l _ hsm (ha.grow hA0)).mono ?_; rintro e w1 ⟨lb, lw, ba, bc, wa, wc, rfl, hmb, hmw, hsb, hsw, hb1⟩)
 obtain ⟨V, hV⟩ := hid_ex w1.heap.size
 obtain ⟨R, hR⟩ := hid_ex (w.heap.size + 1)
 have hsz1 := hb1.size
 have hI0 : ApM w V R d lb lw ba bc wa wc (w1.alloc (.cells #[.slice ba d.blocks.length bc, .slice wa d.waiting.length wc] 46)) := by
  have hg := gal (gre w1) (.cells #[.slice ba d.blocks.length bc, .slice wa d.waiting.length wc] 46)
  refine ⟨hmb, hmw, (hsb.le hA0.size).grow hg, (hsw.le hA0.size).grow hg, by rw [hV.out]; exact VB.new w1 _ _ _, ⟨_, by rw [hV.out]; exact blk_new_at _ _ _ rfl⟩, ?_, ?_, gca (gca hA0 hb1) hg⟩
  ·
   rw [hR.out]
   exact ((VB.new_at _ (.slice none 0 0) (.slice none 0 0) 46 (w.heap.size + 1) (by simp)).grow hb1).grow hg
  ·
   rw [hR.out]
   exact (IsD.grow (w := (w.alloc (.cells #[.slice l.ba d.blocks.length l.bc, .slice l.wa d.waiting.length l.wc] 46)).alloc (.cells #[.slice none 0 0, .slice none 0 0] 46)) ⟨_, blk_new_at _ _ _ (by simp)⟩ hb1).grow hg
 have hVw : w.heap.size ≤ V := by rw [hV.out]; have := (gca hA0 hb1).size; omega
 have hVR : R ≠ V := by have := hV.out; have := hR.out; simp at hsz1; omega
 have hRw : w.heap.size ≤ R := by have := hR.out; omega
 rw [← hV.out, ← hR.out]
 generalize w1.alloc (.cells #[.slice ba d.blocks.length bc, .slice wa d.waiting.length wc] 46) = wS at hI0 ⊢
 clear hsb hsw hb1 x0 x1 hX0 hA0 hsz1 hV hR
 go_wp2
 go_loopw [9] (fun i wr => ∃ (j : Nat) (e : DD) (lb : List LB) (lw : List LW) (ba : Option Addr) (bc : Nat) (wa : Option Addr) (wc : Nat), j ≤ n ∧ i = .int .i64 (j : Int) ∧ Hid (applyN d ops j = some e) ∧ Hid (e.ok = true) ∧ e.Ok ∧ ApM w V R e lb lw ba bc wa wc wr) (fun i _ => n - (intOf i).toNat)
 case atStart => exact ⟨0, d, lb, lw, ba, bc, wa, wc, Nat.zero_le _, rfl, rfl, hok, hd, hI0⟩
 case round =>
  obtain ⟨j, e, lb, lw, ba, bc, wa, wc, hj, rfl, hap, hek, heO, hI⟩ := hrel
  by_cases hlt : j < n
  ·
   have hjn : (j : Int) < (n : Int) := by omega
   obtain ⟨x, b, off, a', cap', hxk, hxm, rfl, c0, c1, c2, hxa⟩ := (hat.grow hI.bel).get (k := j) (by omega)
   obtain ⟨v0, v1, vf⟩ := id hI.v
   have i0 : (0 : Int) ≤ (j : Int) := by omega
   have i1 : (j : Int) < (ops.length : Int) := by omega
   obtain ⟨f, hfe⟩ := hid_ex (e.step x)
   have hfO : f.Ok := by rw [hfe.out]; exact step_ok heO hek.out (hops.bl x hxm) (hops.by_ x hxm)
   go_upto_if 21 with fail
   go_cut [] from 21 to 39 (fun wx => ∃ (lb : List LB) (lw : List LW) (ba : Option Addr) (bc : Nat) (wa : Option Addr) (wc : Nat), ApM w V R f lb lw ba bc wa wc wx)
   case first =>
    cases hsy : x.sync with
    | true =>
     have hfs : Hid (e.settle keepAll = f) := by show _ = _; rw [hfe.out]; exact (if_pos hsy).symm
     rw [hsy] at c0
     go_wp2_with (go_at_call 113; refine (specSync_any e ⟨ba, bc, wa, wc⟩ _ heO hI.at_).mono ?_; rw [hfs.out]; rintro e2 w2 ⟨lb2, lw2, ba2, bc2, wa2, wc2, rfl, mb2, mw2, sb2, sw2, hb2⟩; obtain ⟨y0, y1, yf⟩ := hI.v.grow hb2)
     go_meet
     case rel => exact ⟨lb2, lw2, ba2, bc2, wa2, wc2, hI.store hVw hVR mb2 mw2 sb2 sw2 hb2⟩
    | false =>
     have hfs : Hid (e.put x.block x.bytes = f) := by show _ = _; rw [hfe.out]; exact (if_neg (by rw [hsy]; exact Bool.false_ne_true)).symm
     rw [hsy] at c0
     go_upto_region 7 with fail
     have hB : Below wr.heap.size wr wr.drew := gdr (gre _)
     have hId := hI.grow hB
     have hS0 : VB wr.drew V (.slice ba e.blocks.length bc) (.slice wa e.waiting.length wc) ∧ wr.drew.cell? ⟨b, off + j * 3 + 1, none⟩ = some (.int .i64 x.block) ∧ wr.drew.cell? ⟨b, off + j * 3 + 2, none⟩ = some (.slice a' x.bytes.length cap') := ⟨hId.v, c1, c2⟩
     have hxd := hxa.grow hB
     refine wp_regionU (fun u => VB u V (.slice ba e.blocks.length bc) (.slice wa e.waiting.length wc) ∧ u.cell? ⟨b, off + j * 3 + 1, none⟩ = some (.int .i64 x.block) ∧ u.cell? ⟨b, off + j * 3 + 2, none⟩ = some (.slice a' x.bytes.length cap')) 12 (by kernel_rfl) hS0 (fun _ => ?_)
     generalize wr.drew = wd at hId hS0 hxd hB ⊢
     refine anyU_tk (i := 0) rfl hS0 (fun u hSu => by obtain ⟨⟨s0, s1, sf⟩, t0, t1⟩ := hSu; go_simp <;> with_reducible rfl) ?_
     refine anyU_tk (i := 1) rfl hS0 (fun u hSu => by obtain ⟨⟨s0, s1, sf⟩, t0, t1⟩ := hSu; go_simp <;> with_reducible rfl) ?_
     refine anyU_tk (i := 2) rfl hS0 (fun u hSu => by obtain ⟨⟨s0, s1, sf⟩, t0, t1⟩ := hSu; go_simp <;> with_reducible rfl) ?_
     refine anyU_tk (i := 3) rfl hS0 (fun u hSu => by obtain ⟨⟨s0, s1, sf⟩, t0, t1⟩ := hSu; go_simp <;> with_reducible rfl) ?_
     refine anyU_tk (i := 4) rfl hS0 (fun u hSu => by obtain ⟨⟨s0, s1, sf⟩, t0, t1⟩ := hSu; go_simp <;> with_reducible rfl) ?_
     refine anyU_tk (i := 5) rfl hS0 (fun u hSu => by obtain ⟨⟨s0, s1, sf⟩, t0, t1⟩ := hSu; go_simp <;> with_reducible rfl) ?_
     refine anyU_tk (i := 6) rfl hS0 (fun u hSu => by obtain ⟨⟨s0, s1, sf⟩, t0, t1⟩ := hSu; go_simp <;> with_reducible rfl) ?_
     refine anyU_tk (i := 7) rfl hS0 (fun u hSu => by obtain ⟨⟨s0, s1, sf⟩, t0, t1⟩ := hSu; go_simp <;> with_reducible rfl) ?_
     refine anyU_tk (i := 8) rfl hS0 (fun u hSu => by obtain ⟨⟨s0, s1, sf⟩, t0, t1⟩ := hSu; go_simp <;> with_reducible rfl) ?_
     refine anyU_tk (i := 9) rfl hS0 (fun u hSu => by obtain ⟨⟨s0, s1, sf⟩, t0, t1⟩ := hSu; go_simp <;> with_reducible rfl) ?_
     refine anyU_tk (i := 10) rfl hS0 (fun u hSu => by obtain ⟨⟨s0, s1, sf⟩, t0, t1⟩ := hSu; go_simp <;> with_reducible rfl) ?_
     simp only [Act.put, List.getElem_toArray, List.getElem_cons_zero, List.getElem_cons_succ, List.setIfInBounds_toArray, List.set_cons_zero, List.set_cons_succ]
     refine anyU_one (i := 11) (by kernel_rfl) rfl (fun K hK => ?_)
     go_simp
     refine (specPut_any e ⟨ba, bc, wa, wc⟩ x.block a' x.bytes cap' _ heO hId.at_ (hops.bl x hxm) (hops.by_ x hxm).len hxd).mono ?_
     rw [hfs.out]
     rintro e2 w2 ⟨lb2, lw2, ba2, bc2, wa2, wc2, rfl, mb2, mw2, sb2, sw2, hb2⟩
     refine hK.out _ _ ⟨hS0.1.grow hb2, cell_later hb2 hS0.2.1, cell_later hb2 hS0.2.2⟩ ?_
     clear hK
     obtain ⟨y0, y1, yf⟩ := hId.v.grow hb2
     refine anyU_last (by kernel_rfl) rfl (by kernel_rfl) (fun K hK => ?_)
     go_simp
     refine hK.out _ _ ?_
     clear hK
     go_wp2
     go_meet
     case rel => exact ⟨lb2, lw2, ba2, bc2, wa2, wc2, hId.store hVw hVR mb2 mw2 sb2 sw2 hb2⟩
   case rest =>
    obtain ⟨lb2, lw2, ba2, bc2, wa2, wc2, hI2⟩ := hcut
    obtain ⟨y0, y1, yf⟩ := id hI2.v
    obtain ⟨z0, z1, zf⟩ := id hI2.r
    have hfst : Hid (f = e.step ops[j]!) := by show _ = _; rw [hfe.out, hxk.out]
    cases hfk : f.ok with
    | true =>
     have hfk' : Hid (f.ok = true) := hfk
     have hnx : Hid (applyN d ops (j + 1) = some f) := by
      show _ = _
      rw [hfst.out] at hfk ⊢
      exact applyN_yes hap.out hfk
     clear hfk
     go_wp2_with (go_at_call 30; refine (specDiskOk_any f ⟨ba2, bc2, wa2, wc2⟩ _ hfO hI2.at_).mono ?_; rw [hfk'.out]; rintro e2 w3 ⟨rfl, hb3⟩)
     go_roundw
     case rel => exact ⟨j + 1, f, lb2, lw2, ba2, bc2, wa2, wc2, by omega, by go_num, hnx.out, hfk'.out, hfO, hI2.grow hb3⟩
     case measure => simp [intOf]; omega
    | false =>
     have hfk' : Hid (f.ok = false) := hfk
     have hnx : Hid (applyN d ops (j + 1) = none) := by
      show _ = _
      rw [hfst.out] at hfk
      exact applyN_no hap.out hfk
     clear hfk
     go_upto_region 99 with (go_at_call 30; refine (specDiskOk_any f ⟨ba2, bc2, wa2, wc2⟩ _ hfO hI2.at_).mono ?_; rw [hfk'.out]; rintro e2 w3 ⟨rfl, hb3⟩; obtain ⟨p0, p1, pf⟩ := hI2.r.grow hb3)
     have hI3 := hI2.grow hb3
     have hnn : applyN d ops n = none := by
      have := applyN_none hnx.out (n - (j + 1))
      rw [show j + 1 + (n - (j + 1)) = n by omega] at this
      exact this
     obtain ⟨q0, q1, _⟩ := ((hI3.r).set0 (.slice none 0 0)).set1 (.slice none 0 0)
     refine bodyPost_ret (v := .tuple #[zeroD.val ⟨none, 0, none, 0⟩, .bool false]) (by simp [results, Tryz.results70, go_sem, q0, q1, zeroD]) rfl ⟨[], [], none, 0, none, 0, zeroD, false, rfl, ?_, (fun h => by cases h), rfl, rfl, SB.nil _ _, SW.nil _ _, gse (p := ⟨R, 1, none⟩) (gse (p := ⟨R, 0, none⟩) hI3.bel hRw _) hRw _⟩
     show _ = _
     rw [hnn]
     rfl
  ·
   obtain rfl : j = n := by omega
   have hjn : ¬ ((j : Int) < (j : Int)) := by omega
   obtain ⟨v0, v1, vf⟩ := id hI.v
   obtain ⟨z0, z1, zf⟩ := id hI.r
   go_upto_region 99 with fail
   obtain ⟨q0, q1, _⟩ := (hI.r.set0 (.slice ba e.blocks.length bc)).set1 (.slice wa e.waiting.length wc)
   have hK := (Kept.one wr R 0 (.slice ba e.blocks.length bc)).trans (Kept.one _ R 1 (.slice wa e.waiting.length wc)) (fun _ _ h => h)
   refine bodyPost_ret (v := .tuple #[e.val ⟨ba, bc, wa, wc⟩, .bool true]) (by simp [results, Tryz.results70, go_sem, q0, q1]) rfl ⟨lb, lw, ba, bc, wa, wc, e, true, rfl, ?_, fun _ => ⟨hek.out, heO⟩, hI.mb, hI.mw, hI.sb.kept hK (fun z h _ => by subst h; exact ⟨not_S_of_D hI.rd, not_B_of_D hI.rd⟩), hI.sw.kept hK (fun z h _ => by subst h; exact ⟨not_W_of_D hI.rd, not_B_of_D hI.rd⟩), gse (p := ⟨R, 1, none⟩) (gse (p := ⟨R, 0, none⟩) hI.bel hRw _) hRw _⟩
   show _ = _
   rw [hap.out]
   rfl
def OP.Good (o : OP) : Prop := o.sync = true ∨ wrOk ⟨o.block, o.bytes⟩ = true
theorem fit_okP {d : DD} (h : d.Fit) : d.ok = true := by
 unfold DD.ok
 simp only [Bool.and_eq_true, decide_eq_true_eq, List.all_eq_true]
 refine ⟨⟨⟨h.bl, h.wl⟩, fun b hb => by simpa [blOk] using h.bb b hb⟩, fun x hx => ?_⟩
 have := h.wb x hx
 simp only [wrOk, Bool.and_eq_true, decide_eq_true_eq]
 exact ⟨⟨this.1, this.2.1⟩, this.2.2⟩
theorem settle_okP {d : DD} (hok : d.ok = true) (keep : Nat → Bool) : (d.settle keep).ok = true ∧ (d.settle keep).waiting = [] := by
 have hf := DD.fit hok
 rw [settle_yes hok]
 exact ⟨fit_okP ⟨by show (settleN _ _ _ _).length = 130; rw [settleN_length]; exact hf.bl, Nat.zero_le _, settleN_all hf.bb (fun x hx => (hf.wb x hx).2.2) _ (Nat.le_refl _), fun x hx => (by cases hx)⟩, rfl⟩
theorem step_good {d : DD} {o : OP} (hok : d.ok = true) (hg : o.Good) (hw : d.waiting.length < 200) : (d.step o).ok = true ∧ (d.step o).waiting.length ≤ d.waiting.length + 1 ∧ (o.sync = true → (d.step o).waiting = []) := by
 unfold DD.step
 by_cases hs : o.sync = true
 ·
  rw [if_pos hs]
  obtain ⟨h1, h2⟩ := settle_okP hok keepAll
  exact ⟨h1, by rw [h2]; exact Nat.zero_le _, fun _ => h2⟩
 ·
  rw [if_neg hs]
  have hw2 := hg.resolve_left hs
  have hf := DD.fit hok
  rw [put_yes hok hw2 (by omega)]
  have hwr : 0 ≤ o.block ∧ o.block < 130 ∧ o.bytes.length = 64 := by
   simp only [wrOk, Bool.and_eq_true, decide_eq_true_eq] at hw2
   exact ⟨hw2.1.1, hw2.1.2, hw2.2⟩
  have hl : (d.waiting ++ [(⟨o.block, o.bytes⟩ : DW)]).length = d.waiting.length + 1 := by simp
  refine ⟨fit_okP ⟨hf.bl, by show (d.waiting ++ [(⟨o.block, o.bytes⟩ : DW)]).length ≤ 200; rw [hl]; omega, hf.bb, fun x hx => ?_⟩, by show (d.waiting ++ [(⟨o.block, o.bytes⟩ : DW)]).length ≤ _; rw [hl]; omega, fun e => absurd e hs⟩
  rcases List.mem_append.1 hx with e | e
  · exact hf.wb x e
  · rw [List.mem_singleton.1 e]; exact hwr
theorem applyN_good {d : DD} {ops : List OP} (hok : d.ok = true) (hg : ∀ o, o ∈ ops → o.Good) : ∀ j, j ≤ ops.length → d.waiting.length + j ≤ 200 → ∃ f, applyN d ops j = some f ∧ f.ok = true ∧ f.waiting.length ≤ d.waiting.length + j
 | 0, _, _ => ⟨d, rfl, hok, Nat.le_refl _⟩
 | j + 1, hj, hw => by
  obtain ⟨f, h1, h2, h3⟩ := applyN_good hok hg j (by omega) (by omega)
  obtain ⟨s1, s2, _⟩ := step_good h2 (hg ops[j]! (mem_at (by omega))) (by omega)
  exact ⟨_, applyN_yes h1 s1, s1, by omega⟩
theorem lay_good (d : DD) {im : List Nat} (hil : im.length ≤ 4096) : ∀ o, o ∈ d.lay im → o.Good := fun o ho => by
 have hs2 := d.newestOf.other_lt
 unfold DD.lay at ho
 split at ho
 · cases ho
 ·
  rcases List.mem_append.1 ho with e | e
  ·
   obtain ⟨i, hi, rfl⟩ := List.mem_map.1 e
   have hi2 := List.mem_range.1 hi
   have hn := nBlk_le hil
   refine Or.inr ?_
   simp only [wrOk, Bool.and_eq_true, decide_eq_true_eq, blkOf_len]
   unfold firstOf
   refine ⟨⟨by omega, by omega⟩, trivial⟩
  ·
   simp only [List.mem_cons, List.not_mem_nil, or_false] at e
   rcases e with rfl | rfl | rfl
   · exact Or.inl rfl
   ·
    refine Or.inr ?_
    have h1 : (0 : Int) ≤ (d.newestOf.other : Int) := by omega
    have h2 : (d.newestOf.other : Int) < 130 := by omega
    unfold headO wrOk
    rw [headB_length]
    simp only [decide_eq_true h1, decide_eq_true h2]
    rfl
   · exact Or.inl rfl
theorem lay_len (d : DD) {im : List Nat} (hil : im.length ≤ 4096) : (d.lay im).length ≤ 67 := by
 unfold DD.lay
 split
 · exact Nat.zero_le _
 ·
  have := nBlk_le hil
  rw [List.length_append, imgOps_len]
  simp
  omega
theorem lay_last (d : DD) {im : List Nat} (hne : d.lay im ≠ []) : ∃ r, d.lay im = r ++ [syncO] := by
 unfold DD.lay at hne ⊢
 split
 · rename_i h; rw [if_pos h] at hne; exact absurd rfl hne
 · exact ⟨imgOps d.newestOf.other im (nBlk im) ++ [syncO, headO d.newestOf im], by simp⟩
theorem lay_done {d f : DD} {im : List Nat} (hw : d.waiting = []) (hok : d.ok = true) (hil : im.length ≤ 4096) (h : applyN d (d.lay im) (d.lay im).length = some f) : f.waiting = [] := by
 by_cases hne : d.lay im = []
 ·
  rw [hne] at h
  obtain rfl : d = f := Option.some.inj h
  exact hw
 ·
  obtain ⟨r, hr⟩ := lay_last d hne
  have hg := lay_good d hil
  have hll := lay_len d hil
  have hl : (d.lay im).length = r.length + 1 := by rw [hr, List.length_append]; rfl
  obtain ⟨e, h1, h2, h3⟩ := applyN_good hok hg r.length (by omega) (by rw [hw]; simp; omega)
  have hlast : (d.lay im)[r.length]! = syncO := by rw [hr, getElem!_pos _ _ (by simp)]; simp
  have hw0 : e.waiting.length < 200 := by rw [hw] at h3; simp at h3; omega
  obtain ⟨s1, _, s3⟩ := step_good (o := (d.lay im)[r.length]!) h2 (by rw [hlast]; exact Or.inl rfl) hw0
  rw [hl] at h
  have := applyN_yes h1 s1
  rw [this] at h
  obtain rfl := Option.some.inj h
  exact s3 (by rw [hlast]; rfl)
theorem lay_opsOk (d : DD) {im : List Nat} (_hf : d.newestOf.gen ≤ 1000000000000 ∧ 0 ≤ d.newestOf.gen) (hib : ∀ x, x ∈ im → x < 256) (hil : im.length ≤ 4096) : OpsOk (d.lay im) := by
 have hs2 := d.newestOf.other_lt
 have hll := lay_len d hil
 refine ⟨by unfold maxLen; omega, fun o ho => ?_, fun o ho => ?_⟩
 ·
  rcases lay_good d hil o ho with h | h
  ·
   unfold DD.lay at ho
   split at ho
   · cases ho
   ·
    rcases List.mem_append.1 ho with e | e
    ·
     obtain ⟨i, _, rfl⟩ := List.mem_map.1 e
     cases h
    ·
     simp only [List.mem_cons, List.not_mem_nil, or_false] at e
     rcases e with rfl | rfl | rfl
     · unfold I64; show -9223372036854775808 ≤ (0 : Int) ∧ (0 : Int) < 9223372036854775808; omega
     · cases h
     · unfold I64; show -9223372036854775808 ≤ (0 : Int) ∧ (0 : Int) < 9223372036854775808; omega
  ·
   simp only [wrOk, Bool.and_eq_true, decide_eq_true_eq] at h
   unfold I64
   omega
 ·
  unfold DD.lay at ho
  split at ho
  · cases ho
  ·
   rcases List.mem_append.1 ho with e | e
   ·
    obtain ⟨i, _, rfl⟩ := List.mem_map.1 e
    exact ⟨by show (blkOf im i).length ≤ maxLen; rw [blkOf_len]; decide, blkOf_byte hib i⟩
   ·
    simp only [List.mem_cons, List.not_mem_nil, or_false] at e
    rcases e with rfl | rfl | rfl
    · exact ⟨Nat.zero_le _, fun x hx => by cases hx⟩
    ·
     refine ⟨by show (headB _ _ _).length ≤ maxLen; rw [headB_length]; decide, fun x hx => ?_⟩
     have hx : x ∈ headB (d.newestOf.gen + 1) (im.length : Int) (wrap64 (sumN im : Int)) := hx
     unfold headB at hx
     rcases List.mem_append.1 hx with e | e
     ·
      rcases List.mem_append.1 e with e | e
      · exact headN_byte _ _ _ x e
      · exact lowB_byte _ _ _ e
     · rw [List.eq_of_mem_replicate e]; decide
    · exact ⟨Nat.zero_le _, fun x hx => by cases hx⟩
theorem packB_lenK (g : GG) : (packB g).length ≤ 4096 := by
 unfold packB
 split
 · rename_i h; exact h.2
 · exact Nat.zero_le _
theorem packB_bytesK (g : GG) : ∀ x, x ∈ packB g → x < 256 := by
 unfold packB
 split
 · rename_i h; exact formB_bytes (canon_okG h.1)
 · intro x hx; cases hx
theorem mb_bytesK {w : World} {lo : Nat} {oa : Option Addr} {ys : List Nat} (h : MB w lo oa ys) : BytesAt w oa ys := by
 rcases h with rfl | ⟨G, n, rfl, _, hB⟩
 · exact fun i hi => absurd hi (Nat.not_lt_zero _)
 · exact brow_bytes hB
def IsT (t : TypeId) (w : World) (z : Nat) : Prop := ∃ c, w.heap[z]? = some (.cells c t (0, 0))
theorem IsT.lt {t : TypeId} {w : World} {z : Nat} (h : IsT t w z) : z < w.heap.size := let ⟨_, hc⟩ := h; (Array.getElem?_eq_some_iff.1 hc).1
theorem IsT.eq {t t' : TypeId} {w : World} {z : Nat} (h : IsT t w z) (h' : IsT t' w z) : t = t' := by
 obtain ⟨c, hc⟩ := h
 obtain ⟨c', hc'⟩ := h'
 rw [hc] at hc'
 injection hc' with e
 injection e
theorem owns_isT {w : World} {t : TypeId} {base size n cap : Nat} {a : Option Addr} {xs : List Value} (h : w.ownsRow base t size (.slice a n cap) n xs) {z : Nat} (hz : (Value.slice a n cap).ownBlock = some z) : IsT t w z ∧ base ≤ z := by
 have ha := owns_addr h hz
 rcases h.2 with ⟨e, _⟩ | ⟨g, cap', cur, hv, hb, hg, _⟩
 ·
  simp at e
  rw [e.1] at ha
  cases ha
 ·
  simp only [Value.slice.injEq] at hv
  rw [ha] at hv
  obtain rfl := some_addr hv.1
  exact ⟨⟨cur, hg⟩, hb⟩
theorem info_step : (Tryz.prog.info? 164).map (fun i => (i.zero, i.size, i.bytes)) = some (some .nilFunc, 1, 8) := by kernel_rfl
def stepV (V b : Nat) : Value := .func (.func 97) #[] #[.pointer (some ⟨b, 0, none⟩), .pointer (some ⟨V, 0, none⟩)]
def OBx (w : World) (b : Nat) (o : OP) (a : Option Addr) (c : Nat) : Prop := w.heap[b]? = some (.cells #[.bool o.sync, .int .i64 o.block, .slice a o.bytes.length c] 101 (0, 0))
def VBx (w : World) (V p : Nat) : Prop := w.heap[V]? = some (.cells #[.pointer (some ⟨p, 0, none⟩)] 102 (0, 0))
theorem OBx.isT {w : World} {b : Nat} {o : OP} {a : Option Addr} {c : Nat} (h : OBx w b o a c) : IsT 101 w b := ⟨_, h⟩
theorem VBx.isT {w : World} {V p : Nat} (h : VBx w V p) : IsT 102 w V := ⟨_, h⟩
structure Ready (w0 w : World) (base V p : Nat) (ops : List OP) (k : Nat) (sa : Option Addr) (sc : Nat) (obs : List Nat) : Prop where
 len : obs.length = k
 row : w.ownsRow base 164 1 (.slice sa k sc) k (obs.map (stepV V))
 ob : ∀ j, j < k → ∃ a c, OBx w obs[j]! ops[j]! a c ∧ BytesAt w0 a ops[j]!.bytes ∧ base ≤ obs[j]!
 v : VBx w V p
 bV : base ≤ V
theorem Ready.kept {q : Nat → Prop} {w0 w w' : World} {base V p : Nat} {ops : List OP} {k : Nat} {sa : Option Addr} {sc : Nat} {obs : List Nat} (h : Ready w0 w base V p ops k sa sc obs) (hK : Kept q w w') (h1 : ∀ z, base ≤ z → IsT 164 w z → ¬ q z) (h2 : ∀ z, base ≤ z → IsT 101 w z → ¬ q z) (h3 : ∀ z, base ≤ z → IsT 102 w z → ¬ q z) : Ready w0 w' base V p ops k sa sc obs :=
 ⟨h.len, hK.owns h.row (fun z hz => h1 z (owns_isT h.row hz).2 (owns_isT h.row hz).1), fun j hj => by
  obtain ⟨a, c, ho, hb, hl⟩ := h.ob j hj
  exact ⟨a, c, (hK.block _ ho.isT.lt (h2 _ hl ho.isT)).trans ho, hb, hl⟩, (hK.block _ h.v.isT.lt (h3 _ h.bV h.v.isT)).trans h.v, h.bV⟩
def StepsP (w0 : World) (p : Nat) (ops : List OP) (w : World) (e : Ending) (w' : World) : Prop :=
 ∃ sa sc V obs, e = .returned (.slice sa ops.length sc) ∧ Ready w0 w' w.heap.size V p ops ops.length sa sc obs ∧ Below w.heap.size w w'
theorem Ready.next {w0 w : World} {base V p : Nat} {ops : List OP} {k : Nat} {sa : Option Addr} {sc : Nat} {obs : List Nat} (h : Ready w0 w base V p ops k sa sc obs) {O : Nat} {a : Option Addr} {c : Nat} {x : OP} (hxe : x = ops[k]!) (ho : OBx w O x a c) (hb : BytesAt w0 a x.bytes) (hO : base ≤ O) {w' : World} {g cc : Nat}
  (hown : w'.ownsRow base 164 1 (.slice (some ⟨g, 0, none⟩) (k + 1) cc) (k + 1) (obs.map (stepV V) ++ [stepV V O])) (hg : w.grownBy w' (Value.slice sa k sc).ownBlock) : Ready w0 w' base V p ops (k + 1) (some ⟨g, 0, none⟩) cc (obs ++ [O]) := by
 subst hxe
 have hK := Kept.of_grown hg
 have hx : ∀ {t : TypeId} {z : Nat}, t ≠ 164 → IsT t w z → ¬ ((Value.slice sa k sc).ownBlock = some z) := fun ht hz e => ht (hz.eq (owns_isT h.row e).1)
 have key : ∀ j, j < k → (obs ++ [O])[j]! = obs[j]! := fun j hj => by
  have := h.len
  rw [getElem!_pos _ j (by simp; omega), getElem!_pos obs j (by omega), List.getElem_append_left]
 have keyk : (obs ++ [O])[k]! = O := by
  have := h.len
  rw [getElem!_pos _ k (by simp; omega), List.getElem_append_right (by omega)]
  simp
 refine ⟨by simp [h.len], by simpa using hown, fun j hj => ?_, (hK.block _ h.v.isT.lt (hx (by decide) h.v.isT)).trans h.v, h.bV⟩
 rcases Nat.lt_or_ge j k with hj' | hj'
 ·
  obtain ⟨a1, c1, ho1, hb1, hl1⟩ := h.ob j hj'
  rw [key j hj']
  exact ⟨a1, c1, (hK.block _ ho1.isT.lt (hx (by decide) ho1.isT)).trans ho1, hb1, hl1⟩
 ·
  obtain rfl : j = k := by omega
  rw [keyk]
  exact ⟨a, c, (hK.block _ ho.isT.lt (hx (by decide) ho.isT)).trans ho, hb, hO⟩
theorem steps_any (p : Nat) (oa : Option Addr) (oc : Nat) (ops : List OP) (w0 w : World) (hl : ops.length ≤ 1048576) (ha : OpsAt w0 oa ops) (hb0 : Below w0.heap.size w0 w) :
  Calls Tryz.prog 59 #[.pointer (some ⟨p, 0, none⟩), .slice oa ops.length oc] w (StepsP w0 p ops w) := by
 obtain ⟨i0, hi, hz0, hz1, hz2⟩ := info_parts info_step
 have hV0 : VBx (w.alloc (.cells #[.pointer (some ⟨p, 0, none⟩)] 102)) w.heap.size p := World.alloc_heap_new w _
 have hB0 := gal (gre w) (.cells #[.pointer (some ⟨p, 0, none⟩)] 102)
 obtain ⟨n, hn⟩ := hid_ex ops.length
 have hn2 : n ≤ 1048576 := by rw [hn.out]; exact hl
 rw [← hn.out]
 go_enter Tryz.func59, Tryz.ntmps59
 go_wp2
 go_loopw [10, 5] (fun i s wr => ∃ (k : Nat) (sa : Option Addr) (sc : Nat) (obs : List Nat), k ≤ n ∧ i = .int .i64 (k : Int) ∧ s = .slice sa k sc ∧ Ready w0 wr w.heap.size w.heap.size p ops k sa sc obs ∧ Below w.heap.size w wr) (fun i _ _ => n - (intOf i).toNat)
 case atStart => exact ⟨0, none, 0, [], Nat.zero_le _, rfl, rfl, ⟨rfl, ⟨rfl, Or.inl ⟨rfl, rfl⟩⟩, fun j hj => absurd hj (Nat.not_lt_zero _), hV0, Nat.le_refl _⟩, hB0⟩
 case round =>
  obtain ⟨k, sa, sc, obs, hk, rfl, rfl, hR, hB⟩ := hrel
  by_cases hlt : k < n
  ·
   have hki : (k : Int) < (n : Int) := by omega
   have hk0 : (0 : Int) ≤ (k : Int) := by omega
   obtain ⟨x, b, off, a', cap, hx, _, rfl, c0, c1, c2, hbx⟩ := ha.get (k := k) (by rw [← hn.out]; exact hlt)
   have hBw := gca hb0 hB
   have d0 := cell_later hBw c0
   have d1 := cell_later hBw c1
   have d2 := cell_later hBw c2
   have hO1 : OBx (wr.alloc (.cells #[.bool x.sync, .int .i64 x.block, .slice a' x.bytes.length cap] 101)) wr.heap.size x a' cap := World.alloc_heap_new wr _
   have hsz : w.heap.size ≤ wr.heap.size := hB.size
   have hB2 := gal (gal hB (.cells #[.bool x.sync, .int .i64 x.block, .slice a' x.bytes.length cap] 101)) (.cells #[stepV w.heap.size wr.heap.size] 164)
   have hR2 : Ready w0 ((wr.alloc (.cells #[.bool x.sync, .int .i64 x.block, .slice a' x.bytes.length cap] 101)).alloc (.cells #[stepV w.heap.size wr.heap.size] 164)) w.heap.size w.heap.size p ops k sa sc obs := hR.kept (((Kept.refl (fun _ => False) wr).alloc _).alloc _) (fun _ _ _ e => e) (fun _ _ _ e => e) (fun _ _ _ e => e)
   have hO2 : OBx ((wr.alloc (.cells #[.bool x.sync, .int .i64 x.block, .slice a' x.bytes.length cap] 101)).alloc (.cells #[stepV w.heap.size wr.heap.size] 164)) wr.heap.size x a' cap := (Below.heap_alloc _ _ _ (by simp)).trans hO1
   have hN2 : ((wr.alloc (.cells #[.bool x.sync, .int .i64 x.block, .slice a' x.bytes.length cap] 101)).alloc (.cells #[stepV w.heap.size wr.heap.size] 164)).heap[wr.heap.size + 1]? = some (.cells #[stepV w.heap.size wr.heap.size] 164 (0, 0)) := by have := World.alloc_heap_new (wr.alloc (.cells #[.bool x.sync, .int .i64 x.block, .slice a' x.bytes.length cap] 101)) (.cells #[stepV w.heap.size wr.heap.size] 164); rwa [World.size_alloc] at this
   go_wp2_with (at_builtin; refine wpList_append_lies _ rfl (.tmp 14) (.tmp 16) 114 rfl w.heap.size 164 i0 _ 1 8 Tryz.underlying114 hi hz0 hz1 hz2 rfl (by decide) _ _ _ rfl hR2.row ⟨wr.heap.size + 1, 0, none⟩ 1 1 [stepV w.heap.size wr.heap.size] rfl rfl (World.news_of_block (cs := #[stepV w.heap.size wr.heap.size]) (t := 164) (fr := (0, 0)) hN2) (by simp [stepV, Value.oneCell']) (by decide) (by unfold maxLen; omega) (by omega) (by simp; omega) (wr.heap.size + 2) (by simp) ?_; intro gg cc w8 hown8 hgrow8 hat8 hlt8)
   have hR3 := hR2.next hx.out hO2 hbx (by omega) hown8 hgrow8
   have hB3 : Below w.heap.size w w8 := hB2.trans ((Kept.of_grown hgrow8).below hB2.size (fun z hz e => by have := (owns_isT hR2.row e).2; omega))
   go_roundw
   case rel => exact ⟨k + 1, some ⟨gg, 0, none⟩, cc, _, by omega, by go_num, rfl, hR3, hB3⟩
   case measure => simp [intOf]; omega
  ·
   obtain rfl : k = n := by omega
   have hki : ¬ ((k : Int) < (k : Int)) := by omega
   go_wp2
   go_ret
   exact ⟨sa, sc, w.heap.size, obs, by rw [← hn.out]; rfl, by rw [← hn.out]; exact hR, hB⟩
theorem fit_okQ {d : DD} (h : d.Fit) : d.ok = true := by
 unfold DD.ok
 simp only [Bool.and_eq_true, decide_eq_true_eq, List.all_eq_true]
 refine ⟨⟨⟨h.bl, h.wl⟩, fun b hb => by simpa [blOk] using h.bb b hb⟩, fun x hx => ?_⟩
 obtain ⟨h1, h2, h3⟩ := h.wb x hx
 simp [wrOk, h1, h2, h3]
def Moved (p : Nat) (w w' : World) : Prop := Kept (fun z => z = p ∨ (p < z ∧ IsT 160 w z)) w w'
def OneP (e : DD) (o : OP) (p : Nat) (w : World) (r : Ending) (w' : World) : Prop :=
 ((e.step o).ok = true ∧ r = .returned (.bool true) ∧ (∃ pa pc kv, Dr w' p (e.step o).blocks pa pc (e.step o).waiting kv) ∧ Moved p w w') ∨ ((e.step o).ok = false ∧ r = .returned (.bool false) ∧ Below w.heap.size w w')
theorem one_any (O V p : Nat) (o : OP) (a : Option Addr) (c : Nat) (e : DD) (pa : Option Addr) (pc : Nat) (kv : Value) (w0 w : World) (hO : OBx w O o a c) (hV : VBx w V p) (hby : BytesAt w0 a o.bytes) (hw0 : w0.heap.size ≤ p) (hbw : BytesAt w a o.bytes) (hi : I64 o.block) (hbl : o.bytes.length ≤ maxLen) (hek : e.ok = true) (hDr : Dr w p e.blocks pa pc e.waiting kv) :
  Calls Tryz.prog 97 #[.pointer (some ⟨O, 0, none⟩), .pointer (some ⟨V, 0, none⟩)] w (OneP e o p w) := by
 have hf := DD.fit hek
 have c0 : w.cell? ⟨O, 0, none⟩ = some (.bool o.sync) := by simp [World.cell?, show w.heap[O]? = _ from hO]
 have c1 : w.cell? ⟨O, 1, none⟩ = some (.int .i64 o.block) := by simp [World.cell?, show w.heap[O]? = _ from hO]
 have c2 : w.cell? ⟨O, 2, none⟩ = some (.slice a o.bytes.length c) := by simp [World.cell?, show w.heap[O]? = _ from hO]
 have v0 : w.cell? ⟨V, 0, none⟩ = some (.pointer (some ⟨p, 0, none⟩)) := by simp [World.cell?, show w.heap[V]? = _ from hV]
 have hpend : ∀ z, (Value.slice pa e.waiting.length pc).ownBlock = some z → p < z ∧ IsT 160 w z := fun z hz => ⟨(owns_isT hDr.own hz).2, (owns_isT hDr.own hz).1⟩
 obtain ⟨sy, bk, by_⟩ := o
 cases sy with
 | true =>
  have hs : e.step ⟨true, bk, by_⟩ = ⟨settleN keepAll e.blocks e.waiting e.waiting.length, []⟩ := (if_pos rfl).trans (settle_yes hek keepAll)
  have hsk : (e.step ⟨true, bk, by_⟩).ok = true := by
   rw [hs]
   exact fit_okQ ⟨by show (settleN _ _ _ _).length = 130; rw [settleN_length]; exact hf.bl, Nat.zero_le _, settleN_all hf.bb (fun x hx => (hf.wb x hx).2.2) _ (Nat.le_refl _), fun x hx => (by cases hx)⟩
  have hs' : Hid _ := hs
  have hsk' : Hid _ := hsk
  clear hs hsk
  go_enter Tryz.func97, Tryz.ntmps97
  go_wp2_with (go_at_call 98; refine (syncK_any p e.blocks pa pc e.waiting kv w (by have := hf.wl; omega) (fun x hx => ⟨(hf.wb x hx).1, (hf.wb x hx).2.1⟩) hDr).mono ?_; rintro r w2 ⟨rfl, hD2, hK2⟩)
  go_ret
  exact Or.inl ⟨hsk'.out, rfl, ⟨none, 0, _, by rw [hs'.out]; exact hD2⟩, hK2.mono (fun _ _ e => Or.inl e)⟩
 | false =>
  have hs : e.step ⟨false, bk, by_⟩ = e.put bk by_ := if_neg (by simp)
  have hs' : Hid _ := hs
  clear hs
  cases hwr : wrOk ⟨bk, by_⟩ with
  | false =>
   have hz : (e.step ⟨false, bk, by_⟩).ok = false := by rw [hs'.out, put_no2 hwr]; rfl
   have hz' : Hid _ := hz
   have hwr' : Hid _ := hwr
   clear hz hwr
   go_enter Tryz.func97, Tryz.ntmps97
   go_wp2_with (go_at_call 99; refine (drvPut_no ⟨bk, by_⟩ a c p e.blocks pa pc e.waiting kv w hi hbl (by have := hf.wl; omega) (Or.inl hwr'.out) hDr).mono ?_; rintro r w2 ⟨rfl, hb2⟩)
   go_ret
   exact Or.inr ⟨hz'.out, rfl, hb2⟩
  | true =>
   have hwr' : Hid _ := hwr
   by_cases h200 : e.waiting.length = 200
   ·
    have hz : (e.step ⟨false, bk, by_⟩).ok = false := by rw [hs'.out, put_no3 h200]; rfl
    have hz' : Hid _ := hz
    have h200' : Hid _ := h200
    clear hz hwr h200
    go_enter Tryz.func97, Tryz.ntmps97
    go_wp2_with (go_at_call 99; refine (drvPut_no ⟨bk, by_⟩ a c p e.blocks pa pc e.waiting kv w hi hbl (by have := hf.wl; omega) (Or.inr h200'.out) hDr).mono ?_; rintro r w2 ⟨rfl, hb2⟩)
    go_ret
    exact Or.inr ⟨hz'.out, rfl, hb2⟩
   ·
    have hput : e.step ⟨false, bk, by_⟩ = ⟨e.blocks, e.waiting ++ [⟨bk, by_⟩]⟩ := hs'.out.trans (put_yes hek hwr h200)
    have hwr2 : 0 ≤ bk ∧ bk < 130 ∧ by_.length = 64 := by
     have h := hwr
     simp only [wrOk, Bool.and_eq_true, decide_eq_true_eq] at h
     exact ⟨h.1.1, h.1.2, h.2⟩
    have hyk : (e.step ⟨false, bk, by_⟩).ok = true := by
     rw [hput]
     refine fit_okQ ⟨hf.bl, ?_, hf.bb, fun x hx => ?_⟩
     ·
      show (e.waiting ++ [(⟨bk, by_⟩ : DW)]).length ≤ 200
      have := hf.wl
      simp
      omega
     ·
      rcases List.mem_append.1 hx with hx | hx
      · exact hf.wb x hx
      ·
       obtain rfl : x = ⟨bk, by_⟩ := by simpa using hx
       exact hwr2
    have hfar : ∀ b off, a = some ⟨b, off, none⟩ → b < p := fun b off ea => by
     obtain ⟨b1, off1, e1, hc1⟩ := hby 0 (by show 0 < by_.length; omega)
     rw [ea] at e1
     injection e1 with e1
     injection e1 with e1 e2
     subst e1
     have := World.block_lt_of_cell? _ _ hc1
     have h2 : b < w0.heap.size := this
     omega
    have hput' : Hid _ := hput
    have hyk' : Hid _ := hyk
    have h200' : Hid _ := h200
    clear hput hyk hwr h200 hwr2
    go_enter Tryz.func97, Tryz.ntmps97
    go_wp2_with (go_at_call 99; refine (drvPutK_yes ⟨bk, by_⟩ a c p e.blocks pa pc e.waiting kv w hi hbl hf.wl hwr'.out h200'.out hbw hfar hDr).mono ?_; rintro r w2 ⟨rfl, pa2, pc2, hD2, hK2⟩)
    go_ret
    exact Or.inl ⟨hyk'.out, rfl, ⟨pa2, pc2, kv, by rw [hput'.out]; exact hD2⟩, hK2.mono (fun z _ ez => ez.imp id (hpend z))⟩
open Go.RowKit Go.Shelf
attribute [local go_sem] Oper.semAt_some
def doPost (x : Bool) (sw : World → World) (W : World) : Exit → Act → World → Prop
 | .normal, _, W' => x = true ∧ W' = W
 | .ret, _, W' => x = false ∧ W' = sw W
 | _, _, _ => False
def RoundA (l D : Nat) (rd dn : Loop) (G : World → Prop) (sw : World → World) (x : Bool) (W : World) (e : Ending) (W' : World) : Prop :=
 W'.heap[D]? = some (.deferred (some [])) ∧
 ((x = true ∧ e = .returned (.bool true) ∧ G W' ∧ W'.heap[l]? = some (.loop rd) ∧ ∃ o, W' = (W.putObj l o).putObj l (.loop rd)) ∨
  (x = false ∧ e = .returned (.bool false) ∧ W'.heap[l]? = some (.loop dn) ∧ ∃ o, G (W.putObj l o) ∧ W' = (sw (W.putObj l o)).putObj l (.loop dn)))
theorem wpIn_range_do {P : Program} {n : Nat} {g : Operand} {ps : Array Tmp} {assign body : Code} {Q : Exit → Act → World → Prop} {a : Act} {w : World} (h1 : 1 ≤ n) {gf : Nat} {lb : Array Value} (hg : a.eval g = .func (.func gf) #[] lb) (eg : ∀ args w, (callFunc gf args).run P w = .ok (.enter gf args) w) (hps : ps.size = 1)
  (sw : World → World) (hsw : ∀ W, KeepsOthers W (sw W)) (G : World → Prop) (hG : ∀ W l r o, G W → W.heap[l]? = some (.loop r) → G (W.putObj l o)) (a₁ : Bool → Act)
  (hassign : ∀ (l : Nat) (x : Bool) (W : World) (K : Act → World → Prop), K (a₁ x) W →
   assign.wpIn (Fence.wide.inRound l) (n - 1 - 1) P (Exit.then K (fun _ _ _ => False)) { tmps := (ps.zip #[Value.bool x]).foldl (fun t (p, v) => t.setIfInBounds p v) a.tmps, defers := [] } W)
  (hbody : ∀ (l : Nat) (x : Bool) (W : World), G W → body.wpIn (Fence.wide.inRound l) (n - 1 - 1) P (doPost x sw W) (a₁ x) W)
  (Done Stop : World → Prop)
  (hseq : ∀ (rd dn : Loop), (∀ (x : Bool) (W : World), G W → W.heap[w.heap.size + 1]? = some (.loop rd) → W.heap[w.heap.size]? = some (.deferred (some [])) → YieldAt Fence.wide (n - 1 - 1) P (w.heap.size + 1) #[Value.bool x] W (RoundA (w.heap.size + 1) w.heap.size rd dn G sw x W)) →
   CallsIn Fence.wide (n - 1) P gf (#[.func (.yield (w.heap.size + 1)) #[] #[]] ++ lb) ((w.alloc (.deferred (some []))).alloc (.loop rd)) fun e W' => (∃ v, e = .returned v) ∧ W'.heap[w.heap.size]? = some (.deferred (some [])) ∧ ((Done W' ∧ W'.heap[w.heap.size + 1]? = some (.loop rd)) ∨ (Stop W' ∧ W'.heap[w.heap.size + 1]? = some (.loop dn))))
  (hdone : ∀ (W : World) (o : Obj), Done W → W.heap[w.heap.size]? = some (.deferred (some [])) → (∃ r, W.heap[w.heap.size + 1]? = some (.loop r)) → Q .normal { a with defers := { target := .collected w.heap.size, args := #[] } :: a.defers } (W.putObj (w.heap.size + 1) o))
  (hstop : ∀ (W : World) (o : Obj), Stop W → W.heap[w.heap.size]? = some (.deferred (some [])) → Code.ret.wpIn Fence.wide n P Q { a with defers := { target := .collected w.heap.size, args := #[] } :: a.defers } (W.putObj (w.heap.size + 1) o)) :
  (Code.rangeFunc g ps assign body).wpIn Fence.wide n P Q a w := by
 refine wpIn_rangeFunc ?_
 intro fn hfn
 rw [show Fence.wide.round = none from rfl]
 obtain ⟨rec, hrec⟩ : ∃ rec : LoopState → Option Code → Loop, rec = fun st pe => { state := st, pending := pe, fn, tmps := a.tmps, params := ps, assign, body, defers := w.heap.size } := ⟨_, rfl⟩
 obtain ⟨W1, hW1⟩ : ∃ W1, (w.alloc (.deferred (some []))).alloc (.loop (rec .ready none)) = W1 := ⟨_, rfl⟩
 refine ⟨w.heap.size + 1, [{ target := .collected w.heap.size, args := #[] }], W1, { target := .fn (.func gf) lb, args := #[.func (.yield (w.heap.size + 1)) #[] #[]] }, W1, gf,
  #[.func (.yield (w.heap.size + 1)) #[] #[]] ++ lb, W1, ?_, ?_, ?_, ?_, fun _ => h1, ?_⟩
 · rw [← hW1, hrec]; exact run_enterLoop_outer _ _ _ _ _
 ·
  simp only [resolve, hg]
  simp [go_sem]
 · intro f' hf'; trivial
 · simp [invoke, go_sem, eg]
 ·
  rw [← hW1]
  refine (hseq (rec .ready none) (rec .done (some .ret)) ?_).mono ?_
  ·
   intro x W hi hl hk
   have hlt : w.heap.size + 1 < W.heap.size := (Array.getElem?_eq_some_iff.1 hl).1
   have hy := run_yield (P := P) (args := #[Value.bool x]) hl (by rw [hrec]; exact hps.symm)
   rw [hrec] at hy
   refine ⟨fn, _, assign, body, hy, roundIn_of_wpIn hfn (hassign _ x W _ ⟨_, run_beginRound hl (by rw [hrec]), ?_⟩)⟩
   have hl2 : (W.putObj (w.heap.size + 1) (.loop { rec .ready none with state := .busy })).heap[w.heap.size + 1]? = some (.loop { rec .ready none with state := .busy }) := World.putObj_heap_same hlt
   have hk2 : (W.putObj (w.heap.size + 1) (.loop { rec .ready none with state := .busy })).heap[w.heap.size]? = some (.deferred (some [])) := (World.putObj_heap_other (by omega)).trans hk
   have hG2 := hG W _ _ (.loop { rec .ready none with state := .busy }) hi hl
   refine wpIn_mono (hbody _ x _ hG2) ?_
   have fin : ∀ (jump : Option Code) (W3 : World), KeepsOthers (W.putObj (w.heap.size + 1) (.loop { rec .ready none with state := .busy })) W3 →
     (Instr.endRound (w.heap.size + 1) jump).run P W3 = .ok (.bool jump.isNone) (W3.putObj (w.heap.size + 1) (.loop (rec (if jump.isNone then .ready else .done) jump))) ∧
     W3.heap[w.heap.size + 1]? = some (.loop { rec .ready none with state := .busy }) ∧
     (W3.putObj (w.heap.size + 1) (.loop (rec (if jump.isNone then .ready else .done) jump))).heap[w.heap.size + 1]? = some (.loop (rec (if jump.isNone then .ready else .done) jump)) ∧
     (W3.putObj (w.heap.size + 1) (.loop (rec (if jump.isNone then .ready else .done) jump))).heap[w.heap.size]? = some (.deferred (some [])) := fun jump W3 hk3 => by
    have hl3 := hk3.same _ _ hl2 rfl
    have := run_endRound (P := P) jump hl3
    rw [hrec] at this ⊢
    exact ⟨this, by rw [hrec] at hl3; exact hl3, World.putObj_heap_same (Array.getElem?_eq_some_iff.1 hl3).1, (World.putObj_heap_other (by omega)).trans (hk3.same _ _ hk2 rfl)⟩
   rintro e a3 W3 hp
   cases e with
   | normal =>
    obtain ⟨hx, rfl⟩ := hp
    obtain ⟨hr, hl3, hl4, hk4⟩ := fin none _ (KeepsOthers.refl _)
    exact ⟨_, _, hr, hk4, .inl ⟨hx, rfl, hG _ _ _ _ hG2 hl3, hl4, _, rfl⟩⟩
   | ret =>
    obtain ⟨hx, rfl⟩ := hp
    obtain ⟨hr, hl3, hl4, hk4⟩ := fin (some .ret) _ (hsw _)
    exact ⟨_, _, hr, hk4, .inr ⟨hx, rfl, hl4, _, hG2, rfl⟩⟩
   | exit id => exact hp.elim
   | goto t => exact hp.elim
   | panic ch => exact hp.elim
   | outgrown => exact hp.elim
  ·
   rintro e W2 ⟨⟨v, rfl⟩, hk, (⟨hD, hl⟩ | ⟨hS, hl⟩)⟩
   · exact ⟨none, _, by have := run_endLoop (P := P) hl (by rw [hrec]; simp); rw [hrec] at this; exact this, hdone _ _ hD hk ⟨_, hl⟩⟩
   · exact ⟨some .ret, _, by have := run_endLoop (P := P) hl (by rw [hrec]; simp); rw [hrec] at this; exact this, hstop _ _ hS hk⟩
open Go.RowKit Go.Shelf
attribute [local go_sem] Oper.semAt_some
theorem outcomes_any (sa : Option Addr) (n sc : Nat) (w : World) :
  Calls Tryz.prog 58 #[.slice sa n sc] w fun e w' => e = .returned (.func (.func 96) #[] #[.pointer (some ⟨w.heap.size, 0, none⟩)]) ∧ w' = w.alloc (.cells #[.slice sa n sc] 114) := by
 go_enter Tryz.func58, Tryz.ntmps58
 go_wp2
 go_ret
 exact ⟨rfl, by simp⟩
def BBx (w : World) (B : Nat) (sa : Option Addr) (n sc : Nat) : Prop := w.heap[B]? = some (.cells #[.slice sa n sc] 114 (0, 0))
structure AI (w0 wA : World) (base V p B R : Nat) (d : DD) (ops : List OP) (sa : Option Addr) (sc : Nat) (obs : List Nat) (j : Nat) (W : World) : Prop where
 dr : ∃ e pa pc kv, applyN d ops j = some e ∧ e.ok = true ∧ Dr W p e.blocks pa pc e.waiting kv
 rd : Ready w0 W base V p ops ops.length sa sc obs
 bx : BBx W B sa ops.length sc
 bB : base ≤ B
 vr : VB W R (.slice none 0 0) (.slice none 0 0)
 bel : Below wA.heap.size wA W
 b0 : Below w0.heap.size w0 W
theorem AI.kept {q : Nat → Prop} {w0 wA W W' : World} {base V p B R : Nat} {d : DD} {ops : List OP} {sa : Option Addr} {sc : Nat} {obs : List Nat} {j : Nat} (h : AI w0 wA base V p B R d ops sa sc obs j W) (hK : Kept q W W') (_hp : p < base) (hR : R < p) (hA : wA.heap.size ≤ p) (h0 : w0.heap.size ≤ p)
  (hq : ∀ z, q z → p < z ∧ ∀ t, IsT t W z → False) : AI w0 wA base V p B R d ops sa sc obs j W' := by
 obtain ⟨e, pa, pc, kv, he, hek, hD⟩ := h.dr
 have hno : ∀ t z, IsT t W z → ¬ q z := fun t z hz hz2 => (hq z hz2).2 t hz
 exact {
  dr := ⟨e, pa, pc, kv, he, hek, ⟨hD.d.kept hK (fun e => by have := (hq _ e).1; omega), hK.owns hD.own (fun z hz => hno _ z (owns_isT hD.own hz).1), hD.w64⟩⟩
  rd := h.rd.kept hK (fun z _ hz => hno _ z hz) (fun z _ hz => hno _ z hz) (fun z _ hz => hno _ z hz)
  bx := (hK.block B (IsT.lt ⟨_, h.bx⟩) (hno _ _ ⟨_, h.bx⟩)).trans h.bx
  bB := h.bB
  vr := h.vr.kept hK (fun e => by have := (hq _ e).1; omega)
  bel := h.bel.trans (hK.below h.bel.size (fun z hz e => by have := (hq _ e).1; omega))
  b0 := h.b0.trans (hK.below h.b0.size (fun z hz e => by have := (hq _ e).1; omega)) }
theorem Moved.lp {p : Nat} {W W' : World} (hM : Moved p W W') {l : Nat} {o : Obj} (hl : W.heap[l]? = some o) (ho : o.isCells = false) (hp : p < l) : W'.heap[l]? = some o := by
 refine (hM.block l (Array.getElem?_eq_some_iff.1 hl).1 ?_).trans hl
 rintro (e | ⟨_, c, hc⟩)
 · omega
 ·
  rw [hl] at hc
  cases hc
  cases ho
theorem AI.step {w0 wA W W' : World} {base V p B R : Nat} {d : DD} {ops : List OP} {sa : Option Addr} {sc : Nat} {obs : List Nat} {j : Nat} (h : AI w0 wA base V p B R d ops sa sc obs j W) (hM : Moved p W W') (hp : p < base) (hR : R < p) (hA : wA.heap.size ≤ p) (h0 : w0.heap.size ≤ p)
  {e : DD} (he : applyN d ops j = some e) (hk : (e.step ops[j]!).ok = true) {pa : Option Addr} {pc : Nat} {kv : Value} (hD : Dr W' p (e.step ops[j]!).blocks pa pc (e.step ops[j]!).waiting kv) : AI w0 wA base V p B R d ops sa sc obs (j + 1) W' := by
 have hno : ∀ t z, t ≠ 160 → base ≤ z → IsT t W z → ¬ (z = p ∨ (p < z ∧ IsT 160 W z)) := fun t z ht hz hT hq => by
  rcases hq with e | ⟨_, hq⟩
  · omega
  · exact ht (hT.eq hq)
 have hB0 : ∀ z, (z = p ∨ (p < z ∧ IsT 160 W z)) → p ≤ z := fun z hq => by
  rcases hq with e | ⟨hq, _⟩ <;> omega
 exact {
  dr := ⟨_, pa, pc, kv, applyN_yes he hk, hk, hD⟩
  rd := h.rd.kept hM (fun z hz hT => hno _ z (by decide) hz hT) (fun z hz hT => hno _ z (by decide) hz hT) (fun z hz hT => hno _ z (by decide) hz hT)
  bx := (hM.block B (IsT.lt ⟨_, h.bx⟩) (hno _ _ (by decide) h.bB ⟨_, h.bx⟩)).trans h.bx
  bB := h.bB
  vr := h.vr.kept hM (fun e => by have := hB0 _ e; omega)
  bel := h.bel.trans (hM.below h.bel.size (fun z hz e => by have := hB0 _ e; omega))
  b0 := h.b0.trans (hM.below h.b0.size (fun z hz e => by have := hB0 _ e; omega)) }
def emptyR (R : Nat) (W : World) : World := (W.setCell ⟨R, 0, none⟩ (.slice none 0 0)).setCell ⟨R, 1, none⟩ (.slice none 0 0)
def AStop (wA : World) (R : Nat) (d : DD) (ops : List OP) (W : World) : Prop := (∃ j, j < ops.length ∧ applyN d ops (j + 1) = none) ∧ VB W R (.slice none 0 0) (.slice none 0 0) ∧ Below wA.heap.size wA W
theorem keptPutA (W : World) (l : Nat) (o' : Obj) : Kept (fun z => z = l) W (W.putObj l o') := (Kept.of_grown (grownBy_putObj' W l o')).mono (fun z _ e => by cases e; rfl)
theorem out1_in (n : Nat) (_hn : 1 ≤ n) (w0 wA : World) (base V p B R l D : Nat) (d : DD) (ops : List OP) (sa : Option Addr) (sc : Nat) (obs : List Nat) (rd dn : Loop) (hp : p < base) (hR : R < p) (hRA : wA.heap.size ≤ R) (h0 : w0.heap.size ≤ p) (hl : p < l) (hD : p < D) (hln : ops.length ≤ 1048576) (hops : ∀ o, o ∈ ops → I64 o.block ∧ o.bytes.length ≤ maxLen)
  (hY : ∀ (x : Bool) (W : World), VB W R (.slice none 0 0) (.slice none 0 0) → W.heap[l]? = some (.loop rd) → W.heap[D]? = some (.deferred (some [])) → YieldAt Fence.wide (n - 1) Tryz.prog l #[Value.bool x] W (RoundA l D rd dn (fun W => VB W R (.slice none 0 0) (.slice none 0 0)) (emptyR R) x W))
  (W : World) (hI : AI w0 wA base V p B R d ops sa sc obs 0 W) (hlW : W.heap[l]? = some (.loop rd)) (hDW : W.heap[D]? = some (.deferred (some []))) :
  CallsIn Fence.wide n Tryz.prog 96 #[.func (.yield l) #[] #[], .pointer (some ⟨B, 0, none⟩)] W fun e W' => (∃ v, e = .returned v) ∧ W'.heap[D]? = some (.deferred (some [])) ∧ ((AI w0 wA base V p B R d ops sa sc obs ops.length W' ∧ W'.heap[l]? = some (.loop rd)) ∨ (AStop wA R d ops W' ∧ W'.heap[l]? = some (.loop dn))) := by
 have hlo : ∀ {W : World} {t : TypeId}, W.heap[l]? = some (.loop rd) → IsT t W l → False := fun h ⟨c, hc⟩ => by rw [h] at hc; cases hc
 obtain ⟨m, hm⟩ := hid_ex ops.length
 have hm2 : m ≤ 1048576 := by rw [hm.out]; exact hln
 have b0 : W.cell? ⟨B, 0, none⟩ = some (.slice sa m sc) := by rw [hm.out]; simp [World.cell?, show W.heap[B]? = _ from hI.bx]
 refine callsIn_of_wp Tryz.func96 rfl trivial ?_ rfl
 simp only [Tryz.ntmps96, List.size_toArray, List.length_cons, List.length_nil, Nat.reduceAdd, Nat.reduceSub, Array.replicate_succ, Array.replicate_zero, List.push_toArray, List.append_toArray, List.nil_append, List.cons_append]
 gi_wp2
 gi_loopw [7] (fun i wr => ∃ j : Nat, j ≤ m ∧ i = .int .i64 (j : Int) ∧ AI w0 wA base V p B R d ops sa sc obs j wr ∧ wr.heap[l]? = some (.loop rd) ∧ wr.heap[D]? = some (.deferred (some []))) (fun i _ => m - (intOf i).toNat)
 case atStart => exact ⟨0, Nat.zero_le _, rfl, hI, hlW, hDW⟩
 case round =>
  obtain ⟨j, hj, rfl, hJ, hl1, hD1⟩ := hrel
  by_cases hlt : j < m
  ·
   have hji : (j : Int) < (m : Int) := by omega
   have hj0 : (0 : Int) ≤ (j : Int) := by omega
   have hjo : j < ops.length := by rw [← hm.out]; exact hlt
   obtain ⟨e, pa, pc, kv, he, hek, hDr⟩ := hJ.dr
   have hro := hJ.rd.row
   obtain ⟨a, c, hOb, hby, hbO⟩ := hJ.rd.ob j hjo
   obtain ⟨O, hO⟩ := hid_ex obs[j]!
   rw [← hO.out] at hOb hbO
   obtain ⟨o, ho⟩ := hid_ex ops[j]!
   rw [← ho.out] at hOb hby
   have hom : o ∈ ops := by rw [ho.out]; exact mem_at hjo
   have hlen := hJ.rd.len
   obtain ⟨g, rfl, _, _, cg⟩ := owns_cell hro (j := j) (u := stepV V O) (by rw [List.getElem?_map, List.getElem?_eq_getElem (by omega), hO.out, getElem!_pos obs j (by omega)]; rfl)
   have cg2 : wr.cell? ⟨g, j, none⟩ = some (.func (.func 97) #[] #[.pointer (some ⟨O, 0, none⟩), .pointer (some ⟨V, 0, none⟩)]) := cg
   clear cg hro
   have hstep : Hid (e.step ops[j]! = e.step o) := by show _ = _; rw [ho.out]
   gi_wp2_with fail
   refine ⟨trivial, (callsIn_wide.2 (one_any O V p o a c e pa pc kv w0 wr hOb hJ.rd.v hby h0 (hby.grow hJ.b0) (hops o hom).1 (hops o hom).2 hek hDr)).mono ?_⟩
   rintro r w2 (⟨hsk, rfl, ⟨pa2, pc2, kv2, hD2⟩, hM2⟩ | ⟨hsk, rfl, hb2⟩)
   ·
    have hJ2 := hJ.step hM2 hp hR (by omega) h0 he (by rw [hstep.out]; exact hsk) (by rw [hstep.out]; exact hD2)
    have hl2 := hM2.lp hl1 rfl hl
    have hDd2 := hM2.lp hD1 rfl hD
    obtain ⟨fn, tmps, assign, body, hy, hRd⟩ := hY true w2 hJ2.vr hl2 hDd2
    gi_wp2
    refine hRd.mono ?_
    rintro r2 W3 ⟨hD3, ⟨_, rfl, hv3, hl3, o2, rfl⟩ | ⟨h, _⟩⟩
    ·
     have hKl : Kept (fun z => z = l) w2 ((w2.putObj l o2).putObj l (.loop rd)) := (keptPutA _ _ _).trans (keptPutA _ _ _) (fun _ _ e => e)
     have hJ3 := hJ2.kept hKl hp hR (by omega) h0 (fun z e => by subst e; exact ⟨hl, fun t ht => hlo hl2 ht⟩)
     generalize (w2.putObj l o2).putObj l (.loop rd) = W3 at hD3 hl3 hJ3 ⊢
     clear hKl hv3
     gi_wp2
     go_roundw
     case rel => exact ⟨j + 1, by omega, by go_num, hJ3, hl3, hD3⟩
     case measure => simp [intOf]; omega
    · cases h
   ·
    have hl2 := (hb2.block l (Array.getElem?_eq_some_iff.1 hl1).1).trans hl1
    have hDd2 := (hb2.block D (Array.getElem?_eq_some_iff.1 hD1).1).trans hD1
    have hv2 := hJ.vr.grow hb2
    obtain ⟨fn, tmps, assign, body, hy, hRd⟩ := hY false w2 hv2 hl2 hDd2
    gi_wp2
    refine hRd.mono ?_
    rintro r2 W3 ⟨hD3, ⟨h, _⟩ | ⟨_, rfl, hl3, o2, hv3, rfl⟩⟩
    · cases h
    ·
     have hK1 := keptPutA w2 l o2
     have hK2 : Kept (fun z => z = R) (w2.putObj l o2) (emptyR R (w2.putObj l o2)) := ((Kept.refl (fun z => z = R) (w2.putObj l o2)).set (a := ⟨R, 0, none⟩) (fun _ => rfl) _).set (a := ⟨R, 1, none⟩) (fun _ => rfl) _
     have hK3 := keptPutA (emptyR R (w2.putObj l o2)) l (.loop dn)
     have hv4 : VB (emptyR R (w2.putObj l o2)) R (.slice none 0 0) (.slice none 0 0) := (hv3.set0 (.slice none 0 0)).set1 (.slice none 0 0)
     have hv5 := hv4.kept hK3 (by omega)
     have hKa : Kept (fun z => z = l ∨ z = R) w2 ((emptyR R (w2.putObj l o2)).putObj l (.loop dn)) := ((hK1.mono (fun _ _ e => Or.inl e)).trans (hK2.mono (fun _ _ e => Or.inr e)) (fun _ _ e => e)).trans (hK3.mono (fun _ _ e => Or.inl e)) (fun _ _ e => e)
     have hb3 : Below wA.heap.size wA w2 := gca hJ.bel hb2
     have hb4 : Below wA.heap.size wA ((emptyR R (w2.putObj l o2)).putObj l (.loop dn)) := hb3.trans (hKa.below hb3.size (fun z hz e => by omega))
     have hstopA : AStop wA R d ops ((emptyR R (w2.putObj l o2)).putObj l (.loop dn)) := ⟨⟨j, hjo, applyN_no he (by rw [hstep.out]; exact hsk)⟩, hv5, hb4⟩
     generalize (emptyR R (w2.putObj l o2)).putObj l (.loop dn) = W3 at hD3 hl3 hstopA ⊢
     clear hK1 hK2 hK3 hKa hv3 hv4
     gi_wp2
     refine bodyPost_ret (results_none rfl _ _ _) rfl ?_
     exact ⟨⟨_, rfl⟩, hD3, .inr ⟨hstopA, hl3⟩⟩
  ·
   obtain rfl : j = m := by omega
   have hji : ¬ ((j : Int) < (j : Int)) := by omega
   gi_wp2
   go_end0
   exact ⟨⟨_, rfl⟩, hD1, .inl ⟨by rw [← hm.out]; exact hJ, hl1⟩⟩
end Go.Proofs.YtmdpmdmilgbfiaaGreatDoor
