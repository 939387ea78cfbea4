import Derived.Deep.CutRange
import Derived.RangeFuncNested
import Derived.RangeFuncBound
import Derived.RangeFuncCalls
import Derived.RangeFuncLeaves
import Derived.Shelf.Abstract
import Derived.WalkKit
import Derived.OwnWalkIn
import Derived.TacticsInMore
import Derived.LoopNIn
import Derived.LoopIn
import Derived.Test.YthjddpkegooobacGreatPartS

/-
  SAPPLY: the specification's l4apply. Own work.
-/
namespace Go.Proofs.YthjddpkegooobacGreat
open Go.RowKit

/-- one op, done -/
def DD.step (d : DD) (o : OP) : DD := if o.sync = true then d.settle keepAll else d.put o.block o.bytes
/-- the first ops, done one after the other -/
def applyN (d : DD) (ops : List OP) : Nat → Option DD
  | 0 => some d
  | j + 1 => (applyN d ops j).bind fun e => if (e.step ops[j]!).ok = true then some (e.step ops[j]!) else none
theorem applyN_yes {d e : DD} {ops : List OP} {j : Nat} (h : applyN d ops j = some e) (hk : (e.step ops[j]!).ok = true) : applyN d ops (j + 1) = some (e.step ops[j]!) := by
  show (applyN d ops j).bind _ = _
  rw [h]
  exact if_pos hk
theorem applyN_no {d e : DD} {ops : List OP} {j : Nat} (h : applyN d ops j = some e) (hk : (e.step ops[j]!).ok = false) : applyN d ops (j + 1) = none := by
  show (applyN d ops j).bind _ = _
  rw [h]
  exact if_neg (by rw [hk]; exact Bool.false_ne_true)
theorem applyN_none {d : DD} {ops : List OP} {j : Nat} (h : applyN d ops j = none) : ∀ k, applyN d ops (j + k) = none
  | 0 => h
  | k + 1 => by
    show (applyN d ops (j + k)).bind _ = _
    rw [applyN_none h k]
    rfl
theorem Fit.smallA {d : DD} (h : d.Fit) : d.Small := ⟨by have := h.bl; omega, fun b hb => by have := h.bb b hb; omega, by have := h.wl; omega, fun x hx => by have := (h.wb x hx).2.2; omega⟩
theorem settle_okA {d : DD} (hd : d.Ok) (hok : d.ok = true) (keep : Nat → Bool) : (d.settle keep).Ok := by
  have hf := DD.fit hok
  rw [settle_yes hok]
  exact ⟨by show (settleN _ _ _ _).length ≤ maxLen; rw [settleN_length]; exact hd.bl, settleN_all hd.bb hd.wb _ (Nat.le_refl _), Nat.zero_le _, fun x hx => (by cases hx), fun x hx => (by cases hx)⟩
theorem step_ok {d : DD} {o : OP} (hd : d.Ok) (hok : d.ok = true) (hb : I64 o.block) (hk : BOk o.bytes) : (d.step o).Ok := by
  unfold DD.step
  split
  · exact settle_okA hd hok _
  · exact (put_tame hd hb hk).1

/-- what is behind the ops -/
def ApPost (d : DD) (ops : List OP) (n : Nat) (w : World) (e : Ending) (w' : World) : Prop :=
  ∃ (lb : List LB) (lw : List LW) (ba : Option Addr) (bc : Nat) (wa : Option Addr) (wc : Nat) (f : DD) (b : Bool), e = .returned (.tuple #[f.val ⟨ba, bc, wa, wc⟩, .bool b]) ∧ Hid (applyN d ops n = if b = true then some f else none) ∧ (b = true → f.ok = true ∧ f.Ok) ∧ lb.map (·.l) = f.blocks ∧ lw.map (·.x) = f.waiting ∧ SB w.heap.size w' ba bc lb ∧ SW w.heap.size w' wa wc lw ∧ Below w.heap.size w w'

theorem blk_setType {w : World} {V o t : Nat} {s : Value} (h : ∃ c, w.heap[V]? = some (.cells c t (0, 0))) : ∃ c, (w.setCell ⟨V, o, none⟩ s).heap[V]? = some (.cells c t (0, 0)) := by
  obtain ⟨c, hc⟩ := h
  obtain ⟨hlt, hk⟩ := Array.getElem?_eq_some_iff.1 hc
  refine ⟨c.setIfInBounds o s, ?_⟩
  show (w.heap.modify V _)[V]? = _
  rw [Array.getElem?_eq_getElem (by rw [Array.size_modify]; exact hlt), Array.getElem_modify_self, hk]
  rfl
/-- a disk in memory of its own, and the variable that holds it -/
structure ApM (w : World) (V R : Nat) (e : DD) (lb : List LB) (lw : List LW) (ba : Option Addr) (bc : Nat) (wa : Option Addr) (wc : Nat) (wr : World) : Prop where
  mb : lb.map (·.l) = e.blocks
  mw : lw.map (·.x) = e.waiting
  sb : SB w.heap.size wr ba bc lb
  sw : SW w.heap.size wr wa wc lw
  v : VB wr V (.slice ba e.blocks.length bc) (.slice wa e.waiting.length wc)
  vd : IsD wr V
  r : VB wr R (.slice none 0 0) (.slice none 0 0)
  rd : IsD wr R
  bel : Below w.heap.size w wr
theorem ApM.at_ {w : World} {V R : Nat} {e : DD} {lb : List LB} {lw : List LW} {ba : Option Addr} {bc : Nat} {wa : Option Addr} {wc : Nat} {wr : World} (h : ApM w V R e lb lw ba bc wa wc wr) : DAt wr ⟨ba, bc, wa, wc⟩ e := ⟨by rw [← h.mb]; exact h.sb.at_, by rw [← h.mw]; exact h.sw.at_⟩
theorem ApM.grow {w : World} {V R : Nat} {e : DD} {lb : List LB} {lw : List LW} {ba : Option Addr} {bc : Nat} {wa : Option Addr} {wc : Nat} {wr w' : World} (h : ApM w V R e lb lw ba bc wa wc wr) (hb : Below wr.heap.size wr w') : ApM w V R e lb lw ba bc wa wc w' :=
  ⟨h.mb, h.mw, h.sb.grow hb, h.sw.grow hb, h.v.grow hb, h.vd.grow hb, h.r.grow hb, h.rd.grow hb, gca h.bel hb⟩
/-- another disk, stored into the variable -/
theorem ApM.store {w : World} {V R : Nat} {e f : DD} {lb lb' : List LB} {lw lw' : List LW} {ba ba' : Option Addr} {bc bc' : Nat} {wa wa' : Option Addr} {wc wc' : Nat} {wr w2 : World} (h : ApM w V R e lb lw ba bc wa wc wr) (hVw : w.heap.size ≤ V) (hVR : R ≠ V) (mb : lb'.map (·.l) = f.blocks) (mw : lw'.map (·.x) = f.waiting) (sb : SB wr.heap.size w2 ba' bc' lb') (sw : SW wr.heap.size w2 wa' wc' lw') (hb : Below wr.heap.size wr w2) :
    ApM w V R f lb' lw' ba' bc' wa' wc' ((w2.setCell ⟨V, 0, none⟩ (.slice ba' f.blocks.length bc')).setCell ⟨V, 1, none⟩ (.slice wa' f.waiting.length wc')) := by
  have hD := h.vd.grow hb
  have hD1 : IsD (w2.setCell ⟨V, 0, none⟩ (.slice ba' f.blocks.length bc')) V := blk_setType hD
  have hle := h.bel.size
  refine ⟨mb, mw, ?_, ?_, ?_, blk_setType hD1, ?_, ((h.rd.grow hb).kept (Kept.one w2 V 0 _) hVR).kept (Kept.one _ V 1 _) hVR, ?_⟩
  · exact ((sb.le hle).kept (Kept.one w2 V 0 _) (fun z e _ => by subst e; exact ⟨not_S_of_D hD, not_B_of_D hD⟩)).kept (Kept.one _ V 1 _) (fun z e _ => by subst e; exact ⟨not_S_of_D hD1, not_B_of_D hD1⟩)
  · exact ((sw.le hle).kept (Kept.one w2 V 0 _) (fun z e _ => by subst e; exact ⟨not_W_of_D hD, not_B_of_D hD⟩)).kept (Kept.one _ V 1 _) (fun z e _ => by subst e; exact ⟨not_W_of_D hD1, not_B_of_D hD1⟩)
  · exact ((h.v.grow hb).set0 _).set1 _
  · exact ((h.r.grow hb).kept (Kept.one w2 V 0 _) hVR).kept (Kept.one _ V 1 _) hVR
  · exact gse (gse (gca h.bel hb) hVw _) hVw _

set_option maxHeartbeats 4000000 in
set_option maxRecDepth 100000 in
theorem l4apply_any (d : DD) (l : DL) (oa : Option Addr) (ops : List OP) (oc n : Nat) (m : Int) (w : World) (hm : m = (n : Int)) (hok : d.ok = true) (hd : d.Ok) (ha : DAt w l d) (hops : OpsOk ops) (hat : OpsAt w oa ops) (hn : n ≤ ops.length) :
    Calls Tryz.prog 45 #[d.val l, .slice oa ops.length oc, .int .i64 m] w (ApPost d ops n w) := by
  have hf := DD.fit hok
  have hsm := Fit.smallA hf
  have hol := hops.len
  unfold maxLen at hol
  have hX0 := DBox.new w d l 35
  have hA0 := gal (gal (gre w) (.cells #[.slice l.ba d.blocks.length l.bc, .slice l.wa d.waiting.length l.wc] 35)) (.cells #[.slice none 0 0, .slice none 0 0] 35)
  obtain ⟨_, x0, x1⟩ := hX0.grow (gal (gre _) (.cells #[.slice none 0 0, .slice none 0 0] 35))
  subst hm
  go_enter Tryz.func45, Tryz.ntmps45
  go_upto_region 2 with (go_at_call 82; refine (l3copy_any d l _ hsm (ha.grow hA0)).mono ?_; rintro e w1 ⟨lb, lw, ba, bc, wa, wc, rfl, hmb, hmw, hsb, hsw, hb1⟩)
  obtain ⟨V, hV⟩ := hid_ex w1.heap.size
  obtain ⟨R, hR⟩ := hid_ex (w.heap.size + 1)
  have hsz1 := hb1.size
  have hI0 : ApM w V R d lb lw ba bc wa wc (w1.alloc (.cells #[.slice ba d.blocks.length bc, .slice wa d.waiting.length wc] 35)) := by
    have hg := gal (gre w1) (.cells #[.slice ba d.blocks.length bc, .slice wa d.waiting.length wc] 35)
    refine ⟨hmb, hmw, (hsb.le hA0.size).grow hg, (hsw.le hA0.size).grow hg, by rw [hV.out]; exact VB.new w1 _ _ _, ⟨_, by rw [hV.out]; exact blk_new_at _ _ _ rfl⟩, ?_, ?_, gca (gca hA0 hb1) hg⟩
    · rw [hR.out]
      exact ((VB.new_at _ (.slice none 0 0) (.slice none 0 0) 35 (w.heap.size + 1) (by simp)).grow hb1).grow hg
    · rw [hR.out]
      exact (IsD.grow (w := (w.alloc (.cells #[.slice l.ba d.blocks.length l.bc, .slice l.wa d.waiting.length l.wc] 35)).alloc (.cells #[.slice none 0 0, .slice none 0 0] 35)) ⟨_, blk_new_at _ _ _ (by simp)⟩ hb1).grow hg
  have hVw : w.heap.size ≤ V := by rw [hV.out]; have := (gca hA0 hb1).size; omega
  have hVR : R ≠ V := by have := hV.out; have := hR.out; simp at hsz1; omega
  have hRw : w.heap.size ≤ R := by have := hR.out; omega
  rw [← hV.out, ← hR.out]
  generalize w1.alloc (.cells #[.slice ba d.blocks.length bc, .slice wa d.waiting.length wc] 35) = wS at hI0 ⊢
  clear hsb hsw hb1 x0 x1 hX0 hA0 hsz1 hV hR
  go_wp2
  go_loopw [9] (fun i wr => ∃ (j : Nat) (e : DD) (lb : List LB) (lw : List LW) (ba : Option Addr) (bc : Nat) (wa : Option Addr) (wc : Nat), j ≤ n ∧ i = .int .i64 (j : Int) ∧ Hid (applyN d ops j = some e) ∧ Hid (e.ok = true) ∧ e.Ok ∧ ApM w V R e lb lw ba bc wa wc wr) (fun i _ => n - (intOf i).toNat)
  case atStart => exact ⟨0, d, lb, lw, ba, bc, wa, wc, Nat.zero_le _, rfl, rfl, hok, hd, hI0⟩
  case round =>
    obtain ⟨j, e, lb, lw, ba, bc, wa, wc, hj, rfl, hap, hek, heO, hI⟩ := hrel
    by_cases hlt : j < n
    · have hjn : (j : Int) < (n : Int) := by omega
      obtain ⟨x, b, off, a', cap', hxk, hxm, rfl, c0, c1, c2, hxa⟩ := (hat.grow hI.bel).get (k := j) (by omega)
      obtain ⟨v0, v1, vf⟩ := id hI.v
      have i0 : (0 : Int) ≤ (j : Int) := by omega
      have i1 : (j : Int) < (ops.length : Int) := by omega
      obtain ⟨f, hfe⟩ := hid_ex (e.step x)
      have hfO : f.Ok := by rw [hfe.out]; exact step_ok heO hek.out (hops.bl x hxm) (hops.by_ x hxm)
      go_upto_if 21 with fail
      go_cut [] from 21 to 39 (fun wx => ∃ (lb : List LB) (lw : List LW) (ba : Option Addr) (bc : Nat) (wa : Option Addr) (wc : Nat), ApM w V R f lb lw ba bc wa wc wx)
      case first =>
        cases hsy : x.sync with
        | true =>
          have hfs : Hid (e.settle keepAll = f) := by show _ = _; rw [hfe.out]; exact (if_pos hsy).symm
          rw [hsy] at c0
          go_wp2_with (go_at_call 83; refine (specSync_any e ⟨ba, bc, wa, wc⟩ _ heO hI.at_).mono ?_; rw [hfs.out]; rintro e2 w2 ⟨lb2, lw2, ba2, bc2, wa2, wc2, rfl, mb2, mw2, sb2, sw2, hb2⟩; obtain ⟨y0, y1, yf⟩ := hI.v.grow hb2)
          go_meet
          case rel => exact ⟨lb2, lw2, ba2, bc2, wa2, wc2, hI.store hVw hVR mb2 mw2 sb2 sw2 hb2⟩
        | false =>
          have hfs : Hid (e.put x.block x.bytes = f) := by show _ = _; rw [hfe.out]; exact (if_neg (by rw [hsy]; exact Bool.false_ne_true)).symm
          rw [hsy] at c0
          go_upto_region 7 with fail
          have hB : Below wr.heap.size wr wr.drew := gdr (gre _)
          have hId := hI.grow hB
          have hS0 : VB wr.drew V (.slice ba e.blocks.length bc) (.slice wa e.waiting.length wc) ∧ wr.drew.cell? ⟨b, off + j * 3 + 1, none⟩ = some (.int .i64 x.block) ∧ wr.drew.cell? ⟨b, off + j * 3 + 2, none⟩ = some (.slice a' x.bytes.length cap') := ⟨hId.v, c1, c2⟩
          have hxd := hxa.grow hB
          refine wp_regionU (fun u => VB u V (.slice ba e.blocks.length bc) (.slice wa e.waiting.length wc) ∧ u.cell? ⟨b, off + j * 3 + 1, none⟩ = some (.int .i64 x.block) ∧ u.cell? ⟨b, off + j * 3 + 2, none⟩ = some (.slice a' x.bytes.length cap')) 12 (by kernel_rfl) hS0 (fun _ => ?_)
          generalize wr.drew = wd at hId hS0 hxd hB ⊢
          refine anyU_take (i := 0) (v := ?_) rfl (by kernel_rfl) (by kernel_rfl) (by kernel_rfl) (by kernel_rfl) (fun _ _ _ h => h) (Or.inl ⟨by rfl, ?_⟩) hS0 ?_
          rotate_left
          · intro u hSu; obtain ⟨⟨s0, s1, sf⟩, t0, t1⟩ := hSu; go_simp <;> with_reducible rfl
          simp only [Act.put, List.getElem_toArray, List.getElem_cons_zero, List.setIfInBounds_toArray, List.set_cons_zero, List.set_cons_succ]
          refine anyU_take (i := 1) (v := ?_) rfl (by kernel_rfl) (by kernel_rfl) (by kernel_rfl) (by kernel_rfl) (fun _ _ _ h => h) (Or.inl ⟨by rfl, ?_⟩) hS0 ?_
          rotate_left
          · intro u hSu; obtain ⟨⟨s0, s1, sf⟩, t0, t1⟩ := hSu; go_simp <;> with_reducible rfl
          simp only [Act.put, List.getElem_toArray, List.getElem_cons_zero, List.getElem_cons_succ, List.setIfInBounds_toArray, List.set_cons_zero, List.set_cons_succ]
          refine anyU_take (i := 2) (v := ?_) rfl (by kernel_rfl) (by kernel_rfl) (by kernel_rfl) (by kernel_rfl) (fun _ _ _ h => h) (Or.inl ⟨by rfl, ?_⟩) hS0 ?_
          rotate_left
          · intro u hSu; obtain ⟨⟨s0, s1, sf⟩, t0, t1⟩ := hSu; go_simp <;> with_reducible rfl
          simp only [Act.put, List.getElem_toArray, List.getElem_cons_zero, List.getElem_cons_succ, List.setIfInBounds_toArray, List.set_cons_zero, List.set_cons_succ]
          refine anyU_take (i := 3) (v := ?_) rfl (by kernel_rfl) (by kernel_rfl) (by kernel_rfl) (by kernel_rfl) (fun _ _ _ h => h) (Or.inl ⟨by rfl, ?_⟩) hS0 ?_
          rotate_left
          · intro u hSu; obtain ⟨⟨s0, s1, sf⟩, t0, t1⟩ := hSu; go_simp <;> with_reducible rfl
          simp only [Act.put, List.getElem_toArray, List.getElem_cons_zero, List.getElem_cons_succ, List.setIfInBounds_toArray, List.set_cons_zero, List.set_cons_succ]
          refine anyU_take (i := 4) (v := ?_) rfl (by kernel_rfl) (by kernel_rfl) (by kernel_rfl) (by kernel_rfl) (fun _ _ _ h => h) (Or.inl ⟨by rfl, ?_⟩) hS0 ?_
          rotate_left
          · intro u hSu; obtain ⟨⟨s0, s1, sf⟩, t0, t1⟩ := hSu; go_simp <;> with_reducible rfl
          simp only [Act.put, List.getElem_toArray, List.getElem_cons_zero, List.getElem_cons_succ, List.setIfInBounds_toArray, List.set_cons_zero, List.set_cons_succ]
          refine anyU_take (i := 5) (v := ?_) rfl (by kernel_rfl) (by kernel_rfl) (by kernel_rfl) (by kernel_rfl) (fun _ _ _ h => h) (Or.inl ⟨by rfl, ?_⟩) hS0 ?_
          rotate_left
          · intro u hSu; obtain ⟨⟨s0, s1, sf⟩, t0, t1⟩ := hSu; go_simp <;> with_reducible rfl
          simp only [Act.put, List.getElem_toArray, List.getElem_cons_zero, List.getElem_cons_succ, List.setIfInBounds_toArray, List.set_cons_zero, List.set_cons_succ]
          refine anyU_take (i := 6) (v := ?_) rfl (by kernel_rfl) (by kernel_rfl) (by kernel_rfl) (by kernel_rfl) (fun _ _ _ h => h) (Or.inl ⟨by rfl, ?_⟩) hS0 ?_
          rotate_left
          · intro u hSu; obtain ⟨⟨s0, s1, sf⟩, t0, t1⟩ := hSu; go_simp <;> with_reducible rfl
          simp only [Act.put, List.getElem_toArray, List.getElem_cons_zero, List.getElem_cons_succ, List.setIfInBounds_toArray, List.set_cons_zero, List.set_cons_succ]
          refine anyU_take (i := 7) (v := ?_) rfl (by kernel_rfl) (by kernel_rfl) (by kernel_rfl) (by kernel_rfl) (fun _ _ _ h => h) (Or.inl ⟨by rfl, ?_⟩) hS0 ?_
          rotate_left
          · intro u hSu; obtain ⟨⟨s0, s1, sf⟩, t0, t1⟩ := hSu; go_simp <;> with_reducible rfl
          simp only [Act.put, List.getElem_toArray, List.getElem_cons_zero, List.getElem_cons_succ, List.setIfInBounds_toArray, List.set_cons_zero, List.set_cons_succ]
          refine anyU_take (i := 8) (v := ?_) rfl (by kernel_rfl) (by kernel_rfl) (by kernel_rfl) (by kernel_rfl) (fun _ _ _ h => h) (Or.inl ⟨by rfl, ?_⟩) hS0 ?_
          rotate_left
          · intro u hSu; obtain ⟨⟨s0, s1, sf⟩, t0, t1⟩ := hSu; go_simp <;> with_reducible rfl
          simp only [Act.put, List.getElem_toArray, List.getElem_cons_zero, List.getElem_cons_succ, List.setIfInBounds_toArray, List.set_cons_zero, List.set_cons_succ]
          refine anyU_take (i := 9) (v := ?_) rfl (by kernel_rfl) (by kernel_rfl) (by kernel_rfl) (by kernel_rfl) (fun _ _ _ h => h) (Or.inl ⟨by rfl, ?_⟩) hS0 ?_
          rotate_left
          · intro u hSu; obtain ⟨⟨s0, s1, sf⟩, t0, t1⟩ := hSu; go_simp <;> with_reducible rfl
          simp only [Act.put, List.getElem_toArray, List.getElem_cons_zero, List.getElem_cons_succ, List.setIfInBounds_toArray, List.set_cons_zero, List.set_cons_succ]
          refine anyU_take (i := 10) (v := ?_) rfl (by kernel_rfl) (by kernel_rfl) (by kernel_rfl) (by kernel_rfl) (fun _ _ _ h => h) (Or.inl ⟨by rfl, ?_⟩) hS0 ?_
          rotate_left
          · intro u hSu; obtain ⟨⟨s0, s1, sf⟩, t0, t1⟩ := hSu; go_simp <;> with_reducible rfl
          simp only [Act.put, List.getElem_toArray, List.getElem_cons_zero, List.getElem_cons_succ, List.setIfInBounds_toArray, List.set_cons_zero, List.set_cons_succ]
          refine anyU_one (i := 11) (by kernel_rfl) rfl (fun K hK => ?_)
          go_simp
          refine (specPut_any e ⟨ba, bc, wa, wc⟩ x.block a' x.bytes cap' _ heO hId.at_ (hops.bl x hxm) (hops.by_ x hxm).len hxd).mono ?_
          rw [hfs.out]
          rintro e2 w2 ⟨lb2, lw2, ba2, bc2, wa2, wc2, rfl, mb2, mw2, sb2, sw2, hb2⟩
          refine hK.out _ _ ⟨hS0.1.grow hb2, cell_later hb2 hS0.2.1, cell_later hb2 hS0.2.2⟩ ?_
          clear hK
          obtain ⟨y0, y1, yf⟩ := hId.v.grow hb2
          refine anyU_last (by kernel_rfl) rfl (by kernel_rfl) (fun K hK => ?_)
          go_simp
          refine hK.out _ _ ?_
          clear hK
          go_wp2
          go_meet
          case rel => exact ⟨lb2, lw2, ba2, bc2, wa2, wc2, hId.store hVw hVR mb2 mw2 sb2 sw2 hb2⟩
      case rest =>
        obtain ⟨lb2, lw2, ba2, bc2, wa2, wc2, hI2⟩ := hcut
        obtain ⟨y0, y1, yf⟩ := id hI2.v
        obtain ⟨z0, z1, zf⟩ := id hI2.r
        have hfst : Hid (f = e.step ops[j]!) := by show _ = _; rw [hfe.out, hxk.out]
        cases hfk : f.ok with
        | true =>
          have hfk' : Hid (f.ok = true) := hfk
          have hnx : Hid (applyN d ops (j + 1) = some f) := by
            show _ = _
            rw [hfst.out] at hfk ⊢
            exact applyN_yes hap.out hfk
          clear hfk
          go_wp2_with (go_at_call 43; refine (specDiskOk_any f ⟨ba2, bc2, wa2, wc2⟩ _ hfO hI2.at_).mono ?_; rw [hfk'.out]; rintro e2 w3 ⟨rfl, hb3⟩)
          go_roundw
          case rel => exact ⟨j + 1, f, lb2, lw2, ba2, bc2, wa2, wc2, by omega, by go_num, hnx.out, hfk'.out, hfO, hI2.grow hb3⟩
          case measure => simp [intOf]; omega
        | false =>
          have hfk' : Hid (f.ok = false) := hfk
          have hnx : Hid (applyN d ops (j + 1) = none) := by
            show _ = _
            rw [hfst.out] at hfk
            exact applyN_no hap.out hfk
          clear hfk
          go_upto_region 99 with (go_at_call 43; refine (specDiskOk_any f ⟨ba2, bc2, wa2, wc2⟩ _ hfO hI2.at_).mono ?_; rw [hfk'.out]; rintro e2 w3 ⟨rfl, hb3⟩; obtain ⟨p0, p1, pf⟩ := hI2.r.grow hb3)
          have hI3 := hI2.grow hb3
          have hnn : applyN d ops n = none := by
            have := applyN_none hnx.out (n - (j + 1))
            rw [show j + 1 + (n - (j + 1)) = n by omega] at this
            exact this
          obtain ⟨q0, q1, _⟩ := ((hI3.r).set0 (.slice none 0 0)).set1 (.slice none 0 0)
          refine bodyPost_ret (v := .tuple #[zeroD.val ⟨none, 0, none, 0⟩, .bool false]) (by simp [results, Tryz.results45, go_sem, q0, q1, zeroD]) rfl ⟨[], [], none, 0, none, 0, zeroD, false, rfl, ?_, (fun h => by cases h), rfl, rfl, SB.nil _ _, SW.nil _ _, gse (p := ⟨R, 1, none⟩) (gse (p := ⟨R, 0, none⟩) hI3.bel hRw _) hRw _⟩
          show _ = _
          rw [hnn]
          rfl
    · obtain rfl : j = n := by omega
      have hjn : ¬ ((j : Int) < (j : Int)) := by omega
      obtain ⟨v0, v1, vf⟩ := id hI.v
      obtain ⟨z0, z1, zf⟩ := id hI.r
      go_upto_region 99 with fail
      obtain ⟨q0, q1, _⟩ := (hI.r.set0 (.slice ba e.blocks.length bc)).set1 (.slice wa e.waiting.length wc)
      have hK := (Kept.one wr R 0 (.slice ba e.blocks.length bc)).trans (Kept.one _ R 1 (.slice wa e.waiting.length wc)) (fun _ _ h => h)
      refine bodyPost_ret (v := .tuple #[e.val ⟨ba, bc, wa, wc⟩, .bool true]) (by simp [results, Tryz.results45, go_sem, q0, q1]) rfl ⟨lb, lw, ba, bc, wa, wc, e, true, rfl, ?_, fun _ => ⟨hek.out, heO⟩, hI.mb, hI.mw, hI.sb.kept hK (fun z h _ => by subst h; exact ⟨not_S_of_D hI.rd, not_B_of_D hI.rd⟩), hI.sw.kept hK (fun z h _ => by subst h; exact ⟨not_W_of_D hI.rd, not_B_of_D hI.rd⟩), gse (p := ⟨R, 1, none⟩) (gse (p := ⟨R, 0, none⟩) hI.bel hRw _) hRw _⟩
      show _ = _
      rw [hap.out]
      rfl

end Go.Proofs.YthjddpkegooobacGreat

/-
  AONE: one step of the program, done. Own work.
-/
namespace Go.Proofs.YthjddpkegooobacGreat
open Go.RowKit

theorem fit_okQ {d : DD} (h : d.Fit) : d.ok = true := by
  unfold DD.ok
  simp only [Bool.and_eq_true, decide_eq_true_eq, List.all_eq_true]
  refine ⟨⟨⟨h.bl, h.wl⟩, fun b hb => by simpa [blOk] using h.bb b hb⟩, fun x hx => ?_⟩
  obtain ⟨h1, h2, h3⟩ := h.wb x hx
  simp [wrOk, h1, h2, h3]

/-- what a step may change: the drive and its waiting writes -/
def Moved (p : Nat) (w w' : World) : Prop := Kept (fun z => z = p ∨ (p < z ∧ IsT 160 w z)) w w'

/-- a step, done or not -/
def OneP (e : DD) (o : OP) (p : Nat) (w : World) (r : Ending) (w' : World) : Prop :=
  ((e.step o).ok = true ∧ r = .returned (.bool true) ∧ (∃ pa pc kv, Dr w' p (e.step o).blocks pa pc (e.step o).waiting kv) ∧ Moved p w w') ∨ ((e.step o).ok = false ∧ r = .returned (.bool false) ∧ Below w.heap.size w w')

set_option maxHeartbeats 4000000 in
set_option maxRecDepth 100000 in
theorem one_any (O V p : Nat) (o : OP) (a : Option Addr) (c : Nat) (e : DD) (pa : Option Addr) (pc : Nat) (kv : Value) (w0 w : World) (hO : OBx w O o a c) (hV : VBx w V p) (hby : BytesAt w0 a o.bytes) (hw0 : w0.heap.size ≤ p) (hbw : BytesAt w a o.bytes) (hi : I64 o.block) (hbl : o.bytes.length ≤ maxLen) (hek : e.ok = true) (hDr : Dr w p e.blocks pa pc e.waiting kv) :
    Calls Tryz.prog 99 #[.pointer (some ⟨O, 0, none⟩), .pointer (some ⟨V, 0, none⟩)] w (OneP e o p w) := by
  have hf := DD.fit hek
  have c0 : w.cell? ⟨O, 0, none⟩ = some (.bool o.sync) := by simp [World.cell?, show w.heap[O]? = _ from hO]
  have c1 : w.cell? ⟨O, 1, none⟩ = some (.int .i64 o.block) := by simp [World.cell?, show w.heap[O]? = _ from hO]
  have c2 : w.cell? ⟨O, 2, none⟩ = some (.slice a o.bytes.length c) := by simp [World.cell?, show w.heap[O]? = _ from hO]
  have v0 : w.cell? ⟨V, 0, none⟩ = some (.pointer (some ⟨p, 0, none⟩)) := by simp [World.cell?, show w.heap[V]? = _ from hV]
  have hpend : ∀ z, (Value.slice pa e.waiting.length pc).ownBlock = some z → p < z ∧ IsT 160 w z := fun z hz => ⟨(owns_isT hDr.own hz).2, (owns_isT hDr.own hz).1⟩
  obtain ⟨sy, bk, by_⟩ := o
  cases sy with
  | true =>
    have hs : e.step ⟨true, bk, by_⟩ = ⟨settleN keepAll e.blocks e.waiting e.waiting.length, []⟩ := (if_pos rfl).trans (settle_yes hek keepAll)
    have hsk : (e.step ⟨true, bk, by_⟩).ok = true := by
      rw [hs]
      exact fit_okQ ⟨by show (settleN _ _ _ _).length = 130; rw [settleN_length]; exact hf.bl, Nat.zero_le _, settleN_all hf.bb (fun x hx => (hf.wb x hx).2.2) _ (Nat.le_refl _), fun x hx => (by cases hx)⟩
    have hs' : Hid _ := hs
    have hsk' : Hid _ := hsk
    clear hs hsk
    go_enter Tryz.func99, Tryz.ntmps99
    go_wp2_with (go_at_call 100; refine (syncK_any p e.blocks pa pc e.waiting kv w (by have := hf.wl; omega) (fun x hx => ⟨(hf.wb x hx).1, (hf.wb x hx).2.1⟩) hDr).mono ?_; rintro r w2 ⟨rfl, hD2, hK2⟩)
    go_ret
    exact Or.inl ⟨hsk'.out, rfl, ⟨none, 0, _, by rw [hs'.out]; exact hD2⟩, hK2.mono (fun _ _ e => Or.inl e)⟩
  | false =>
    have hs : e.step ⟨false, bk, by_⟩ = e.put bk by_ := if_neg (by simp)
    have hs' : Hid _ := hs
    clear hs
    cases hwr : wrOk ⟨bk, by_⟩ with
    | false =>
      have hz : (e.step ⟨false, bk, by_⟩).ok = false := by rw [hs'.out, put_no2 hwr]; rfl
      have hz' : Hid _ := hz
      have hwr' : Hid _ := hwr
      clear hz hwr
      go_enter Tryz.func99, Tryz.ntmps99
      go_wp2_with (go_at_call 101; refine (drvPut_no ⟨bk, by_⟩ a c p e.blocks pa pc e.waiting kv w hi hbl (by have := hf.wl; omega) (Or.inl hwr'.out) hDr).mono ?_; rintro r w2 ⟨rfl, hb2⟩)
      go_ret
      exact Or.inr ⟨hz'.out, rfl, hb2⟩
    | true =>
      have hwr' : Hid _ := hwr
      by_cases h200 : e.waiting.length = 200
      · have hz : (e.step ⟨false, bk, by_⟩).ok = false := by rw [hs'.out, put_no3 h200]; rfl
        have hz' : Hid _ := hz
        have h200' : Hid _ := h200
        clear hz hwr h200
        go_enter Tryz.func99, Tryz.ntmps99
        go_wp2_with (go_at_call 101; refine (drvPut_no ⟨bk, by_⟩ a c p e.blocks pa pc e.waiting kv w hi hbl (by have := hf.wl; omega) (Or.inr h200'.out) hDr).mono ?_; rintro r w2 ⟨rfl, hb2⟩)
        go_ret
        exact Or.inr ⟨hz'.out, rfl, hb2⟩
      · have hput : e.step ⟨false, bk, by_⟩ = ⟨e.blocks, e.waiting ++ [⟨bk, by_⟩]⟩ := hs'.out.trans (put_yes hek hwr h200)
        have hwr2 : 0 ≤ bk ∧ bk < 130 ∧ by_.length = 64 := by
          have h := hwr
          simp only [wrOk, Bool.and_eq_true, decide_eq_true_eq] at h
          exact ⟨h.1.1, h.1.2, h.2⟩
        have hyk : (e.step ⟨false, bk, by_⟩).ok = true := by
          rw [hput]
          refine fit_okQ ⟨hf.bl, ?_, hf.bb, fun x hx => ?_⟩
          · show (e.waiting ++ [(⟨bk, by_⟩ : DW)]).length ≤ 200
            have := hf.wl
            simp
            omega
          · rcases List.mem_append.1 hx with hx | hx
            · exact hf.wb x hx
            · obtain rfl : x = ⟨bk, by_⟩ := by simpa using hx
              exact hwr2
        have hfar : ∀ b off, a = some ⟨b, off, none⟩ → b < p := fun b off ea => by
          obtain ⟨b1, off1, e1, hc1⟩ := hby 0 (by show 0 < by_.length; omega)
          rw [ea] at e1
          injection e1 with e1
          injection e1 with e1 e2
          subst e1
          have := World.block_lt_of_cell? _ _ hc1
          have h2 : b < w0.heap.size := this
          omega
        have hput' : Hid _ := hput
        have hyk' : Hid _ := hyk
        have h200' : Hid _ := h200
        clear hput hyk hwr h200 hwr2
        go_enter Tryz.func99, Tryz.ntmps99
        go_wp2_with (go_at_call 101; refine (drvPutK_yes ⟨bk, by_⟩ a c p e.blocks pa pc e.waiting kv w hi hbl hf.wl hwr'.out h200'.out hbw hfar hDr).mono ?_; rintro r w2 ⟨rfl, pa2, pc2, hD2, hK2⟩)
        go_ret
        exact Or.inl ⟨hyk'.out, rfl, ⟨pa2, pc2, kv, by rw [hput'.out]; exact hD2⟩, hK2.mono (fun z _ ez => ez.imp id (hpend z))⟩

end Go.Proofs.YthjddpkegooobacGreat

/-
  ARANGE: a range over a function that does something between its rounds. Own work, over the library's own law of such ranges.
-/
namespace Go.Proofs.YthjddpkegooobacGreat
open Go.RowKit Go.Shelf
attribute [local go_sem] Oper.semAt_some

/-- how a round may be left: it goes on and has changed nothing, or it stops -/
def doPost (x : Bool) (sw : World → World) (W : World) : Exit → Act → World → Prop
  | .normal, _, W' => x = true ∧ W' = W
  | .ret, _, W' => x = false ∧ W' = sw W
  | _, _, _ => False

/-- what a round answers -/
def RoundA (l D : Nat) (rd dn : Loop) (G : World → Prop) (sw : World → World) (x : Bool) (W : World) (e : Ending) (W' : World) : Prop :=
  W'.heap[D]? = some (.deferred (some [])) ∧
  ((x = true ∧ e = .returned (.bool true) ∧ G W' ∧ W'.heap[l]? = some (.loop rd) ∧ ∃ o, W' = (W.putObj l o).putObj l (.loop rd)) ∨
   (x = false ∧ e = .returned (.bool false) ∧ W'.heap[l]? = some (.loop dn) ∧ ∃ o, G (W.putObj l o) ∧ W' = (sw (W.putObj l o)).putObj l (.loop dn)))

theorem wpIn_range_do {P : Program} {n : Nat} {g : Operand} {ps : Array Tmp} {assign body : Code} {Q : Exit → Act → World → Prop} {a : Act} {w : World} (h1 : 1 ≤ n) {gf : Nat} {lb : Array Value} (hg : a.eval g = .func (.func gf) #[] lb) (eg : ∀ args w, (callFunc gf args).run P w = .ok (.enter gf args) w) (hps : ps.size = 1)
    (sw : World → World) (hsw : ∀ W, KeepsOthers W (sw W)) (G : World → Prop) (hG : ∀ W l r o, G W → W.heap[l]? = some (.loop r) → G (W.putObj l o)) (a₁ : Bool → Act)
    (hassign : ∀ (l : Nat) (x : Bool) (W : World) (K : Act → World → Prop), K (a₁ x) W →
      assign.wpIn (Fence.wide.inRound l) (n - 1 - 1) P (Exit.then K (fun _ _ _ => False)) { tmps := (ps.zip #[Value.bool x]).foldl (fun t (p, v) => t.setIfInBounds p v) a.tmps, defers := [] } W)
    (hbody : ∀ (l : Nat) (x : Bool) (W : World), G W → body.wpIn (Fence.wide.inRound l) (n - 1 - 1) P (doPost x sw W) (a₁ x) W)
    (Done Stop : World → Prop)
    (hseq : ∀ (rd dn : Loop), (∀ (x : Bool) (W : World), G W → W.heap[w.heap.size + 1]? = some (.loop rd) → W.heap[w.heap.size]? = some (.deferred (some [])) → YieldAt Fence.wide (n - 1 - 1) P (w.heap.size + 1) #[Value.bool x] W (RoundA (w.heap.size + 1) w.heap.size rd dn G sw x W)) →
      CallsIn Fence.wide (n - 1) P gf (#[.func (.yield (w.heap.size + 1)) #[] #[]] ++ lb) ((w.alloc (.deferred (some []))).alloc (.loop rd)) fun e W' => (∃ v, e = .returned v) ∧ W'.heap[w.heap.size]? = some (.deferred (some [])) ∧ ((Done W' ∧ W'.heap[w.heap.size + 1]? = some (.loop rd)) ∨ (Stop W' ∧ W'.heap[w.heap.size + 1]? = some (.loop dn))))
    (hdone : ∀ (W : World) (o : Obj), Done W → W.heap[w.heap.size]? = some (.deferred (some [])) → (∃ r, W.heap[w.heap.size + 1]? = some (.loop r)) → Q .normal { a with defers := { target := .collected w.heap.size, args := #[] } :: a.defers } (W.putObj (w.heap.size + 1) o))
    (hstop : ∀ (W : World) (o : Obj), Stop W → W.heap[w.heap.size]? = some (.deferred (some [])) → Code.ret.wpIn Fence.wide n P Q { a with defers := { target := .collected w.heap.size, args := #[] } :: a.defers } (W.putObj (w.heap.size + 1) o)) :
    (Code.rangeFunc g ps assign body).wpIn Fence.wide n P Q a w := by
  refine wpIn_rangeFunc ?_
  intro fn hfn
  rw [show Fence.wide.round = none from rfl]
  obtain ⟨rec, hrec⟩ : ∃ rec : LoopState → Option Code → Loop, rec = fun st pe => { state := st, pending := pe, fn, tmps := a.tmps, params := ps, assign, body, defers := w.heap.size } := ⟨_, rfl⟩
  obtain ⟨W1, hW1⟩ : ∃ W1, (w.alloc (.deferred (some []))).alloc (.loop (rec .ready none)) = W1 := ⟨_, rfl⟩
  refine ⟨w.heap.size + 1, [{ target := .collected w.heap.size, args := #[] }], W1, { target := .fn (.func gf) lb, args := #[.func (.yield (w.heap.size + 1)) #[] #[]] }, W1, gf,
    #[.func (.yield (w.heap.size + 1)) #[] #[]] ++ lb, W1, ?_, ?_, ?_, ?_, fun _ => h1, ?_⟩
  · rw [← hW1, hrec]; exact run_enterLoop_outer _ _ _ _ _
  · simp only [resolve, hg]
    simp [go_sem]
  · intro f' hf'; trivial
  · simp [invoke, go_sem, eg]
  · rw [← hW1]
    refine (hseq (rec .ready none) (rec .done (some .ret)) ?_).mono ?_
    · intro x W hi hl hk
      have hlt : w.heap.size + 1 < W.heap.size := (Array.getElem?_eq_some_iff.1 hl).1
      have hy := run_yield (P := P) (args := #[Value.bool x]) hl (by rw [hrec]; exact hps.symm)
      rw [hrec] at hy
      refine ⟨fn, _, assign, body, hy, roundIn_of_wpIn hfn (hassign _ x W _ ⟨_, run_beginRound hl (by rw [hrec]), ?_⟩)⟩
      have hl2 : (W.putObj (w.heap.size + 1) (.loop { rec .ready none with state := .busy })).heap[w.heap.size + 1]? = some (.loop { rec .ready none with state := .busy }) := World.putObj_heap_same hlt
      have hk2 : (W.putObj (w.heap.size + 1) (.loop { rec .ready none with state := .busy })).heap[w.heap.size]? = some (.deferred (some [])) := (World.putObj_heap_other (by omega)).trans hk
      have hG2 := hG W _ _ (.loop { rec .ready none with state := .busy }) hi hl
      refine wpIn_mono (hbody _ x _ hG2) ?_
      have fin : ∀ (jump : Option Code) (W3 : World), KeepsOthers (W.putObj (w.heap.size + 1) (.loop { rec .ready none with state := .busy })) W3 →
          (Instr.endRound (w.heap.size + 1) jump).run P W3 = .ok (.bool jump.isNone) (W3.putObj (w.heap.size + 1) (.loop (rec (if jump.isNone then .ready else .done) jump))) ∧
          W3.heap[w.heap.size + 1]? = some (.loop { rec .ready none with state := .busy }) ∧
          (W3.putObj (w.heap.size + 1) (.loop (rec (if jump.isNone then .ready else .done) jump))).heap[w.heap.size + 1]? = some (.loop (rec (if jump.isNone then .ready else .done) jump)) ∧
          (W3.putObj (w.heap.size + 1) (.loop (rec (if jump.isNone then .ready else .done) jump))).heap[w.heap.size]? = some (.deferred (some [])) := fun jump W3 hk3 => by
        have hl3 := hk3.same _ _ hl2 rfl
        have := run_endRound (P := P) jump hl3
        rw [hrec] at this ⊢
        exact ⟨this, by rw [hrec] at hl3; exact hl3, World.putObj_heap_same (Array.getElem?_eq_some_iff.1 hl3).1, (World.putObj_heap_other (by omega)).trans (hk3.same _ _ hk2 rfl)⟩
      rintro e a3 W3 hp
      cases e with
      | normal =>
        obtain ⟨hx, rfl⟩ := hp
        obtain ⟨hr, hl3, hl4, hk4⟩ := fin none _ (KeepsOthers.refl _)
        exact ⟨_, _, hr, hk4, .inl ⟨hx, rfl, hG _ _ _ _ hG2 hl3, hl4, _, rfl⟩⟩
      | ret =>
        obtain ⟨hx, rfl⟩ := hp
        obtain ⟨hr, hl3, hl4, hk4⟩ := fin (some .ret) _ (hsw _)
        exact ⟨_, _, hr, hk4, .inr ⟨hx, rfl, hl4, _, hG2, rfl⟩⟩
      | exit id => exact hp.elim
      | goto t => exact hp.elim
      | panic ch => exact hp.elim
      | outgrown => exact hp.elim
    · rintro e W2 ⟨⟨v, rfl⟩, hk, (⟨hD, hl⟩ | ⟨hS, hl⟩)⟩
      · exact ⟨none, _, by have := run_endLoop (P := P) hl (by rw [hrec]; simp); rw [hrec] at this; exact this, hdone _ _ hD hk ⟨_, hl⟩⟩
      · exact ⟨some .ret, _, by have := run_endLoop (P := P) hl (by rw [hrec]; simp); rw [hrec] at this; exact this, hstop _ _ hS hk⟩

end Go.Proofs.YthjddpkegooobacGreat

/-
  AOUT: the program's steps, done one after the other, each outcome handed on. Own work.
-/
namespace Go.Proofs.YthjddpkegooobacGreat
open Go.RowKit Go.Shelf
attribute [local go_sem] Oper.semAt_some

set_option maxRecDepth 100000 in
theorem outcomes_any (sa : Option Addr) (n sc : Nat) (w : World) :
    Calls Tryz.prog 63 #[.slice sa n sc] w fun e w' => e = .returned (.func (.func 98) #[] #[.pointer (some ⟨w.heap.size, 0, none⟩)]) ∧ w' = w.alloc (.cells #[.slice sa n sc] 113) := by
  go_enter Tryz.func63, Tryz.ntmps63
  go_wp2
  go_ret
  exact ⟨rfl, by simp⟩

/-- the steps' box -/
def BBx (w : World) (B : Nat) (sa : Option Addr) (n sc : Nat) : Prop := w.heap[B]? = some (.cells #[.slice sa n sc] 113 (0, 0))

/-- what stands between two steps -/
structure AI (w0 wA : World) (base V p B R : Nat) (d : DD) (ops : List OP) (sa : Option Addr) (sc : Nat) (obs : List Nat) (j : Nat) (W : World) : Prop where
  dr : ∃ e pa pc kv, applyN d ops j = some e ∧ e.ok = true ∧ Dr W p e.blocks pa pc e.waiting kv
  rd : Ready w0 W base V p ops ops.length sa sc obs
  bx : BBx W B sa ops.length sc
  bB : base ≤ B
  vr : VB W R (.slice none 0 0) (.slice none 0 0)
  bel : Below wA.heap.size wA W
  b0 : Below w0.heap.size w0 W

theorem AI.kept {q : Nat → Prop} {w0 wA W W' : World} {base V p B R : Nat} {d : DD} {ops : List OP} {sa : Option Addr} {sc : Nat} {obs : List Nat} {j : Nat} (h : AI w0 wA base V p B R d ops sa sc obs j W) (hK : Kept q W W') (_hp : p < base) (hR : R < p) (hA : wA.heap.size ≤ p) (h0 : w0.heap.size ≤ p)
    (hq : ∀ z, q z → p < z ∧ ∀ t, IsT t W z → False) : AI w0 wA base V p B R d ops sa sc obs j W' := by
  obtain ⟨e, pa, pc, kv, he, hek, hD⟩ := h.dr
  have hno : ∀ t z, IsT t W z → ¬ q z := fun t z hz hz2 => (hq z hz2).2 t hz
  exact {
    dr := ⟨e, pa, pc, kv, he, hek, ⟨hD.d.kept hK (fun e => by have := (hq _ e).1; omega), hK.owns hD.own (fun z hz => hno _ z (owns_isT hD.own hz).1), hD.w64⟩⟩
    rd := h.rd.kept hK (fun z _ hz => hno _ z hz) (fun z _ hz => hno _ z hz) (fun z _ hz => hno _ z hz)
    bx := (hK.block B (IsT.lt ⟨_, h.bx⟩) (hno _ _ ⟨_, h.bx⟩)).trans h.bx
    bB := h.bB
    vr := h.vr.kept hK (fun e => by have := (hq _ e).1; omega)
    bel := h.bel.trans (hK.below h.bel.size (fun z hz e => by have := (hq _ e).1; omega))
    b0 := h.b0.trans (hK.below h.b0.size (fun z hz e => by have := (hq _ e).1; omega)) }

theorem Moved.lp {p : Nat} {W W' : World} (hM : Moved p W W') {l : Nat} {o : Obj} (hl : W.heap[l]? = some o) (ho : o.isCells = false) (hp : p < l) : W'.heap[l]? = some o := by
  refine (hM.block l (Array.getElem?_eq_some_iff.1 hl).1 ?_).trans hl
  rintro (e | ⟨_, c, hc⟩)
  · omega
  · rw [hl] at hc
    cases hc
    cases ho

theorem AI.step {w0 wA W W' : World} {base V p B R : Nat} {d : DD} {ops : List OP} {sa : Option Addr} {sc : Nat} {obs : List Nat} {j : Nat} (h : AI w0 wA base V p B R d ops sa sc obs j W) (hM : Moved p W W') (hp : p < base) (hR : R < p) (hA : wA.heap.size ≤ p) (h0 : w0.heap.size ≤ p)
    {e : DD} (he : applyN d ops j = some e) (hk : (e.step ops[j]!).ok = true) {pa : Option Addr} {pc : Nat} {kv : Value} (hD : Dr W' p (e.step ops[j]!).blocks pa pc (e.step ops[j]!).waiting kv) : AI w0 wA base V p B R d ops sa sc obs (j + 1) W' := by
  have hno : ∀ t z, t ≠ 160 → base ≤ z → IsT t W z → ¬ (z = p ∨ (p < z ∧ IsT 160 W z)) := fun t z ht hz hT hq => by
    rcases hq with e | ⟨_, hq⟩
    · omega
    · exact ht (hT.eq hq)
  have hB0 : ∀ z, (z = p ∨ (p < z ∧ IsT 160 W z)) → p ≤ z := fun z hq => by
    rcases hq with e | ⟨hq, _⟩ <;> omega
  exact {
    dr := ⟨_, pa, pc, kv, applyN_yes he hk, hk, hD⟩
    rd := h.rd.kept hM (fun z hz hT => hno _ z (by decide) hz hT) (fun z hz hT => hno _ z (by decide) hz hT) (fun z hz hT => hno _ z (by decide) hz hT)
    bx := (hM.block B (IsT.lt ⟨_, h.bx⟩) (hno _ _ (by decide) h.bB ⟨_, h.bx⟩)).trans h.bx
    bB := h.bB
    vr := h.vr.kept hM (fun e => by have := hB0 _ e; omega)
    bel := h.bel.trans (hM.below h.bel.size (fun z hz e => by have := hB0 _ e; omega))
    b0 := h.b0.trans (hM.below h.b0.size (fun z hz e => by have := hB0 _ e; omega)) }

/-- the answer's own variable, made empty -/
def emptyR (R : Nat) (W : World) : World := (W.setCell ⟨R, 0, none⟩ (.slice none 0 0)).setCell ⟨R, 1, none⟩ (.slice none 0 0)
/-- one of the ops could not be done -/
def AStop (wA : World) (R : Nat) (d : DD) (ops : List OP) (W : World) : Prop := (∃ j, j < ops.length ∧ applyN d ops (j + 1) = none) ∧ VB W R (.slice none 0 0) (.slice none 0 0) ∧ Below wA.heap.size wA W

theorem keptPutA (W : World) (l : Nat) (o' : Obj) : Kept (fun z => z = l) W (W.putObj l o') := (Kept.of_grown (grownBy_putObj' W l o')).mono (fun z _ e => by cases e; rfl)

set_option maxRecDepth 100000 in
set_option maxHeartbeats 4000000 in
theorem out1_in (n : Nat) (_hn : 1 ≤ n) (w0 wA : World) (base V p B R l D : Nat) (d : DD) (ops : List OP) (sa : Option Addr) (sc : Nat) (obs : List Nat) (rd dn : Loop) (hp : p < base) (hR : R < p) (hRA : wA.heap.size ≤ R) (h0 : w0.heap.size ≤ p) (hl : p < l) (hD : p < D) (hln : ops.length ≤ 1048576) (hops : ∀ o, o ∈ ops → I64 o.block ∧ o.bytes.length ≤ maxLen)
    (hY : ∀ (x : Bool) (W : World), VB W R (.slice none 0 0) (.slice none 0 0) → W.heap[l]? = some (.loop rd) → W.heap[D]? = some (.deferred (some [])) → YieldAt Fence.wide (n - 1) Tryz.prog l #[Value.bool x] W (RoundA l D rd dn (fun W => VB W R (.slice none 0 0) (.slice none 0 0)) (emptyR R) x W))
    (W : World) (hI : AI w0 wA base V p B R d ops sa sc obs 0 W) (hlW : W.heap[l]? = some (.loop rd)) (hDW : W.heap[D]? = some (.deferred (some []))) :
    CallsIn Fence.wide n Tryz.prog 98 #[.func (.yield l) #[] #[], .pointer (some ⟨B, 0, none⟩)] W fun e W' => (∃ v, e = .returned v) ∧ W'.heap[D]? = some (.deferred (some [])) ∧ ((AI w0 wA base V p B R d ops sa sc obs ops.length W' ∧ W'.heap[l]? = some (.loop rd)) ∨ (AStop wA R d ops W' ∧ W'.heap[l]? = some (.loop dn))) := by
  have hlo : ∀ {W : World} {t : TypeId}, W.heap[l]? = some (.loop rd) → IsT t W l → False := fun h ⟨c, hc⟩ => by rw [h] at hc; cases hc
  obtain ⟨m, hm⟩ := hid_ex ops.length
  have hm2 : m ≤ 1048576 := by rw [hm.out]; exact hln
  have b0 : W.cell? ⟨B, 0, none⟩ = some (.slice sa m sc) := by rw [hm.out]; simp [World.cell?, show W.heap[B]? = _ from hI.bx]
  refine callsIn_of_wp Tryz.func98 rfl trivial ?_ rfl
  simp only [Tryz.ntmps98, List.size_toArray, List.length_cons, List.length_nil, Nat.reduceAdd, Nat.reduceSub, Array.replicate_succ, Array.replicate_zero, List.push_toArray, List.append_toArray, List.nil_append, List.cons_append]
  gi_wp2
  gi_loopw [7] (fun i wr => ∃ j : Nat, j ≤ m ∧ i = .int .i64 (j : Int) ∧ AI w0 wA base V p B R d ops sa sc obs j wr ∧ wr.heap[l]? = some (.loop rd) ∧ wr.heap[D]? = some (.deferred (some []))) (fun i _ => m - (intOf i).toNat)
  case atStart => exact ⟨0, Nat.zero_le _, rfl, hI, hlW, hDW⟩
  case round =>
    obtain ⟨j, hj, rfl, hJ, hl1, hD1⟩ := hrel
    by_cases hlt : j < m
    · have hji : (j : Int) < (m : Int) := by omega
      have hj0 : (0 : Int) ≤ (j : Int) := by omega
      have hjo : j < ops.length := by rw [← hm.out]; exact hlt
      obtain ⟨e, pa, pc, kv, he, hek, hDr⟩ := hJ.dr
      have hro := hJ.rd.row
      obtain ⟨a, c, hOb, hby, hbO⟩ := hJ.rd.ob j hjo
      obtain ⟨O, hO⟩ := hid_ex obs[j]!
      rw [← hO.out] at hOb hbO
      obtain ⟨o, ho⟩ := hid_ex ops[j]!
      rw [← ho.out] at hOb hby
      have hom : o ∈ ops := by rw [ho.out]; exact mem_at hjo
      have hlen := hJ.rd.len
      obtain ⟨g, rfl, _, _, cg⟩ := owns_cell hro (j := j) (u := stepV V O) (by rw [List.getElem?_map, List.getElem?_eq_getElem (by omega), hO.out, getElem!_pos obs j (by omega)]; rfl)
      have cg2 : wr.cell? ⟨g, j, none⟩ = some (.func (.func 99) #[] #[.pointer (some ⟨O, 0, none⟩), .pointer (some ⟨V, 0, none⟩)]) := cg
      clear cg hro
      have hstep : Hid (e.step ops[j]! = e.step o) := by show _ = _; rw [ho.out]
      gi_wp2_with fail
      refine ⟨trivial, (callsIn_wide.2 (one_any O V p o a c e pa pc kv w0 wr hOb hJ.rd.v hby h0 (hby.grow hJ.b0) (hops o hom).1 (hops o hom).2 hek hDr)).mono ?_⟩
      rintro r w2 (⟨hsk, rfl, ⟨pa2, pc2, kv2, hD2⟩, hM2⟩ | ⟨hsk, rfl, hb2⟩)
      · have hJ2 := hJ.step hM2 hp hR (by omega) h0 he (by rw [hstep.out]; exact hsk) (by rw [hstep.out]; exact hD2)
        have hl2 := hM2.lp hl1 rfl hl
        have hDd2 := hM2.lp hD1 rfl hD
        obtain ⟨fn, tmps, assign, body, hy, hRd⟩ := hY true w2 hJ2.vr hl2 hDd2
        gi_wp2
        refine hRd.mono ?_
        rintro r2 W3 ⟨hD3, ⟨_, rfl, hv3, hl3, o2, rfl⟩ | ⟨h, _⟩⟩
        · have hKl : Kept (fun z => z = l) w2 ((w2.putObj l o2).putObj l (.loop rd)) := (keptPutA _ _ _).trans (keptPutA _ _ _) (fun _ _ e => e)
          have hJ3 := hJ2.kept hKl hp hR (by omega) h0 (fun z e => by subst e; exact ⟨hl, fun t ht => hlo hl2 ht⟩)
          generalize (w2.putObj l o2).putObj l (.loop rd) = W3 at hD3 hl3 hJ3 ⊢
          clear hKl hv3
          gi_wp2
          go_roundw
          case rel => exact ⟨j + 1, by omega, by go_num, hJ3, hl3, hD3⟩
          case measure => simp [intOf]; omega
        · cases h
      · have hl2 := (hb2.block l (Array.getElem?_eq_some_iff.1 hl1).1).trans hl1
        have hDd2 := (hb2.block D (Array.getElem?_eq_some_iff.1 hD1).1).trans hD1
        have hv2 := hJ.vr.grow hb2
        obtain ⟨fn, tmps, assign, body, hy, hRd⟩ := hY false w2 hv2 hl2 hDd2
        gi_wp2
        refine hRd.mono ?_
        rintro r2 W3 ⟨hD3, ⟨h, _⟩ | ⟨_, rfl, hl3, o2, hv3, rfl⟩⟩
        · cases h
        · have hK1 := keptPutA w2 l o2
          have hK2 : Kept (fun z => z = R) (w2.putObj l o2) (emptyR R (w2.putObj l o2)) := ((Kept.refl (fun z => z = R) (w2.putObj l o2)).set (a := ⟨R, 0, none⟩) (fun _ => rfl) _).set (a := ⟨R, 1, none⟩) (fun _ => rfl) _
          have hK3 := keptPutA (emptyR R (w2.putObj l o2)) l (.loop dn)
          have hv4 : VB (emptyR R (w2.putObj l o2)) R (.slice none 0 0) (.slice none 0 0) := (hv3.set0 (.slice none 0 0)).set1 (.slice none 0 0)
          have hv5 := hv4.kept hK3 (by omega)
          have hKa : Kept (fun z => z = l ∨ z = R) w2 ((emptyR R (w2.putObj l o2)).putObj l (.loop dn)) := ((hK1.mono (fun _ _ e => Or.inl e)).trans (hK2.mono (fun _ _ e => Or.inr e)) (fun _ _ e => e)).trans (hK3.mono (fun _ _ e => Or.inl e)) (fun _ _ e => e)
          have hb3 : Below wA.heap.size wA w2 := gca hJ.bel hb2
          have hb4 : Below wA.heap.size wA ((emptyR R (w2.putObj l o2)).putObj l (.loop dn)) := hb3.trans (hKa.below hb3.size (fun z hz e => by omega))
          have hstopA : AStop wA R d ops ((emptyR R (w2.putObj l o2)).putObj l (.loop dn)) := ⟨⟨j, hjo, applyN_no he (by rw [hstep.out]; exact hsk)⟩, hv5, hb4⟩
          generalize (emptyR R (w2.putObj l o2)).putObj l (.loop dn) = W3 at hD3 hl3 hstopA ⊢
          clear hK1 hK2 hK3 hKa hv3 hv4
          gi_wp2
          refine bodyPost_ret (results_none rfl _ _ _) rfl ?_
          exact ⟨⟨_, rfl⟩, hD3, .inr ⟨hstopA, hl3⟩⟩
    · obtain rfl : j = m := by omega
      have hji : ¬ ((j : Int) < (j : Int)) := by omega
      gi_wp2
      go_end0
      exact ⟨⟨_, rfl⟩, hD1, .inl ⟨by rw [← hm.out]; exact hJ, hl1⟩⟩

end Go.Proofs.YthjddpkegooobacGreat

/-
  IAPPLY: the program's Apply. Own work.
-/
namespace Go.Proofs.YthjddpkegooobacGreat
open Go.RowKit Go.Shelf
attribute [local go_sem] Oper.semAt_some

/-- the disk behind the first ops -/
def DD.apply (d : DD) (ops : List OP) (n : Int) : DD := if d.ok = true ∧ 0 ≤ n ∧ n ≤ (ops.length : Int) then (applyN d ops n.toNat).getD zeroD else zeroD

/-- the same, where nothing panics -/
def noPanicA (Q : Exit → Act → World → Prop) : Exit → Act → World → Prop
  | .panic _, _, _ => False
  | e, a, w => Q e a w
theorem noPanicA_le (Q : Exit → Act → World → Prop) : ∀ e a w, noPanicA Q e a w → Q e a w := fun e a w h => by
  cases e <;> first | exact h | exact h.elim

theorem opsAt_take {w : World} {a : Option Addr} {ops : List OP} (h : OpsAt w a ops) (k : Nat) : OpsAt w a (ops.take k) := fun i hi => by
  have h1 : i < ops.length ∧ i < k := by simp at hi; omega
  have e : (ops.take k)[i]! = ops[i]! := by rw [getElem!_pos _ i hi, getElem!_pos ops i h1.1, List.getElem_take]
  rw [e]
  exact h i h1.1
theorem applyN_take {d : DD} {ops : List OP} {k : Nat} : ∀ j, j ≤ k → j ≤ ops.length → applyN d (ops.take k) j = applyN d ops j
  | 0, _, _ => rfl
  | j + 1, h, hl => by
    have e : (ops.take k)[j]! = ops[j]! := by rw [getElem!_pos _ j (by simp; omega), getElem!_pos ops j (by omega), List.getElem_take]
    show (applyN d (ops.take k) j).bind _ = (applyN d ops j).bind _
    rw [applyN_take j (by omega) (by omega), e]

set_option maxHeartbeats 4000000 in
set_option maxRecDepth 100000 in
theorem implApply_any (d : DD) (l : DL) (oa : Option Addr) (ops : List OP) (oc : Nat) (n : Int) (w : World) (hd : d.Ok) (ha : DAt w l d) (hoa : OpsAt w oa ops) (hoc : ops.length ≤ oc) (hol : ops.length ≤ 1048576) (hok : OpsOk ops) (hn : I64 n) :
    Calls Tryz.prog 28 #[d.val l, .slice oa ops.length oc, .int .i64 n] w (DPost (d.apply ops n) w) := by
  have hA := gal (gal (gre w) (.cells #[.slice l.ba d.blocks.length l.bc, .slice l.wa d.waiting.length l.wc] 35)) (.cells #[.slice none 0 0, .slice none 0 0] 35)
  have hX0 := (DBox.new w d l 35).grow (gal (gre _) (.cells #[.slice none 0 0, .slice none 0 0] 35))
  have hR0 := VB.new_at (w.alloc (.cells #[.slice l.ba d.blocks.length l.bc, .slice l.wa d.waiting.length l.wc] 35)) (.slice none 0 0) (.slice none 0 0) 35 (w.heap.size + 1) (by simp)
  refine callsIn_wide.1 (callsIn_of_wp_marks (F := Fence.wide) (n := 5) Tryz.func28 rfl trivial ?_ rfl)
  refine wpIn_wide.2 (Go.Code.wp_mono (noPanicA_le _) ?_)
  simp only [Tryz.ntmps28, List.size_toArray, List.length_cons, List.length_nil, Nat.reduceAdd, Nat.reduceSub, Array.replicate_succ, Array.replicate_zero, List.push_toArray, List.append_toArray, List.nil_append, List.cons_append]
  cases hok2 : d.ok with
  | false =>
    have hok' : Hid _ := hok2
    have hz : d.apply ops n = zeroD := if_neg (fun h => by rw [hok2] at h; cases h.1)
    rw [hz]
    clear hok2 hz
    go_wp2_with (go_at_call 49; refine (implDiskOk_any d l _ hd (ha.grow hA)).mono ?_; rintro e w2 ⟨rfl, hb2⟩; rw [hok'.out]; obtain ⟨z0, z1, zf⟩ := hR0.grow hb2)
    obtain ⟨c0, c1, K⟩ := ret2 (A := .slice none 0 0) (B := .slice none 0 0) z0 z1
    refine ⟨.agg #[.slice none 0 0, .slice none 0 0], by simp [results, Tryz.results28, go_sem, c0, c1], DPost.zero ?_⟩
    exact (gca hA hb2).trans (K.below (gca hA hb2).size (fun z hz e => by omega))
  | true =>
    have hok' : Hid _ := hok2
    have hfit := DD.fit hok2
    by_cases hr : 0 ≤ n ∧ n ≤ (ops.length : Int)
    · obtain ⟨N, rfl⟩ : ∃ N : Nat, n = (N : Int) := ⟨n.toNat, by omega⟩
      have hN : N ≤ ops.length := by omega
      have hz : d.apply ops N = (applyN d ops N).getD zeroD := if_pos ⟨hok2, hr.1, hr.2⟩
      obtain ⟨c, hc⟩ := hid_ex ((applyN d ops N).getD zeroD)
      rw [hz, ← hc.out]
      have t1 : ¬ ((N : Int) < 0) := by omega
      have t2 : ¬ ((ops.length : Int) < (N : Int)) := by omega
      have t3 : (N : Int) ≤ (oc : Int) := by omega
      clear hz hok2 hr
      go_upto_region 4 with (first
        | (go_at_call 49; refine (implDiskOk_any d l _ hd (ha.grow hA)).mono ?_; rintro e w2 ⟨rfl, hb2⟩; rw [hok'.out]; obtain ⟨_, x0, x1⟩ := hX0.grow hb2)
        | (go_at_call 62; refine (driveOf_any d l _ hfit (ha.grow (gca hA hb2))).mono ?_; rintro e w3 ⟨p, pa, pc, rfl, hp3, hDr, hb3⟩))
      have hlen : (ops.take N).length = N := by simp; omega
      have hbA3 := gca (gca hA hb2) hb3
      have hst := steps_any p oa oc (ops.take N) w w3 (by omega) (opsAt_take hoa N) hbA3
      rw [hlen] at hst
      have hR3 := (hR0.grow hb2).grow hb3
      have hwp : w.heap.size + 1 < p := by have := hR0.grow hb2; have := this.lt; omega
      have hops : ∀ o, o ∈ ops.take N → I64 o.block ∧ o.bytes.length ≤ maxLen := fun o ho => ⟨hok.bl o (List.mem_of_mem_take ho), (hok.by_ o (List.mem_of_mem_take ho)).1⟩
      clear x0 x1
      go_wp2_with (first
        | (go_at_call 64; refine hst.mono ?_; rintro e w4 ⟨sa, sc, V, obs, rfl, hrd, hb4⟩; rw [hlen])
        | (go_at_call 63; refine (outcomes_any sa N sc w4).mono ?_; rintro e w5 ⟨rfl, hw5⟩))
      have hb4' := hb4
      have hI0 : AI w w w3.heap.size V p w4.heap.size (w.heap.size + 1) d (ops.take N) sa sc obs 0 (w4.alloc (.cells #[.slice sa N sc] 113)) := {
        dr := ⟨d, pa, pc, .nilFunc, rfl, hok'.out, hDr.grow (gal hb4 _)⟩
        rd := hrd.kept ((Kept.refl (fun _ => False) w4).alloc _) (fun _ _ _ e => e) (fun _ _ _ e => e) (fun _ _ _ e => e)
        bx := by rw [hlen]; exact World.alloc_heap_new w4 _
        bB := hb4.size
        vr := hR3.grow (gal hb4 _)
        bel := gal (gca hbA3 hb4) _
        b0 := gal (gca hbA3 hb4) _ }
      have hs5 : (w4.alloc (.cells #[.slice sa N sc] 113)).heap.size = w4.heap.size + 1 := by simp
      have hpb : p < w3.heap.size := hDr.d.lt
      have hs34 := hb4.size
      generalize w4.alloc (.cells #[.slice sa N sc] 113) = w5 at hI0 hs5 ⊢
      clear hst hrd hb4 hb4'
      refine (wpIn_wide (n := 5)).1 ?_
      refine wpIn_range_do (by decide) (gf := 98) (lb := #[.pointer (some ⟨w4.heap.size, 0, none⟩)]) rfl (enters_of Tryz.func98 (by kernel_rfl) rfl) rfl (emptyR (w.heap.size + 1)) (fun W => (KeepsOthers.setCell _ _ _).trans (KeepsOthers.setCell _ _ _)) (fun W => VB W (w.heap.size + 1) (.slice none 0 0) (.slice none 0 0)) ?hG ?a1 ?assign ?body (fun W => AI w w w3.heap.size V p w4.heap.size (w.heap.size + 1) d (ops.take N) sa sc obs (ops.take N).length W) (AStop w (w.heap.size + 1) d (ops.take N)) ?seq ?done ?stop
      case assign =>
        intro l' x W K hK
        gi_wp2
        exact hK
      case hG =>
        intro W l' r o hv hl'
        refine hv.kept (keptPutA W l' o) (fun e => ?_)
        have h0 := hv.v0
        rw [e] at h0
        simp [World.cell?, hl'] at h0
      case body =>
        intro l' x W hv
        obtain ⟨v0, v1, vf⟩ := id hv
        cases x with
        | true =>
          gi_wp2
          exact ⟨rfl, rfl⟩
        | false =>
          gi_wp2
          exact ⟨rfl, rfl⟩
      case seq =>
        intro rd dn hY
        have hW1 := hI0.kept (((Kept.refl (fun _ => False) w5).alloc (.deferred (some []))).alloc (.loop rd)) hpb (by omega) (by omega) (by omega) (fun z e => e.elim)
        refine out1_in 4 (by decide) w w w3.heap.size V p w4.heap.size (w.heap.size + 1) (w5.heap.size + 1) w5.heap.size d (ops.take N) sa sc obs rd dn hpb (by omega) (by omega) (by omega) (by omega) (by omega) (by omega) hops hY _ hW1 ?_ ?_
        · have := World.alloc_heap_new (w5.alloc (.deferred (some []))) (.loop rd); rwa [World.size_alloc] at this
        · exact (Below.heap_alloc _ _ _ (by simp)).trans (World.alloc_heap_new w5 _)
      case done =>
        rintro W o hJ hD ⟨r0, hlr⟩
        obtain ⟨e, pa2, pc2, kv2, he, hek, hDr2⟩ := hJ.dr
        have he2 : applyN d ops N = some e := by rw [← applyN_take N (Nat.le_refl _) hN]; rw [hlen] at he; exact he
        have hce : c = e := by rw [hc.out, he2]; rfl
        have hfe := DD.fit hek
        have hK := keptPutA W (w5.heap.size + 1) o
        have hD2 := (World.putObj_heap_other (w := W) (r := w5.heap.size + 1) (o := o) (k := w5.heap.size) (by omega)).trans hD
        have hno : ∀ t, IsT t W (w5.heap.size + 1) → False := fun t ⟨x, hx⟩ => by rw [hlr] at hx; cases hx
        have hDr3 : Dr (W.putObj (w5.heap.size + 1) o) p e.blocks pa2 pc2 e.waiting kv2 := ⟨hDr2.d.kept hK (by omega), hK.owns hDr2.own (fun z hz e => by subst e; exact hno _ (owns_isT hDr2.own hz).1), hDr2.w64⟩
        have hv3 := hJ.vr.kept hK (by omega)
        have hbl3 : Below w.heap.size w (W.putObj (w5.heap.size + 1) o) := hJ.bel.trans (hK.below hJ.bel.size (fun z hz e => by omega))
        generalize W.putObj (w5.heap.size + 1) o = W3 at hDr3 hv3 hD2 hbl3 ⊢
        go_wp2_with (go_at_call 65; refine (disk_any p e.blocks pa2 pc2 e.waiting kv2 W3 (by have := hfe.wl; omega) hDr3).mono ?_; rintro r w6 ⟨l6, fa, ga, fc, gc, rfl, hmd, hb6⟩; obtain ⟨z0, z1, zf⟩ := hv3.grow hb6)
        rw [← hs5]
        have hv6 := ((hv3.grow hb6).set0 (.slice l6.ba e.blocks.length l6.bc)).set1 (.slice l6.wa e.waiting.length l6.wc)
        have hK6 : Kept (fun z => z = w.heap.size + 1) w6 ((w6.setCell ⟨w.heap.size + 1, 0, none⟩ (.slice l6.ba e.blocks.length l6.bc)).setCell ⟨w.heap.size + 1, 1, none⟩ (.slice l6.wa e.waiting.length l6.wc)) := ((Kept.refl (fun z => z = w.heap.size + 1) w6).set (a := ⟨w.heap.size + 1, 0, none⟩) (fun _ => rfl) _).set (a := ⟨w.heap.size + 1, 1, none⟩) (fun _ => rfl) _
        have hDl := (Array.getElem?_eq_some_iff.1 hD2).1
        have hD6 := (hb6.block _ hDl).trans hD2
        have hs6 := hb6.size
        generalize (w6.setCell ⟨w.heap.size + 1, 0, none⟩ (.slice l6.ba e.blocks.length l6.bc)).setCell ⟨w.heap.size + 1, 1, none⟩ (.slice l6.wa e.waiting.length l6.wc) = w7 at hv6 hK6 ⊢
        have hD7 := (hK6.block _ (by omega) (by omega)).trans hD6
        refine ⟨by simp, .inl ⟨_, _, rfl, run_takeDeferred hD7, ?_⟩⟩
        have hK8 := keptPutA w7 w5.heap.size (.deferred none)
        have hv8 := hv6.kept hK8 (by omega)
        have hbl8 : Below w.heap.size w (w7.putObj w5.heap.size (.deferred none)) := ((gca hbl3 hb6).trans (hK6.below (gca hbl3 hb6).size (fun z hz e => by omega))).trans (hK8.below (by have := (gca hbl3 hb6).size; have := hK6.size; omega) (fun z hz e => by omega))
        have hmd8 := ((hmd.last hK6 (by omega) (Nat.le_refl _) hK6.size).last hK8 (by omega) (lo' := w.heap.size) (by omega) hK8.size)
        generalize w7.putObj w5.heap.size (.deferred none) = w8 at hv8 hbl8 hmd8 ⊢
        obtain ⟨q0, q1, _⟩ := hv8
        refine ⟨e.val l6, by simp [results, Tryz.results28, go_sem, q0, q1], ?_⟩
        rw [hce]
        exact ⟨l6, fa, ga, fc, gc, rfl, hmd8, hbl8⟩
      case stop =>
        intro W o hS hD
        obtain ⟨⟨j, hj, hno⟩, hv, hbl⟩ := hS
        have hK := keptPutA W (w5.heap.size + 1) o
        have hD2 := (World.putObj_heap_other (w := W) (r := w5.heap.size + 1) (o := o) (k := w5.heap.size) (by omega)).trans hD
        have hv3 := hv.kept hK (by omega)
        have hbl3 : Below w.heap.size w (W.putObj (w5.heap.size + 1) o) := hbl.trans (hK.below hbl.size (fun z hz e => by omega))
        generalize W.putObj (w5.heap.size + 1) o = W3 at hv3 hD2 hbl3 ⊢
        have hc0 : c = zeroD := by
          have h1 := applyN_none hno (N - (j + 1))
          rw [hlen] at hj
          rw [show j + 1 + (N - (j + 1)) = N by omega, applyN_take N (Nat.le_refl _) hN] at h1
          rw [hc.out, h1]
          rfl
        have hDl := (Array.getElem?_eq_some_iff.1 hD2).1
        gi_wp2
        refine ⟨by simp, .inl ⟨_, _, rfl, run_takeDeferred hD2, ?_⟩⟩
        have hK8 := keptPutA W3 w5.heap.size (.deferred none)
        have hv8 := hv3.kept hK8 (by omega)
        have hbl8 : Below w.heap.size w (W3.putObj w5.heap.size (.deferred none)) := hbl3.trans (hK8.below hbl3.size (fun z hz e => by omega))
        generalize W3.putObj w5.heap.size (.deferred none) = w8 at hv8 hbl8 ⊢
        obtain ⟨q0, q1, _⟩ := hv8
        refine ⟨.agg #[.slice none 0 0, .slice none 0 0], by simp [results, Tryz.results28, go_sem, q0, q1], ?_⟩
        rw [hc0]
        exact DPost.zero hbl8
    · have hz : d.apply ops n = zeroD := if_neg (fun h => hr h.2)
      rw [hz]
      clear hok2 hz
      rcases (by omega : n < 0 ∨ (¬ (n < 0) ∧ (ops.length : Int) < n)) with h1 | ⟨h1, h2⟩
      · go_wp2_with (go_at_call 49; refine (implDiskOk_any d l _ hd (ha.grow hA)).mono ?_; rintro e w2 ⟨rfl, hb2⟩; rw [hok'.out]; obtain ⟨z0, z1, zf⟩ := hR0.grow hb2)
        obtain ⟨c0, c1, K⟩ := ret2 (A := .slice none 0 0) (B := .slice none 0 0) z0 z1
        refine ⟨.agg #[.slice none 0 0, .slice none 0 0], by simp [results, Tryz.results28, go_sem, c0, c1], DPost.zero ?_⟩
        exact (gca hA hb2).trans (K.below (gca hA hb2).size (fun z hz e => by omega))
      · go_wp2_with (go_at_call 49; refine (implDiskOk_any d l _ hd (ha.grow hA)).mono ?_; rintro e w2 ⟨rfl, hb2⟩; rw [hok'.out]; obtain ⟨z0, z1, zf⟩ := hR0.grow hb2)
        obtain ⟨c0, c1, K⟩ := ret2 (A := .slice none 0 0) (B := .slice none 0 0) z0 z1
        refine ⟨.agg #[.slice none 0 0, .slice none 0 0], by simp [results, Tryz.results28, go_sem, c0, c1], DPost.zero ?_⟩
        exact (gca hA hb2).trans (K.below (gca hA hb2).size (fun z hz e => by omega))

end Go.Proofs.YthjddpkegooobacGreat
