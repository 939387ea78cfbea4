import Derived.Deep.CutRange
import Derived.Deep.RegionHeld3
import Derived.Deep.QuietTactic
import Derived.BigQuiet
import Derived.WalkLawsBesides
import Derived.Test.YthjddpkegooobaaPartH

/-
  SAPPLY: the specification's l4apply. Own work.
-/
namespace Go.Proofs.Ythjddpkegooobaa
open Go.RowKit

/-- one op, done -/
def DD.step (d : DD) (o : OP) : DD := if o.sync = true then d.settle keepAll else d.put o.block o.bytes
/-- the first ops, done one after the other -/
def applyN (d : DD) (ops : List OP) : Nat → Option DD
  | 0 => some d
  | j + 1 => (applyN d ops j).bind fun e => if (e.step ops[j]!).ok = true then some (e.step ops[j]!) else none
theorem applyN_yes {d e : DD} {ops : List OP} {j : Nat} (h : applyN d ops j = some e) (hk : (e.step ops[j]!).ok = true) : applyN d ops (j + 1) = some (e.step ops[j]!) := by
  show (applyN d ops j).bind _ = _
  rw [h]
  exact if_pos hk
theorem applyN_no {d e : DD} {ops : List OP} {j : Nat} (h : applyN d ops j = some e) (hk : (e.step ops[j]!).ok = false) : applyN d ops (j + 1) = none := by
  show (applyN d ops j).bind _ = _
  rw [h]
  exact if_neg (by rw [hk]; exact Bool.false_ne_true)
theorem applyN_none {d : DD} {ops : List OP} {j : Nat} (h : applyN d ops j = none) : ∀ k, applyN d ops (j + k) = none
  | 0 => h
  | k + 1 => by
    show (applyN d ops (j + k)).bind _ = _
    rw [applyN_none h k]
    rfl
theorem Fit.smallA {d : DD} (h : d.Fit) : d.Small := ⟨by have := h.bl; omega, fun b hb => by have := h.bb b hb; omega, by have := h.wl; omega, fun x hx => by have := (h.wb x hx).2.2; omega⟩
theorem settle_okA {d : DD} (hd : d.Ok) (hok : d.ok = true) (keep : Nat → Bool) : (d.settle keep).Ok := by
  have hf := DD.fit hok
  rw [settle_yes hok]
  exact ⟨by show (settleN _ _ _ _).length ≤ maxLen; rw [settleN_length]; exact hd.bl, settleN_all hd.bb hd.wb _ (Nat.le_refl _), Nat.zero_le _, fun x hx => (by cases hx), fun x hx => (by cases hx)⟩
theorem step_ok {d : DD} {o : OP} (hd : d.Ok) (hok : d.ok = true) (hb : I64 o.block) (hk : BOk o.bytes) : (d.step o).Ok := by
  unfold DD.step
  split
  · exact settle_okA hd hok _
  · exact (put_tame hd hb hk).1

/-- what is behind the ops -/
def ApPost (d : DD) (ops : List OP) (n : Nat) (w : World) (e : Ending) (w' : World) : Prop :=
  ∃ (lb : List LB) (lw : List LW) (ba : Option Addr) (bc : Nat) (wa : Option Addr) (wc : Nat) (f : DD) (b : Bool), e = .returned (.tuple #[f.val ⟨ba, bc, wa, wc⟩, .bool b]) ∧ Hid (applyN d ops n = if b = true then some f else none) ∧ (b = true → f.ok = true ∧ f.Ok) ∧ lb.map (·.l) = f.blocks ∧ lw.map (·.x) = f.waiting ∧ SB w.heap.size w' ba bc lb ∧ SW w.heap.size w' wa wc lw ∧ Below w.heap.size w w'

theorem blk_setType {w : World} {V o t : Nat} {s : Value} (h : ∃ c, w.heap[V]? = some (.cells c t (0, 0))) : ∃ c, (w.setCell ⟨V, o, none⟩ s).heap[V]? = some (.cells c t (0, 0)) := by
  obtain ⟨c, hc⟩ := h
  obtain ⟨hlt, hk⟩ := Array.getElem?_eq_some_iff.1 hc
  refine ⟨c.setIfInBounds o s, ?_⟩
  show (w.heap.modify V _)[V]? = _
  rw [Array.getElem?_eq_getElem (by rw [Array.size_modify]; exact hlt), Array.getElem_modify_self, hk]
  rfl
/-- a disk in memory of its own, and the variable that holds it -/
structure ApM (w : World) (V R : Nat) (e : DD) (lb : List LB) (lw : List LW) (ba : Option Addr) (bc : Nat) (wa : Option Addr) (wc : Nat) (wr : World) : Prop where
  mb : lb.map (·.l) = e.blocks
  mw : lw.map (·.x) = e.waiting
  sb : SB w.heap.size wr ba bc lb
  sw : SW w.heap.size wr wa wc lw
  v : VB wr V (.slice ba e.blocks.length bc) (.slice wa e.waiting.length wc)
  vd : IsD wr V
  r : VB wr R (.slice none 0 0) (.slice none 0 0)
  rd : IsD wr R
  bel : Below w.heap.size w wr
theorem ApM.at_ {w : World} {V R : Nat} {e : DD} {lb : List LB} {lw : List LW} {ba : Option Addr} {bc : Nat} {wa : Option Addr} {wc : Nat} {wr : World} (h : ApM w V R e lb lw ba bc wa wc wr) : DAt wr ⟨ba, bc, wa, wc⟩ e := ⟨by rw [← h.mb]; exact h.sb.at_, by rw [← h.mw]; exact h.sw.at_⟩
theorem ApM.grow {w : World} {V R : Nat} {e : DD} {lb : List LB} {lw : List LW} {ba : Option Addr} {bc : Nat} {wa : Option Addr} {wc : Nat} {wr w' : World} (h : ApM w V R e lb lw ba bc wa wc wr) (hb : Below wr.heap.size wr w') : ApM w V R e lb lw ba bc wa wc w' :=
  ⟨h.mb, h.mw, h.sb.grow hb, h.sw.grow hb, h.v.grow hb, h.vd.grow hb, h.r.grow hb, h.rd.grow hb, gca h.bel hb⟩
/-- another disk, stored into the variable -/
theorem ApM.store {w : World} {V R : Nat} {e f : DD} {lb lb' : List LB} {lw lw' : List LW} {ba ba' : Option Addr} {bc bc' : Nat} {wa wa' : Option Addr} {wc wc' : Nat} {wr w2 : World} (h : ApM w V R e lb lw ba bc wa wc wr) (hVw : w.heap.size ≤ V) (hVR : R ≠ V) (mb : lb'.map (·.l) = f.blocks) (mw : lw'.map (·.x) = f.waiting) (sb : SB wr.heap.size w2 ba' bc' lb') (sw : SW wr.heap.size w2 wa' wc' lw') (hb : Below wr.heap.size wr w2) :
    ApM w V R f lb' lw' ba' bc' wa' wc' ((w2.setCell ⟨V, 0, none⟩ (.slice ba' f.blocks.length bc')).setCell ⟨V, 1, none⟩ (.slice wa' f.waiting.length wc')) := by
  have hD := h.vd.grow hb
  have hD1 : IsD (w2.setCell ⟨V, 0, none⟩ (.slice ba' f.blocks.length bc')) V := blk_setType hD
  have hle := h.bel.size
  refine ⟨mb, mw, ?_, ?_, ?_, blk_setType hD1, ?_, ((h.rd.grow hb).kept (Kept.one w2 V 0 _) hVR).kept (Kept.one _ V 1 _) hVR, ?_⟩
  · exact ((sb.le hle).kept (Kept.one w2 V 0 _) (fun z e _ => by subst e; exact ⟨not_S_of_D hD, not_B_of_D hD⟩)).kept (Kept.one _ V 1 _) (fun z e _ => by subst e; exact ⟨not_S_of_D hD1, not_B_of_D hD1⟩)
  · exact ((sw.le hle).kept (Kept.one w2 V 0 _) (fun z e _ => by subst e; exact ⟨not_W_of_D hD, not_B_of_D hD⟩)).kept (Kept.one _ V 1 _) (fun z e _ => by subst e; exact ⟨not_W_of_D hD1, not_B_of_D hD1⟩)
  · exact ((h.v.grow hb).set0 _).set1 _
  · exact ((h.r.grow hb).kept (Kept.one w2 V 0 _) hVR).kept (Kept.one _ V 1 _) hVR
  · exact gse (gse (gca h.bel hb) hVw _) hVw _

set_option maxHeartbeats 4000000 in
set_option maxRecDepth 100000 in
theorem l4apply_any (d : DD) (l : DL) (oa : Option Addr) (ops : List OP) (oc n : Nat) (m : Int) (w : World) (hm : m = (n : Int)) (hok : d.ok = true) (hd : d.Ok) (ha : DAt w l d) (hops : OpsOk ops) (hat : OpsAt w oa ops) (hn : n ≤ ops.length) :
    Calls Try.prog 161 #[d.val l, .slice oa ops.length oc, .int .i64 m] w (ApPost d ops n w) := by
  have hf := DD.fit hok
  have hsm := Fit.smallA hf
  have hol := hops.len
  unfold maxLen at hol
  have hX0 := DBox.new w d l 44
  have hA0 := gal (gal (gre w) (.cells #[.slice l.ba d.blocks.length l.bc, .slice l.wa d.waiting.length l.wc] 44)) (.cells #[.slice none 0 0, .slice none 0 0] 44)
  obtain ⟨_, x0, x1⟩ := hX0.grow (gal (gre _) (.cells #[.slice none 0 0, .slice none 0 0] 44))
  subst hm
  go_enter Try.func161, Try.ntmps161
  go_upto_region 2 with (go_at_call 84; refine (l3copy_any d l _ hsm (ha.grow hA0)).mono ?_; rintro e w1 ⟨lb, lw, ba, bc, wa, wc, rfl, hmb, hmw, hsb, hsw, hb1⟩)
  obtain ⟨V, hV⟩ := hid_ex w1.heap.size
  obtain ⟨R, hR⟩ := hid_ex (w.heap.size + 1)
  have hsz1 := hb1.size
  have hI0 : ApM w V R d lb lw ba bc wa wc (w1.alloc (.cells #[.slice ba d.blocks.length bc, .slice wa d.waiting.length wc] 44)) := by
    have hg := gal (gre w1) (.cells #[.slice ba d.blocks.length bc, .slice wa d.waiting.length wc] 44)
    refine ⟨hmb, hmw, (hsb.le hA0.size).grow hg, (hsw.le hA0.size).grow hg, by rw [hV.out]; exact VB.new w1 _ _ _, ⟨_, by rw [hV.out]; exact blk_new_at _ _ _ rfl⟩, ?_, ?_, gca (gca hA0 hb1) hg⟩
    · rw [hR.out]
      exact ((VB.new_at _ (.slice none 0 0) (.slice none 0 0) 44 (w.heap.size + 1) (by simp)).grow hb1).grow hg
    · rw [hR.out]
      exact (IsD.grow (w := (w.alloc (.cells #[.slice l.ba d.blocks.length l.bc, .slice l.wa d.waiting.length l.wc] 44)).alloc (.cells #[.slice none 0 0, .slice none 0 0] 44)) ⟨_, blk_new_at _ _ _ (by simp)⟩ hb1).grow hg
  have hVw : w.heap.size ≤ V := by rw [hV.out]; have := (gca hA0 hb1).size; omega
  have hVR : R ≠ V := by have := hV.out; have := hR.out; simp at hsz1; omega
  have hRw : w.heap.size ≤ R := by have := hR.out; omega
  rw [← hV.out, ← hR.out]
  generalize w1.alloc (.cells #[.slice ba d.blocks.length bc, .slice wa d.waiting.length wc] 44) = wS at hI0 ⊢
  clear hsb hsw hb1 x0 x1 hX0 hA0 hsz1 hV hR
  go_wp2
  go_loopw [9] (fun i wr => ∃ (j : Nat) (e : DD) (lb : List LB) (lw : List LW) (ba : Option Addr) (bc : Nat) (wa : Option Addr) (wc : Nat), j ≤ n ∧ i = .int .i64 (j : Int) ∧ Hid (applyN d ops j = some e) ∧ Hid (e.ok = true) ∧ e.Ok ∧ ApM w V R e lb lw ba bc wa wc wr) (fun i _ => n - (intOf i).toNat)
  case atStart => exact ⟨0, d, lb, lw, ba, bc, wa, wc, Nat.zero_le _, rfl, rfl, hok, hd, hI0⟩
  case round =>
    obtain ⟨j, e, lb, lw, ba, bc, wa, wc, hj, rfl, hap, hek, heO, hI⟩ := hrel
    by_cases hlt : j < n
    · have hjn : (j : Int) < (n : Int) := by omega
      obtain ⟨x, b, off, a', cap', hxk, hxm, rfl, c0, c1, c2, hxa⟩ := (hat.grow hI.bel).get (k := j) (by omega)
      obtain ⟨v0, v1, vf⟩ := id hI.v
      have i0 : (0 : Int) ≤ (j : Int) := by omega
      have i1 : (j : Int) < (ops.length : Int) := by omega
      obtain ⟨f, hfe⟩ := hid_ex (e.step x)
      have hfO : f.Ok := by rw [hfe.out]; exact step_ok heO hek.out (hops.bl x hxm) (hops.by_ x hxm)
      go_upto_if 21 with fail
      go_cut [] from 21 to 39 (fun wx => ∃ (lb : List LB) (lw : List LW) (ba : Option Addr) (bc : Nat) (wa : Option Addr) (wc : Nat), ApM w V R f lb lw ba bc wa wc wx)
      case first =>
        cases hsy : x.sync with
        | true =>
          have hfs : Hid (e.settle keepAll = f) := by show _ = _; rw [hfe.out]; exact (if_pos hsy).symm
          rw [hsy] at c0
          go_wp2_with (go_at_call 166; refine (specSync_any e ⟨ba, bc, wa, wc⟩ _ heO hI.at_).mono ?_; rw [hfs.out]; rintro e2 w2 ⟨lb2, lw2, ba2, bc2, wa2, wc2, rfl, mb2, mw2, sb2, sw2, hb2⟩; obtain ⟨y0, y1, yf⟩ := hI.v.grow hb2)
          go_meet
          case rel => exact ⟨lb2, lw2, ba2, bc2, wa2, wc2, hI.store hVw hVR mb2 mw2 sb2 sw2 hb2⟩
        | false =>
          have hfs : Hid (e.put x.block x.bytes = f) := by show _ = _; rw [hfe.out]; exact (if_neg (by rw [hsy]; exact Bool.false_ne_true)).symm
          rw [hsy] at c0
          go_upto_region 7 with fail
          have hB : Below wr.heap.size wr wr.drew := gdr (gre _)
          have hId := hI.grow hB
          have hS0 : VB wr.drew V (.slice ba e.blocks.length bc) (.slice wa e.waiting.length wc) ∧ wr.drew.cell? ⟨b, off + j * 3 + 1, none⟩ = some (.int .i64 x.block) ∧ wr.drew.cell? ⟨b, off + j * 3 + 2, none⟩ = some (.slice a' x.bytes.length cap') := ⟨hId.v, c1, c2⟩
          have hxd := hxa.grow hB
          refine wp_regionU (fun u => VB u V (.slice ba e.blocks.length bc) (.slice wa e.waiting.length wc) ∧ u.cell? ⟨b, off + j * 3 + 1, none⟩ = some (.int .i64 x.block) ∧ u.cell? ⟨b, off + j * 3 + 2, none⟩ = some (.slice a' x.bytes.length cap')) 12 (by kernel_rfl) hS0 (fun _ => ?_)
          generalize wr.drew = wd at hId hS0 hxd hB ⊢
          refine anyU_take (i := 0) (v := ?_) rfl (by kernel_rfl) (by kernel_rfl) (by kernel_rfl) (by kernel_rfl) (fun _ _ _ h => h) (Or.inl ⟨by rfl, ?_⟩) hS0 ?_
          rotate_left
          · intro u hSu; obtain ⟨⟨s0, s1, sf⟩, t0, t1⟩ := hSu; go_simp <;> with_reducible rfl
          simp only [Act.put, List.getElem_toArray, List.getElem_cons_zero, List.setIfInBounds_toArray, List.set_cons_zero, List.set_cons_succ]
          refine anyU_take (i := 1) (v := ?_) rfl (by kernel_rfl) (by kernel_rfl) (by kernel_rfl) (by kernel_rfl) (fun _ _ _ h => h) (Or.inl ⟨by rfl, ?_⟩) hS0 ?_
          rotate_left
          · intro u hSu; obtain ⟨⟨s0, s1, sf⟩, t0, t1⟩ := hSu; go_simp <;> with_reducible rfl
          simp only [Act.put, List.getElem_toArray, List.getElem_cons_zero, List.getElem_cons_succ, List.setIfInBounds_toArray, List.set_cons_zero, List.set_cons_succ]
          refine anyU_take (i := 2) (v := ?_) rfl (by kernel_rfl) (by kernel_rfl) (by kernel_rfl) (by kernel_rfl) (fun _ _ _ h => h) (Or.inl ⟨by rfl, ?_⟩) hS0 ?_
          rotate_left
          · intro u hSu; obtain ⟨⟨s0, s1, sf⟩, t0, t1⟩ := hSu; go_simp <;> with_reducible rfl
          simp only [Act.put, List.getElem_toArray, List.getElem_cons_zero, List.getElem_cons_succ, List.setIfInBounds_toArray, List.set_cons_zero, List.set_cons_succ]
          refine anyU_take (i := 3) (v := ?_) rfl (by kernel_rfl) (by kernel_rfl) (by kernel_rfl) (by kernel_rfl) (fun _ _ _ h => h) (Or.inl ⟨by rfl, ?_⟩) hS0 ?_
          rotate_left
          · intro u hSu; obtain ⟨⟨s0, s1, sf⟩, t0, t1⟩ := hSu; go_simp <;> with_reducible rfl
          simp only [Act.put, List.getElem_toArray, List.getElem_cons_zero, List.getElem_cons_succ, List.setIfInBounds_toArray, List.set_cons_zero, List.set_cons_succ]
          refine anyU_take (i := 4) (v := ?_) rfl (by kernel_rfl) (by kernel_rfl) (by kernel_rfl) (by kernel_rfl) (fun _ _ _ h => h) (Or.inl ⟨by rfl, ?_⟩) hS0 ?_
          rotate_left
          · intro u hSu; obtain ⟨⟨s0, s1, sf⟩, t0, t1⟩ := hSu; go_simp <;> with_reducible rfl
          simp only [Act.put, List.getElem_toArray, List.getElem_cons_zero, List.getElem_cons_succ, List.setIfInBounds_toArray, List.set_cons_zero, List.set_cons_succ]
          refine anyU_take (i := 5) (v := ?_) rfl (by kernel_rfl) (by kernel_rfl) (by kernel_rfl) (by kernel_rfl) (fun _ _ _ h => h) (Or.inl ⟨by rfl, ?_⟩) hS0 ?_
          rotate_left
          · intro u hSu; obtain ⟨⟨s0, s1, sf⟩, t0, t1⟩ := hSu; go_simp <;> with_reducible rfl
          simp only [Act.put, List.getElem_toArray, List.getElem_cons_zero, List.getElem_cons_succ, List.setIfInBounds_toArray, List.set_cons_zero, List.set_cons_succ]
          refine anyU_take (i := 6) (v := ?_) rfl (by kernel_rfl) (by kernel_rfl) (by kernel_rfl) (by kernel_rfl) (fun _ _ _ h => h) (Or.inl ⟨by rfl, ?_⟩) hS0 ?_
          rotate_left
          · intro u hSu; obtain ⟨⟨s0, s1, sf⟩, t0, t1⟩ := hSu; go_simp <;> with_reducible rfl
          simp only [Act.put, List.getElem_toArray, List.getElem_cons_zero, List.getElem_cons_succ, List.setIfInBounds_toArray, List.set_cons_zero, List.set_cons_succ]
          refine anyU_take (i := 7) (v := ?_) rfl (by kernel_rfl) (by kernel_rfl) (by kernel_rfl) (by kernel_rfl) (fun _ _ _ h => h) (Or.inl ⟨by rfl, ?_⟩) hS0 ?_
          rotate_left
          · intro u hSu; obtain ⟨⟨s0, s1, sf⟩, t0, t1⟩ := hSu; go_simp <;> with_reducible rfl
          simp only [Act.put, List.getElem_toArray, List.getElem_cons_zero, List.getElem_cons_succ, List.setIfInBounds_toArray, List.set_cons_zero, List.set_cons_succ]
          refine anyU_take (i := 8) (v := ?_) rfl (by kernel_rfl) (by kernel_rfl) (by kernel_rfl) (by kernel_rfl) (fun _ _ _ h => h) (Or.inl ⟨by rfl, ?_⟩) hS0 ?_
          rotate_left
          · intro u hSu; obtain ⟨⟨s0, s1, sf⟩, t0, t1⟩ := hSu; go_simp <;> with_reducible rfl
          simp only [Act.put, List.getElem_toArray, List.getElem_cons_zero, List.getElem_cons_succ, List.setIfInBounds_toArray, List.set_cons_zero, List.set_cons_succ]
          refine anyU_take (i := 9) (v := ?_) rfl (by kernel_rfl) (by kernel_rfl) (by kernel_rfl) (by kernel_rfl) (fun _ _ _ h => h) (Or.inl ⟨by rfl, ?_⟩) hS0 ?_
          rotate_left
          · intro u hSu; obtain ⟨⟨s0, s1, sf⟩, t0, t1⟩ := hSu; go_simp <;> with_reducible rfl
          simp only [Act.put, List.getElem_toArray, List.getElem_cons_zero, List.getElem_cons_succ, List.setIfInBounds_toArray, List.set_cons_zero, List.set_cons_succ]
          refine anyU_take (i := 10) (v := ?_) rfl (by kernel_rfl) (by kernel_rfl) (by kernel_rfl) (by kernel_rfl) (fun _ _ _ h => h) (Or.inl ⟨by rfl, ?_⟩) hS0 ?_
          rotate_left
          · intro u hSu; obtain ⟨⟨s0, s1, sf⟩, t0, t1⟩ := hSu; go_simp <;> with_reducible rfl
          simp only [Act.put, List.getElem_toArray, List.getElem_cons_zero, List.getElem_cons_succ, List.setIfInBounds_toArray, List.set_cons_zero, List.set_cons_succ]
          refine anyU_one (i := 11) (by kernel_rfl) rfl (fun K hK => ?_)
          go_simp
          refine (specPut_any e ⟨ba, bc, wa, wc⟩ x.block a' x.bytes cap' _ heO hId.at_ (hops.bl x hxm) (hops.by_ x hxm).len hxd).mono ?_
          rw [hfs.out]
          rintro e2 w2 ⟨lb2, lw2, ba2, bc2, wa2, wc2, rfl, mb2, mw2, sb2, sw2, hb2⟩
          refine hK.out _ _ ⟨hS0.1.grow hb2, cell_later hb2 hS0.2.1, cell_later hb2 hS0.2.2⟩ ?_
          clear hK
          obtain ⟨y0, y1, yf⟩ := hId.v.grow hb2
          refine anyU_last (by kernel_rfl) rfl (by kernel_rfl) (fun K hK => ?_)
          go_simp
          refine hK.out _ _ ?_
          clear hK
          go_wp2
          go_meet
          case rel => exact ⟨lb2, lw2, ba2, bc2, wa2, wc2, hId.store hVw hVR mb2 mw2 sb2 sw2 hb2⟩
      case rest =>
        obtain ⟨lb2, lw2, ba2, bc2, wa2, wc2, hI2⟩ := hcut
        obtain ⟨y0, y1, yf⟩ := id hI2.v
        obtain ⟨z0, z1, zf⟩ := id hI2.r
        have hfst : Hid (f = e.step ops[j]!) := by show _ = _; rw [hfe.out, hxk.out]
        cases hfk : f.ok with
        | true =>
          have hfk' : Hid (f.ok = true) := hfk
          have hnx : Hid (applyN d ops (j + 1) = some f) := by
            show _ = _
            rw [hfst.out] at hfk ⊢
            exact applyN_yes hap.out hfk
          clear hfk
          go_wp2_with (go_at_call 27; refine (specDiskOk_any f ⟨ba2, bc2, wa2, wc2⟩ _ hfO hI2.at_).mono ?_; rw [hfk'.out]; rintro e2 w3 ⟨rfl, hb3⟩)
          go_roundw
          case rel => exact ⟨j + 1, f, lb2, lw2, ba2, bc2, wa2, wc2, by omega, by go_num, hnx.out, hfk'.out, hfO, hI2.grow hb3⟩
          case measure => simp [intOf]; omega
        | false =>
          have hfk' : Hid (f.ok = false) := hfk
          have hnx : Hid (applyN d ops (j + 1) = none) := by
            show _ = _
            rw [hfst.out] at hfk
            exact applyN_no hap.out hfk
          clear hfk
          go_upto_region 99 with (go_at_call 27; refine (specDiskOk_any f ⟨ba2, bc2, wa2, wc2⟩ _ hfO hI2.at_).mono ?_; rw [hfk'.out]; rintro e2 w3 ⟨rfl, hb3⟩; obtain ⟨p0, p1, pf⟩ := hI2.r.grow hb3)
          have hI3 := hI2.grow hb3
          have hnn : applyN d ops n = none := by
            have := applyN_none hnx.out (n - (j + 1))
            rw [show j + 1 + (n - (j + 1)) = n by omega] at this
            exact this
          obtain ⟨q0, q1, _⟩ := ((hI3.r).set0 (.slice none 0 0)).set1 (.slice none 0 0)
          refine bodyPost_ret (v := .tuple #[zeroD.val ⟨none, 0, none, 0⟩, .bool false]) (by simp [results, Try.results161, go_sem, q0, q1, zeroD]) rfl ⟨[], [], none, 0, none, 0, zeroD, false, rfl, ?_, (fun h => by cases h), rfl, rfl, SB.nil _ _, SW.nil _ _, gse (p := ⟨R, 1, none⟩) (gse (p := ⟨R, 0, none⟩) hI3.bel hRw _) hRw _⟩
          show _ = _
          rw [hnn]
          rfl
    · obtain rfl : j = n := by omega
      have hjn : ¬ ((j : Int) < (j : Int)) := by omega
      obtain ⟨v0, v1, vf⟩ := id hI.v
      obtain ⟨z0, z1, zf⟩ := id hI.r
      go_upto_region 99 with fail
      obtain ⟨q0, q1, _⟩ := (hI.r.set0 (.slice ba e.blocks.length bc)).set1 (.slice wa e.waiting.length wc)
      have hK := (Kept.one wr R 0 (.slice ba e.blocks.length bc)).trans (Kept.one _ R 1 (.slice wa e.waiting.length wc)) (fun _ _ h => h)
      refine bodyPost_ret (v := .tuple #[e.val ⟨ba, bc, wa, wc⟩, .bool true]) (by simp [results, Try.results161, go_sem, q0, q1]) rfl ⟨lb, lw, ba, bc, wa, wc, e, true, rfl, ?_, fun _ => ⟨hek.out, heO⟩, hI.mb, hI.mw, hI.sb.kept hK (fun z h _ => by subst h; exact ⟨not_S_of_D hI.rd, not_B_of_D hI.rd⟩), hI.sw.kept hK (fun z h _ => by subst h; exact ⟨not_W_of_D hI.rd, not_B_of_D hI.rd⟩), gse (p := ⟨R, 1, none⟩) (gse (p := ⟨R, 0, none⟩) hI.bel hRw _) hRw _⟩
      show _ = _
      rw [hap.out]
      rfl

end Go.Proofs.Ythjddpkegooobaa

/-
  OK: whether a graph is well made: the specification's word and the program's. Own work.
-/
namespace Go.Proofs.Ythjddpkegooobaa
open Go.RowKit

def okV (n : Nat) (v : GV) : Bool :=
  if v.kind = 0 then decide (v.num = 0 ∧ v.text.toList = [] ∧ v.node = 0)
  else if v.kind = 1 ∨ v.kind = 2 then decide (v.text.toList = [] ∧ v.node = 0)
  else if v.kind = 3 then decide (v.num = 0 ∧ v.node = 0 ∧ v.text.size ≤ 1000)
  else if v.kind = 4 then decide (v.num = 0 ∧ v.text.toList = [] ∧ 0 ≤ v.node ∧ v.node < n)
  else false

set_option maxRecDepth 100000 in
theorem specVal_any (a : Option Addr) (cap : Nat) (g : GG) (v : GV) (w : World) :
    Calls Try.prog 99 #[g.val a cap, v.val] w fun e w' => e = .returned (.bool (okV g.nodes.length v)) ∧ Below w.heap.size w w' := by
  go_enter Try.func99, Try.ntmps99
  go_wp2
  all_goals go_ret
  all_goals refine ⟨ret_bool ?_, gal (gal (gre _) _) _⟩
  all_goals simp_all [okV]
  all_goals first | omega | rfl | (rw [Bool.eq_iff_iff]; simp)

set_option maxRecDepth 100000 in
theorem implVal_any (n : Nat) (v : GV) (w : World) :
    Calls Try.prog 102 #[v.val, .int .i64 n] w fun e w' => e = .returned (.bool (okV n v)) ∧ Below w.heap.size w w' := by
  go_enter Try.func102, Try.ntmps102
  go_wp2
  all_goals go_ret
  all_goals refine ⟨ret_bool ?_, gal (gre _) _⟩
  all_goals simp_all [okV]
  all_goals omega

end Go.Proofs.Ythjddpkegooobaa

/-
  OK2: nodes and graphs that are well made: the specification's word and the program's. Own work.
-/
namespace Go.Proofs.Ythjddpkegooobaa
open Go.RowKit

def okN (n : Nat) (x : GN) : Bool := decide (0 ≤ x.tag ∧ x.tag ≤ 1000 ∧ x.vals.length ≤ 100) && x.vals.all (okV n)
def okG (g : GG) : Bool := decide (g.nodes.length ≤ 300) && okV g.nodes.length g.root && g.nodes.all (okN g.nodes.length)

set_option maxRecDepth 100000 in
theorem all_take_succ {α : Type} [Inhabited α] {p : α → Bool} {l : List α} {k : Nat} (h : k < l.length) (h1 : (l.take k).all p = true) (h2 : p l[k]! = true) : (l.take (k + 1)).all p = true := by
  rw [take_snoc l k h, List.all_append, h1, List.all_cons, h2]; rfl
theorem all_false_at {α : Type} [Inhabited α] {p : α → Bool} {l : List α} {k : Nat} (h : k < l.length) (h2 : p l[k]! = false) : l.all p = false := by
  rw [List.all_eq_false]; exact ⟨l[k]!, mem_at h, by rw [h2]; exact Bool.false_ne_true⟩

set_option maxRecDepth 100000 in
theorem okN_false {n : Nat} {x : GN} (h : x.tag < 0 ∨ 1000 < x.tag ∨ 100 < x.vals.length) : okN n x = false := by
  unfold okN; rw [decide_eq_false (by omega)]; rfl
theorem okN_vals {n : Nat} {x : GN} (h : 0 ≤ x.tag ∧ x.tag ≤ 1000 ∧ x.vals.length ≤ 100) : okN n x = x.vals.all (okV n) := by
  unfold okN; rw [decide_eq_true h]; rfl

set_option maxRecDepth 100000 in
theorem implNode_any (n : Nat) (x : GN) (a : Option Addr) (cap : Nat) (w : World) (hl : x.vals.length ≤ maxLen) (ha : ValsAt w.heap.size w a x.vals) :
    Calls Try.prog 103 #[.agg #[.int .i64 x.tag, .slice a x.vals.length cap], .int .i64 n] w fun e w' => e = .returned (.bool (okN n x)) ∧ Below w.heap.size w w' := by
  unfold maxLen at hl
  by_cases hok : 0 ≤ x.tag ∧ x.tag ≤ 1000 ∧ x.vals.length ≤ 100
  · have hkv : Hid _ := okN_vals (n := n) hok
    obtain ⟨h1, h2, h3⟩ := hok
    have t0 : decide (x.tag < 0) = false := decide_eq_false (by omega)
    have t1 : decide (1000 < x.tag) = false := decide_eq_false (by omega)
    have t2 : decide (100 < (x.vals.length : Int)) = false := decide_eq_false (by omega)
    go_enter Try.func103, Try.ntmps103
    go_wp2
    go_loopw [24] (fun i wr => ∃ k : Nat, k ≤ x.vals.length ∧ i = .int .i64 k ∧ (x.vals.take k).all (okV n) = true ∧ Below w.heap.size w wr) (fun i _ => x.vals.length - (intOf i).toNat)
    case atStart => exact ⟨0, Nat.zero_le _, rfl, by simp, gal (gre _) _⟩
    case round =>
      obtain ⟨k, hk, rfl, hall, hb⟩ := hrel
      by_cases hlt : k < x.vals.length
      · obtain ⟨v, b, off, hvk, hvm, rfl, hbs, hva⟩ := ha.get hlt
        have hva := hva.below hb hbs
        have c0 := hva.kind
        have c1 := hva.num
        have c2 := hva.text
        have c3 := hva.node
        have hall' : Hid _ := hall
        clear hall
        cases hr : okV n v with
        | false =>
          have hf : Hid (x.vals.all (okV n) = false) := all_false_at hlt (by rw [← hvk.out]; exact hr)
          go_wp2_with (go_at_call 102; refine (implVal_any n v _).mono ?_; rintro e w' ⟨rfl, hb'⟩)
          go_ret
          exact ⟨ret_bool (by rw [hkv.out, hf.out]), gca (gal hb _) hb'⟩
        | true =>
          have hf : Hid ((x.vals.take (k + 1)).all (okV n) = true) := all_take_succ hlt hall'.out (by rw [← hvk.out]; exact hr)
          go_wp2_with (go_at_call 102; refine (implVal_any n v _).mono ?_; rintro e w' ⟨rfl, hb'⟩)
          go_roundw
          case rel => exact ⟨k + 1, by omega, by go_num, hf.out, gca (gal hb _) hb'⟩
          case measure => simp [intOf]; omega
      · have e : k = x.vals.length := by omega
        have hall' : Hid (x.vals.all (okV n) = true) := by rw [e, List.take_length] at hall; exact hall
        clear hall
        go_wp2
        go_ret
        exact ⟨ret_bool (by rw [hkv.out, hall'.out]), hb⟩
  · have hkf : Hid _ := okN_false (n := n) (x := x) (by omega)
    go_enter Try.func103, Try.ntmps103
    go_wp2
    all_goals first | (go_ret; exact ⟨ret_bool hkf.out.symm, gal (gre _) _⟩) | (exfalso; omega)

end Go.Proofs.Ythjddpkegooobaa

/-
  CANONPLAIN: a graph's one form, as lists and numbers. Own work.
-/
namespace Go.Proofs.Ythjddpkegooobaa

/-- the nodes met, behind one value more -/
def renOrd (ord : List Nat) (v : GV) : List Nat := if v.kind = 4 ∧ v.node.toNat ∉ ord then ord ++ [v.node.toNat] else ord
/-- the value, its node by the new number -/
def renVal (ord : List Nat) (v : GV) : GV := if v.kind = 4 then { v with node := ((renOrd ord v).idxOf v.node.toNat : Nat) } else v
def renOrds (ord : List Nat) (vs : List GV) : List Nat := vs.foldl renOrd ord
def renVals (ord : List Nat) : List GV → List GV
  | [] => []
  | v :: r => renVal ord v :: renVals (renOrd ord v) r

theorem renOrds_snoc (ord : List Nat) (l : List GV) (v : GV) : renOrds ord (l ++ [v]) = renOrd (renOrds ord l) v := by
  simp [renOrds, List.foldl_append]
theorem renVals_snoc (ord : List Nat) (l : List GV) (v : GV) : renVals ord (l ++ [v]) = renVals ord l ++ [renVal (renOrds ord l) v] := by
  induction l generalizing ord with
  | nil => rfl
  | cons x r ih => simp only [List.cons_append, renVals, ih]; rfl
theorem renVals_length (ord : List Nat) (l : List GV) : (renVals ord l).length = l.length := by
  induction l generalizing ord with
  | nil => rfl
  | cons x r ih => simp [renVals, ih]

theorem renOrds_take_succ (ord : List Nat) (l : List GV) (k : Nat) (h : k < l.length) : renOrds ord (l.take (k + 1)) = renOrd (renOrds ord (l.take k)) l[k]! := by
  rw [take_snoc l k h, renOrds_snoc]
theorem renVals_take_succ (ord : List Nat) (l : List GV) (k : Nat) (h : k < l.length) : renVals ord (l.take (k + 1)) = renVals ord (l.take k) ++ [renVal (renOrds ord (l.take k)) l[k]!] := by
  rw [take_snoc l k h, renVals_snoc]

/-- the nodes met behind k rounds -/
def canonO (nodes : List GN) (ord0 : List Nat) : Nat → List Nat
  | 0 => ord0
  | k + 1 => if k < (canonO nodes ord0 k).length then renOrds (canonO nodes ord0 k) (nodes[(canonO nodes ord0 k)[k]!]!).vals else canonO nodes ord0 k
/-- the new nodes behind k rounds -/
def canonN (nodes : List GN) (ord0 : List Nat) : Nat → List GN
  | 0 => []
  | k + 1 => if k < (canonO nodes ord0 k).length then canonN nodes ord0 k ++ [⟨(nodes[(canonO nodes ord0 k)[k]!]!).tag, renVals (canonO nodes ord0 k) (nodes[(canonO nodes ord0 k)[k]!]!).vals⟩] else canonN nodes ord0 k

def canon (g : GG) : GG := ⟨renVal [] g.root, canonN g.nodes (renOrd [] g.root) g.nodes.length⟩

theorem canonO_succ (nodes : List GN) (ord0 : List Nat) (k : Nat) : canonO nodes ord0 (k + 1) = if k < (canonO nodes ord0 k).length then renOrds (canonO nodes ord0 k) (nodes[(canonO nodes ord0 k)[k]!]!).vals else canonO nodes ord0 k := by
  conv => lhs; unfold canonO
theorem canonN_succ (nodes : List GN) (ord0 : List Nat) (k : Nat) : canonN nodes ord0 (k + 1) = if k < (canonO nodes ord0 k).length then canonN nodes ord0 k ++ [⟨(nodes[(canonO nodes ord0 k)[k]!]!).tag, renVals (canonO nodes ord0 k) (nodes[(canonO nodes ord0 k)[k]!]!).vals⟩] else canonN nodes ord0 k := by
  conv => lhs; unfold canonN

theorem canon_stable (nodes : List GN) (ord0 : List Nat) (k : Nat) (h : (canonO nodes ord0 k).length ≤ k) : ∀ j, canonO nodes ord0 (k + j) = canonO nodes ord0 k ∧ canonN nodes ord0 (k + j) = canonN nodes ord0 k
  | 0 => ⟨rfl, rfl⟩
  | j + 1 => by
    obtain ⟨h1, h2⟩ := canon_stable nodes ord0 k h j
    have hn : ¬ k + j < (canonO nodes ord0 (k + j)).length := by rw [h1]; omega
    rw [show k + (j + 1) = (k + j) + 1 by omega, canonO_succ, canonN_succ, if_neg hn, if_neg hn]
    exact ⟨h1, h2⟩

/-- met once each, and all there -/
def InvO (n : Nat) (ord : List Nat) : Prop := ord.Nodup ∧ ∀ x, x ∈ ord → x < n

theorem nodup_le : ∀ (n : Nat) (l : List Nat), l.Nodup → (∀ x, x ∈ l → x < n) → l.length ≤ n
  | 0, l, _, h => by
    cases l with
    | nil => simp
    | cons x r => exact absurd (h x (List.mem_cons_self ..)) (Nat.not_lt_zero _)
  | n + 1, l, hd, h => by
    by_cases hn : n ∈ l
    · have h1 := nodup_le n (l.erase n) (hd.erase n) (fun x hx => by
        obtain ⟨h2, h3⟩ := hd.mem_erase_iff.1 hx
        have := h x h3
        omega)
      rw [List.length_erase_of_mem hn] at h1
      omega
    · have := nodup_le n l hd (fun x hx => by
        have h1 := h x hx
        have h2 : x ≠ n := fun e => hn (e ▸ hx)
        omega)
      omega
theorem InvO.le {n : Nat} {ord : List Nat} (h : InvO n ord) : ord.length ≤ n := nodup_le n ord h.1 h.2
theorem InvO.nil (n : Nat) : InvO n [] := ⟨List.nodup_nil, fun x hx => by cases hx⟩

/-- what a well made value's node says -/
theorem okV_node {n : Nat} {v : GV} (h : okV n v = true) (hk : v.kind = 4) : 0 ≤ v.node ∧ v.node < n := by
  unfold okV at h
  rw [if_neg (by omega), if_neg (by omega), if_neg (by omega), if_pos hk] at h
  have := of_decide_eq_true h
  omega

theorem InvO.ren {n : Nat} {ord : List Nat} {v : GV} (h : InvO n ord) (hv : okV n v = true) : InvO n (renOrd ord v) := by
  unfold renOrd
  split
  · rename_i hc
    have := okV_node hv hc.1
    refine ⟨List.nodup_append.2 ⟨h.1, by simp, fun a ha b hb e => ?_⟩, fun x hx => ?_⟩
    · simp at hb
      subst e hb
      exact hc.2 ha
    · rcases List.mem_append.1 hx with h1 | h1
      · exact h.2 x h1
      · simp at h1
        omega
  · exact h

theorem InvO.rens {n : Nat} {ord : List Nat} {l : List GV} (h : InvO n ord) (hv : ∀ v, v ∈ l → okV n v = true) : InvO n (renOrds ord l) := by
  induction l generalizing ord with
  | nil => exact h
  | cons v r ih => exact ih (h.ren (hv v (List.mem_cons_self ..))) (fun x hx => hv x (List.mem_cons_of_mem _ hx))

theorem okG_parts {g : GG} (h : okG g = true) : g.nodes.length ≤ 300 ∧ okV g.nodes.length g.root = true ∧ ∀ n, n ∈ g.nodes → okN g.nodes.length n = true := by
  unfold okG at h
  simp only [Bool.and_eq_true, decide_eq_true_eq, List.all_eq_true] at h
  exact ⟨h.1.1, h.1.2, h.2⟩
theorem okN_parts {n : Nat} {x : GN} (h : okN n x = true) : x.vals.length ≤ 100 ∧ ∀ v, v ∈ x.vals → okV n v = true := by
  unfold okN at h
  simp only [Bool.and_eq_true, decide_eq_true_eq, List.all_eq_true] at h
  exact ⟨h.1.2.2, h.2⟩

theorem canonO_inv {nodes : List GN} {ord0 : List Nat} (h0 : InvO nodes.length ord0) (hn : ∀ n, n ∈ nodes → okN nodes.length n = true) : ∀ k, InvO nodes.length (canonO nodes ord0 k)
  | 0 => by unfold canonO; exact h0
  | k + 1 => by
    have ih := canonO_inv h0 hn k
    rw [canonO_succ]
    split
    · rename_i hlt
      refine ih.rens (okN_parts (hn _ (mem_at (ih.2 _ (mem_at hlt))))).2
    · exact ih

theorem canon_at {g : GG} {k : Nat} (hk : k ≤ g.nodes.length) (h : (canonO g.nodes (renOrd [] g.root) k).length ≤ k) : canon g = ⟨renVal [] g.root, canonN g.nodes (renOrd [] g.root) k⟩ := by
  have h1 := (canon_stable g.nodes (renOrd [] g.root) k h (g.nodes.length - k)).2
  rw [show k + (g.nodes.length - k) = g.nodes.length by omega] at h1
  unfold canon
  rw [h1]

theorem renOrd_le (ord : List Nat) (v : GV) : ord.length ≤ (renOrd ord v).length := by
  unfold renOrd; split <;> simp
theorem renOrds_le (ord : List Nat) (l : List GV) : ord.length ≤ (renOrds ord l).length := by
  induction l generalizing ord with
  | nil => exact Nat.le_refl _
  | cons v r ih => exact Nat.le_trans (renOrd_le ord v) (ih (renOrd ord v))

/-- where a node is among those met; -1 where it is not -/
def whereOf (ord : List Nat) (i : Nat) : Int := if i ∈ ord then (ord.idxOf i : Int) else -1

theorem whereOf_neg {ord : List Nat} {i : Nat} (h : i ∉ ord) : whereOf ord i = -1 := if_neg h
theorem whereOf_pos {ord : List Nat} {i : Nat} (h : i ∈ ord) : whereOf ord i = (ord.idxOf i : Int) := if_pos h
theorem whereOf_snoc {ord : List Nat} {x : Nat} (h : x ∉ ord) (i : Nat) : whereOf (ord ++ [x]) i = if i = x then (ord.length : Int) else whereOf ord i := by
  unfold whereOf
  by_cases hi : i = x
  · subst hi
    rw [if_pos (by simp), if_pos rfl, List.idxOf_append, if_neg h]
    simp
  · rw [if_neg hi]
    by_cases hm : i ∈ ord
    · rw [if_pos hm, if_pos (by simp [hm]), List.idxOf_append, if_pos hm]
    · rw [if_neg hm, if_neg (by simp [hm, hi])]

theorem ren_old {ord : List Nat} {v : GV} (hk : v.kind = 4) (h : v.node.toNat ∈ ord) : renOrd ord v = ord ∧ renVal ord v = { v with node := (ord.idxOf v.node.toNat : Nat) } := by
  have h1 : renOrd ord v = ord := by unfold renOrd; rw [if_neg (fun c => c.2 h)]
  refine ⟨h1, ?_⟩
  unfold renVal
  rw [if_pos hk, h1]
theorem ren_new {ord : List Nat} {v : GV} (hk : v.kind = 4) (h : v.node.toNat ∉ ord) : renOrd ord v = ord ++ [v.node.toNat] ∧ renVal ord v = { v with node := (ord.length : Nat) } := by
  have h1 : renOrd ord v = ord ++ [v.node.toNat] := by unfold renOrd; rw [if_pos ⟨hk, h⟩]
  refine ⟨h1, ?_⟩
  unfold renVal
  rw [if_pos hk, h1, List.idxOf_append, if_neg h]
  simp
theorem ren_not {ord : List Nat} {v : GV} (hk : v.kind ≠ 4) : renOrd ord v = ord ∧ renVal ord v = v := by
  unfold renOrd renVal
  rw [if_neg (fun c => hk c.1), if_neg hk]
  exact ⟨rfl, rfl⟩

end Go.Proofs.Ythjddpkegooobaa
