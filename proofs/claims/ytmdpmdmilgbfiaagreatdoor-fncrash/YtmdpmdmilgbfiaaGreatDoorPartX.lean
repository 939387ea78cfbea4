import Derived.Laws.EntriesVeiled
import Derived.Deep.CutRange
import Derived.Test.YtmdpmdmilgbfiaaGreatDoorPartQ
import Derived.Test.YtmdpmdmilgbfiaaGreatDoorPartW

namespace Go.Proofs.YtmdpmdmilgbfiaaGreatDoor
open Go.RowKit

theorem md_zero (w : World) (lo hi : Nat) : MD w lo hi ⟨none, 0, none, 0⟩ zeroD (fun _ => none) (fun _ => none) (fun _ => 0) (fun _ => 0) :=
  ⟨⟨fun h => absurd h (Nat.lt_irrefl _), fun _i hi => absurd hi (Nat.not_lt_zero _), fun _i _j _ hj => absurd hj (Nat.not_lt_zero _)⟩, ⟨fun h => absurd h (Nat.lt_irrefl _), fun _i hi => absurd hi (Nat.not_lt_zero _), fun _i _j _ hj => absurd hj (Nat.not_lt_zero _)⟩, fun _i _j hi _ => absurd hi (Nat.not_lt_zero _)⟩
theorem DPost.zero {w w' : World} (h : Below w.heap.size w w') : DPost zeroD w (.returned (.agg #[.slice none 0 0, .slice none 0 0])) w' := ⟨⟨none, 0, none, 0⟩, _, _, _, _, rfl, md_zero _ _ _, h⟩
theorem VB.below {w w' : World} {V p : Nat} {s0 s1 : Value} (h : VB w V s0 s1) (hb : Below p w w') (hV : V < p) : VB w' V s0 s1 :=
  ⟨(World.cell?_of_block (w := w) (hb.block V hV)).trans h.v0, (World.cell?_of_block (w := w) (hb.block V hV)).trans h.v1, fun o => (World.frozen?_of_block (w := w) (a := ⟨V, o, none⟩) (hb.block V hV)).trans (h.vf o)⟩

set_option maxHeartbeats 1000000 in
set_option maxRecDepth 100000 in
theorem syncK_any (p : Nat) (bl : List (List Nat)) (pa : Option Addr) (pc : Nat) (ws : List DW) (kv : Value) (w : World) (hw : ws.length ≤ 201) (hwb : ∀ x, x ∈ ws → 0 ≤ x.block ∧ x.block < 130) (hDr : Dr w p bl pa pc ws kv) :
    Calls Tryz.prog 98 #[.pointer (some ⟨p, 0, none⟩)] w fun e w' => e = .returned (.tuple #[]) ∧ Dr w' p (settleN keepAll bl ws ws.length) none 0 [] (.func (.func 132) #[] #[]) ∧ Kept (fun z => z = p) w w' := by
  have kf := hDr.d.kf
  have kz := hDr.d.frozen (o := 8321) (by decide)
  go_enter Tryz.func98, Tryz.ntmps98
  go_upto_region 1 with fail
  have hD4 := hDr.d.setK (.func (.func 132) #[] #[])
  have K4 := Kept.one w p 8321 (.func (.func 132) #[] #[])
  have hO4 := K4.owns hDr.own (fun z hz e => by have := (hDr.own.lt z hz).1; omega)
  have hDr4 : Dr (w.setCell ⟨p, 8321, none⟩ (.func (.func 132) #[] #[])) p bl pa pc ws (.func (.func 132) #[] #[]) := ⟨hD4, hO4, hDr.w64⟩
  generalize w.setCell ⟨p, 8321, none⟩ (.func (.func 132) #[] #[]) = w4 at hD4 K4 hO4 hDr4 ⊢
  clear hD4 hO4 kf kz
  go_wp2_with (go_at_call 56; refine (powerSyncK_any p bl pa pc ws _ hw hwb hDr4).mono ?_; rintro e w5 ⟨rfl, hDr5, hb5⟩)
  go_end0
  exact ⟨rfl, hDr5, K4.trans hb5 (fun _ _ e => e)⟩

theorem sync_any (p : Nat) (bl : List (List Nat)) (pa : Option Addr) (pc : Nat) (ws : List DW) (kv : Value) (w : World) (hw : ws.length ≤ 201) (hwb : ∀ x, x ∈ ws → 0 ≤ x.block ∧ x.block < 130) (hDr : Dr w p bl pa pc ws kv) :
    Calls Tryz.prog 98 #[.pointer (some ⟨p, 0, none⟩)] w fun e w' => e = .returned (.tuple #[]) ∧ Dr w' p (settleN keepAll bl ws ws.length) none 0 [] (.func (.func 132) #[] #[]) ∧ Below p w w' :=
  (syncK_any p bl pa pc ws kv w hw hwb hDr).mono fun _ _ ⟨he, hD, hK⟩ => ⟨he, hD, hK.below (by have := hDr.d.lt; omega) (fun z hz e => by omega)⟩

end Go.Proofs.YtmdpmdmilgbfiaaGreatDoor

namespace Go.Proofs.YtmdpmdmilgbfiaaGreatDoor
open Go.RowKit

set_option maxHeartbeats 1000000 in
set_option maxRecDepth 100000 in
theorem drvPut_no (x : DW) (a : Option Addr) (cap p : Nat) (bl : List (List Nat)) (pa : Option Addr) (pc : Nat) (ws : List DW) (kv : Value) (w : World) (hb : I64 x.block) (hkl : x.bytes.length ≤ maxLen) (_hw : ws.length ≤ 201) (hno : wrOk x = false ∨ ws.length = 200) (hDr : Dr w p bl pa pc ws kv) :
    Calls Tryz.prog 99 #[.pointer (some ⟨p, 0, none⟩), x.val a cap] w fun e w' => e = .returned (.bool false) ∧ Below w.heap.size w w' := by
  have hA := gal (gre w) (.cells #[.int .i64 x.block, .slice a x.bytes.length cap] 125)
  have hY0 := VB.new_at w (.int .i64 x.block) (.slice a x.bytes.length cap) 125 w.heap.size rfl
  cases hwr : wrOk x with
  | false =>
    have hwr' : Hid _ := hwr
    clear hwr hno
    obtain ⟨y0, y1, yf⟩ := id hY0
    go_enter Tryz.func99, Tryz.ntmps99
    go_wp2_with (go_at_call 66; refine (writeOk_any x a cap _ hb hkl).mono ?_; rintro e w3 ⟨rfl, hb3⟩; rw [hwr'.out])
    go_ret
    exact ⟨rfl, gca hA hb3⟩
  | true =>
    have g3 : ws.length = 200 := hno.resolve_left (by rw [hwr]; simp)
    have t3 : ((ws.length : Int) == 200) = true := by simp; omega
    have hwr' : Hid _ := hwr
    clear hwr hno g3
    obtain ⟨y0, y1, yf⟩ := id hY0
    go_enter Tryz.func99, Tryz.ntmps99
    go_wp2_with (go_at_call 66; refine (writeOk_any x a cap _ hb hkl).mono ?_; rintro e w3 ⟨rfl, hb3⟩; rw [hwr'.out]; have x0 := ((hDr.d.grow hA).grow hb3).ws)
    go_ret
    exact ⟨rfl, gca hA hb3⟩

set_option maxHeartbeats 1000000 in
set_option maxRecDepth 100000 in
theorem drvPutK_yes (x : DW) (a : Option Addr) (cap p : Nat) (bl : List (List Nat)) (pa : Option Addr) (pc : Nat) (ws : List DW) (kv : Value) (w : World) (hb : I64 x.block) (hkl : x.bytes.length ≤ maxLen) (hw : ws.length ≤ 200) (hwr : wrOk x = true) (g3 : ws.length ≠ 200) (ha : BytesAt w a x.bytes) (hfar : ∀ b off, a = some ⟨b, off, none⟩ → b < p) (hDr : Dr w p bl pa pc ws kv) :
    Calls Tryz.prog 99 #[.pointer (some ⟨p, 0, none⟩), x.val a cap] w fun e w' => e = .returned (.bool true) ∧ ∃ pa' pc', Dr w' p bl pa' pc' (ws ++ [x]) kv ∧ Kept (fun z => z = p ∨ (Value.slice pa ws.length pc).ownBlock = some z) w w' := by
  have hA := gal (gre w) (.cells #[.int .i64 x.block, .slice a x.bytes.length cap] 125)
  have hY0 := VB.new_at w (.int .i64 x.block) (.slice a x.bytes.length cap) 125 w.heap.size rfl
  have t3 : ((ws.length : Int) == 200) = false := by simp; omega
  have hn64 : Hid (x.bytes.length = 64) := by have := hwr; simp only [wrOk, Bool.and_eq_true, decide_eq_true_eq] at this; exact this.2
  have hwr' : Hid _ := hwr
  clear hwr g3
  obtain ⟨y0, y1, yf⟩ := id hY0
  go_enter Tryz.func99, Tryz.ntmps99
  go_wp2_with (first
    | (go_at_call 66; refine (writeOk_any x a cap _ hb hkl).mono ?_; rintro e w3 ⟨rfl, hb3⟩; rw [hwr'.out]; have x0 := ((hDr.d.grow hA).grow hb3).ws; obtain ⟨y0, y1, yf⟩ := hY0.grow hb3)
    | (go_at_call 94; refine (takeK_any x a cap p bl pa pc ws kv _ hn64.out hw (ha.grow (gca hA hb3)) hfar (hDr.grow (gca hA hb3))).mono ?_; rintro e w5 ⟨rfl, pa5, pc5, hDr5, hK5⟩))
  go_ret
  exact ⟨rfl, pa5, pc5, hDr5, (Kept.of_below (gca hA hb3) _).trans hK5 (fun _ _ e => e)⟩

theorem drvPut_yes (x : DW) (a : Option Addr) (cap p : Nat) (bl : List (List Nat)) (pa : Option Addr) (pc : Nat) (ws : List DW) (kv : Value) (w : World) (hb : I64 x.block) (hkl : x.bytes.length ≤ maxLen) (hw : ws.length ≤ 200) (hwr : wrOk x = true) (g3 : ws.length ≠ 200) (ha : BytesAt w a x.bytes) (hfar : ∀ b off, a = some ⟨b, off, none⟩ → b < p) (hDr : Dr w p bl pa pc ws kv) :
    Calls Tryz.prog 99 #[.pointer (some ⟨p, 0, none⟩), x.val a cap] w fun e w' => e = .returned (.bool true) ∧ ∃ pa' pc', Dr w' p bl pa' pc' (ws ++ [x]) kv ∧ Kept (fun b => p ≤ b) w w' :=
  (drvPutK_yes x a cap p bl pa pc ws kv w hb hkl hw hwr g3 ha hfar hDr).mono fun _ _ ⟨he, pa', pc', hD, hK⟩ => ⟨he, pa', pc', hD, hK.mono (fun z _ e => by
    rcases e with e | e
    · omega
    · have := (hDr.own.lt z e).1; omega)⟩

theorem put_tame {d : DD} {b : Int} {ks : List Nat} (hd : d.Ok) (hb : I64 b) (hk : BOk ks) : (d.put b ks).Ok ∧ (d.put b ks = zeroD ∨ (d.put b ks).Fit) := by
  cases hok : d.ok with
  | false => rw [put_no1 hok]; exact ⟨⟨Nat.zero_le _, fun b hb => (by cases hb), Nat.zero_le _, fun x hx => (by cases hx), fun x hx => (by cases hx)⟩, Or.inl rfl⟩
  | true =>
    cases hwr : wrOk ⟨b, ks⟩ with
    | false => rw [put_no2 hwr]; exact ⟨⟨Nat.zero_le _, fun b hb => (by cases hb), Nat.zero_le _, fun x hx => (by cases hx), fun x hx => (by cases hx)⟩, Or.inl rfl⟩
    | true =>
      by_cases h : d.waiting.length = 200
      · rw [put_no3 h]; exact ⟨⟨Nat.zero_le _, fun b hb => (by cases hb), Nat.zero_le _, fun x hx => (by cases hx), fun x hx => (by cases hx)⟩, Or.inl rfl⟩
      · have hf := DD.fit hok
        rw [put_yes hok hwr h]
        have hl : (d.waiting ++ [(⟨b, ks⟩ : DW)]).length = d.waiting.length + 1 := by simp
        have hw := hf.wl
        have hwr2 : 0 ≤ b ∧ b < 130 ∧ ks.length = 64 := by
          simp only [wrOk, Bool.and_eq_true, decide_eq_true_eq] at hwr
          exact ⟨hwr.1.1, hwr.1.2, hwr.2⟩
        refine ⟨⟨hd.bl, hd.bb, by show (d.waiting ++ [(⟨b, ks⟩ : DW)]).length ≤ maxLen; rw [hl]; unfold maxLen; omega, fun x hx => ?_, fun x hx => ?_⟩, Or.inr ⟨hf.bl, by show (d.waiting ++ [(⟨b, ks⟩ : DW)]).length ≤ 200; rw [hl]; omega, hf.bb, fun x hx => ?_⟩⟩
        all_goals
          rcases List.mem_append.1 hx with e | e
        · exact hd.wi x e
        · obtain rfl : x = (⟨b, ks⟩ : DW) := by simpa using e
          exact hb
        · exact hd.wb x e
        · obtain rfl : x = (⟨b, ks⟩ : DW) := by simpa using e
          exact hk
        · exact hf.wb x e
        · obtain rfl : x = (⟨b, ks⟩ : DW) := by simpa using e
          exact hwr2

end Go.Proofs.YtmdpmdmilgbfiaaGreatDoor

namespace Go.Proofs.YtmdpmdmilgbfiaaGreatDoor
open Go.RowKit

def DD.step (d : DD) (o : OP) : DD := if o.sync = true then d.settle keepAll else d.put o.block o.bytes
def applyN (d : DD) (ops : List OP) : Nat → Option DD
  | 0 => some d
  | j + 1 => (applyN d ops j).bind fun e => if (e.step ops[j]!).ok = true then some (e.step ops[j]!) else none
theorem applyN_yes {d e : DD} {ops : List OP} {j : Nat} (h : applyN d ops j = some e) (hk : (e.step ops[j]!).ok = true) : applyN d ops (j + 1) = some (e.step ops[j]!) := by
  show (applyN d ops j).bind _ = _
  rw [h]
  exact if_pos hk
theorem applyN_no {d e : DD} {ops : List OP} {j : Nat} (h : applyN d ops j = some e) (hk : (e.step ops[j]!).ok = false) : applyN d ops (j + 1) = none := by
  show (applyN d ops j).bind _ = _
  rw [h]
  exact if_neg (by rw [hk]; exact Bool.false_ne_true)
theorem applyN_none {d : DD} {ops : List OP} {j : Nat} (h : applyN d ops j = none) : ∀ k, applyN d ops (j + k) = none
  | 0 => h
  | k + 1 => by
    show (applyN d ops (j + k)).bind _ = _
    rw [applyN_none h k]
    rfl
theorem Fit.smallA {d : DD} (h : d.Fit) : d.Small := ⟨by have := h.bl; omega, fun b hb => by have := h.bb b hb; omega, by have := h.wl; omega, fun x hx => by have := (h.wb x hx).2.2; omega⟩
theorem settle_okA {d : DD} (hd : d.Ok) (hok : d.ok = true) (keep : Nat → Bool) : (d.settle keep).Ok := by
  have hf := DD.fit hok
  rw [settle_yes hok]
  exact ⟨by show (settleN _ _ _ _).length ≤ maxLen; rw [settleN_length]; exact hd.bl, settleN_all hd.bb hd.wb _ (Nat.le_refl _), Nat.zero_le _, fun x hx => (by cases hx), fun x hx => (by cases hx)⟩
theorem step_ok {d : DD} {o : OP} (hd : d.Ok) (hok : d.ok = true) (hb : I64 o.block) (hk : BOk o.bytes) : (d.step o).Ok := by
  unfold DD.step
  split
  · exact settle_okA hd hok _
  · exact (put_tame hd hb hk).1

def ApPost (d : DD) (ops : List OP) (n : Nat) (w : World) (e : Ending) (w' : World) : Prop :=
  ∃ (lb : List LB) (lw : List LW) (ba : Option Addr) (bc : Nat) (wa : Option Addr) (wc : Nat) (f : DD) (b : Bool), e = .returned (.tuple #[f.val ⟨ba, bc, wa, wc⟩, .bool b]) ∧ Hid (applyN d ops n = if b = true then some f else none) ∧ (b = true → f.ok = true ∧ f.Ok) ∧ lb.map (·.l) = f.blocks ∧ lw.map (·.x) = f.waiting ∧ SB w.heap.size w' ba bc lb ∧ SW w.heap.size w' wa wc lw ∧ Below w.heap.size w w'

theorem blk_setType {w : World} {V o t : Nat} {s : Value} (h : ∃ c, w.heap[V]? = some (.cells c t (0, 0))) : ∃ c, (w.setCell ⟨V, o, none⟩ s).heap[V]? = some (.cells c t (0, 0)) := by
  obtain ⟨c, hc⟩ := h
  obtain ⟨hlt, hk⟩ := Array.getElem?_eq_some_iff.1 hc
  refine ⟨c.setIfInBounds o s, ?_⟩
  show (w.heap.modify V _)[V]? = _
  rw [Array.getElem?_eq_getElem (by rw [Array.size_modify]; exact hlt), Array.getElem_modify_self, hk]
  rfl
structure ApM (w : World) (V R : Nat) (e : DD) (lb : List LB) (lw : List LW) (ba : Option Addr) (bc : Nat) (wa : Option Addr) (wc : Nat) (wr : World) : Prop where
  mb : lb.map (·.l) = e.blocks
  mw : lw.map (·.x) = e.waiting
  sb : SB w.heap.size wr ba bc lb
  sw : SW w.heap.size wr wa wc lw
  v : VB wr V (.slice ba e.blocks.length bc) (.slice wa e.waiting.length wc)
  vd : IsD wr V
  r : VB wr R (.slice none 0 0) (.slice none 0 0)
  rd : IsD wr R
  bel : Below w.heap.size w wr
theorem ApM.at_ {w : World} {V R : Nat} {e : DD} {lb : List LB} {lw : List LW} {ba : Option Addr} {bc : Nat} {wa : Option Addr} {wc : Nat} {wr : World} (h : ApM w V R e lb lw ba bc wa wc wr) : DAt wr ⟨ba, bc, wa, wc⟩ e := ⟨by rw [← h.mb]; exact h.sb.at_, by rw [← h.mw]; exact h.sw.at_⟩
theorem ApM.grow {w : World} {V R : Nat} {e : DD} {lb : List LB} {lw : List LW} {ba : Option Addr} {bc : Nat} {wa : Option Addr} {wc : Nat} {wr w' : World} (h : ApM w V R e lb lw ba bc wa wc wr) (hb : Below wr.heap.size wr w') : ApM w V R e lb lw ba bc wa wc w' :=
  ⟨h.mb, h.mw, h.sb.grow hb, h.sw.grow hb, h.v.grow hb, h.vd.grow hb, h.r.grow hb, h.rd.grow hb, gca h.bel hb⟩
theorem ApM.store {w : World} {V R : Nat} {e f : DD} {lb lb' : List LB} {lw lw' : List LW} {ba ba' : Option Addr} {bc bc' : Nat} {wa wa' : Option Addr} {wc wc' : Nat} {wr w2 : World} (h : ApM w V R e lb lw ba bc wa wc wr) (hVw : w.heap.size ≤ V) (hVR : R ≠ V) (mb : lb'.map (·.l) = f.blocks) (mw : lw'.map (·.x) = f.waiting) (sb : SB wr.heap.size w2 ba' bc' lb') (sw : SW wr.heap.size w2 wa' wc' lw') (hb : Below wr.heap.size wr w2) :
    ApM w V R f lb' lw' ba' bc' wa' wc' ((w2.setCell ⟨V, 0, none⟩ (.slice ba' f.blocks.length bc')).setCell ⟨V, 1, none⟩ (.slice wa' f.waiting.length wc')) := by
  have hD := h.vd.grow hb
  have hD1 : IsD (w2.setCell ⟨V, 0, none⟩ (.slice ba' f.blocks.length bc')) V := blk_setType hD
  have hle := h.bel.size
  refine ⟨mb, mw, ?_, ?_, ?_, blk_setType hD1, ?_, ((h.rd.grow hb).kept (Kept.one w2 V 0 _) hVR).kept (Kept.one _ V 1 _) hVR, ?_⟩
  · exact ((sb.le hle).kept (Kept.one w2 V 0 _) (fun z e _ => by subst e; exact ⟨not_S_of_D hD, not_B_of_D hD⟩)).kept (Kept.one _ V 1 _) (fun z e _ => by subst e; exact ⟨not_S_of_D hD1, not_B_of_D hD1⟩)
  · exact ((sw.le hle).kept (Kept.one w2 V 0 _) (fun z e _ => by subst e; exact ⟨not_W_of_D hD, not_B_of_D hD⟩)).kept (Kept.one _ V 1 _) (fun z e _ => by subst e; exact ⟨not_W_of_D hD1, not_B_of_D hD1⟩)
  · exact ((h.v.grow hb).set0 _).set1 _
  · exact ((h.r.grow hb).kept (Kept.one w2 V 0 _) hVR).kept (Kept.one _ V 1 _) hVR
  · exact gse (gse (gca h.bel hb) hVw _) hVw _

set_option maxHeartbeats 4000000 in
set_option maxRecDepth 100000 in
theorem l4apply_any (d : DD) (l : DL) (oa : Option Addr) (ops : List OP) (oc n : Nat) (m : Int) (w : World) (hm : m = (n : Int)) (hok : d.ok = true) (hd : d.Ok) (ha : DAt w l d) (hops : OpsOk ops) (hat : OpsAt w oa ops) (hn : n ≤ ops.length) :
    Calls Tryz.prog 70 #[d.val l, .slice oa ops.length oc, .int .i64 m] w (ApPost d ops n w) := by
  have hf := DD.fit hok
  have hsm := Fit.smallA hf
  have hol := hops.len
  unfold maxLen at hol
  have hX0 := DBox.new w d l 46
  have hA0 := gal (gal (gre w) (.cells #[.slice l.ba d.blocks.length l.bc, .slice l.wa d.waiting.length l.wc] 46)) (.cells #[.slice none 0 0, .slice none 0 0] 46)
  obtain ⟨_, x0, x1⟩ := hX0.grow (gal (gre _) (.cells #[.slice none 0 0, .slice none 0 0] 46))
  subst hm
  go_enter Tryz.func70, Tryz.ntmps70
  go_upto_region 2 with (go_at_call 68; refine (l3copy_any d l _ hsm (ha.grow hA0)).mono ?_; rintro e w1 ⟨lb, lw, ba, bc, wa, wc, rfl, hmb, hmw, hsb, hsw, hb1⟩)
  obtain ⟨V, hV⟩ := hid_ex w1.heap.size
  obtain ⟨R, hR⟩ := hid_ex (w.heap.size + 1)
  have hsz1 := hb1.size
  have hI0 : ApM w V R d lb lw ba bc wa wc (w1.alloc (.cells #[.slice ba d.blocks.length bc, .slice wa d.waiting.length wc] 46)) := by
    have hg := gal (gre w1) (.cells #[.slice ba d.blocks.length bc, .slice wa d.waiting.length wc] 46)
    refine ⟨hmb, hmw, (hsb.le hA0.size).grow hg, (hsw.le hA0.size).grow hg, by rw [hV.out]; exact VB.new w1 _ _ _, ⟨_, by rw [hV.out]; exact blk_new_at _ _ _ rfl⟩, ?_, ?_, gca (gca hA0 hb1) hg⟩
    · rw [hR.out]
      exact ((VB.new_at _ (.slice none 0 0) (.slice none 0 0) 46 (w.heap.size + 1) (by simp)).grow hb1).grow hg
    · rw [hR.out]
      exact (IsD.grow (w := (w.alloc (.cells #[.slice l.ba d.blocks.length l.bc, .slice l.wa d.waiting.length l.wc] 46)).alloc (.cells #[.slice none 0 0, .slice none 0 0] 46)) ⟨_, blk_new_at _ _ _ (by simp)⟩ hb1).grow hg
  have hVw : w.heap.size ≤ V := by rw [hV.out]; have := (gca hA0 hb1).size; omega
  have hVR : R ≠ V := by have := hV.out; have := hR.out; simp at hsz1; omega
  have hRw : w.heap.size ≤ R := by have := hR.out; omega
  rw [← hV.out, ← hR.out]
  generalize w1.alloc (.cells #[.slice ba d.blocks.length bc, .slice wa d.waiting.length wc] 46) = wS at hI0 ⊢
  clear hsb hsw hb1 x0 x1 hX0 hA0 hsz1 hV hR
  go_wp2
  go_loopw [9] (fun i wr => ∃ (j : Nat) (e : DD) (lb : List LB) (lw : List LW) (ba : Option Addr) (bc : Nat) (wa : Option Addr) (wc : Nat), j ≤ n ∧ i = .int .i64 (j : Int) ∧ Hid (applyN d ops j = some e) ∧ Hid (e.ok = true) ∧ e.Ok ∧ ApM w V R e lb lw ba bc wa wc wr) (fun i _ => n - (intOf i).toNat)
  case atStart => exact ⟨0, d, lb, lw, ba, bc, wa, wc, Nat.zero_le _, rfl, rfl, hok, hd, hI0⟩
  case round =>
    obtain ⟨j, e, lb, lw, ba, bc, wa, wc, hj, rfl, hap, hek, heO, hI⟩ := hrel
    by_cases hlt : j < n
    · have hjn : (j : Int) < (n : Int) := by omega
      obtain ⟨x, b, off, a', cap', hxk, hxm, rfl, c0, c1, c2, hxa⟩ := (hat.grow hI.bel).get (k := j) (by omega)
      obtain ⟨v0, v1, vf⟩ := id hI.v
      have i0 : (0 : Int) ≤ (j : Int) := by omega
      have i1 : (j : Int) < (ops.length : Int) := by omega
      obtain ⟨f, hfe⟩ := hid_ex (e.step x)
      have hfO : f.Ok := by rw [hfe.out]; exact step_ok heO hek.out (hops.bl x hxm) (hops.by_ x hxm)
      go_upto_if 21 with fail
      go_cut [] from 21 to 39 (fun wx => ∃ (lb : List LB) (lw : List LW) (ba : Option Addr) (bc : Nat) (wa : Option Addr) (wc : Nat), ApM w V R f lb lw ba bc wa wc wx)
      case first =>
        cases hsy : x.sync with
        | true =>
          have hfs : Hid (e.settle keepAll = f) := by show _ = _; rw [hfe.out]; exact (if_pos hsy).symm
          rw [hsy] at c0
          go_wp2_with (go_at_call 113; refine (specSync_any e ⟨ba, bc, wa, wc⟩ _ heO hI.at_).mono ?_; rw [hfs.out]; rintro e2 w2 ⟨lb2, lw2, ba2, bc2, wa2, wc2, rfl, mb2, mw2, sb2, sw2, hb2⟩; obtain ⟨y0, y1, yf⟩ := hI.v.grow hb2)
          go_meet
          case rel => exact ⟨lb2, lw2, ba2, bc2, wa2, wc2, hI.store hVw hVR mb2 mw2 sb2 sw2 hb2⟩
        | false =>
          have hfs : Hid (e.put x.block x.bytes = f) := by show _ = _; rw [hfe.out]; exact (if_neg (by rw [hsy]; exact Bool.false_ne_true)).symm
          rw [hsy] at c0
          go_upto_region 7 with fail
          have hB : Below wr.heap.size wr wr.drew := gdr (gre _)
          have hId := hI.grow hB
          have hS0 : VB wr.drew V (.slice ba e.blocks.length bc) (.slice wa e.waiting.length wc) ∧ wr.drew.cell? ⟨b, off + j * 3 + 1, none⟩ = some (.int .i64 x.block) ∧ wr.drew.cell? ⟨b, off + j * 3 + 2, none⟩ = some (.slice a' x.bytes.length cap') := ⟨hId.v, c1, c2⟩
          have hxd := hxa.grow hB
          refine wp_regionU (fun u => VB u V (.slice ba e.blocks.length bc) (.slice wa e.waiting.length wc) ∧ u.cell? ⟨b, off + j * 3 + 1, none⟩ = some (.int .i64 x.block) ∧ u.cell? ⟨b, off + j * 3 + 2, none⟩ = some (.slice a' x.bytes.length cap')) 12 (by kernel_rfl) hS0 (fun _ => ?_)
          generalize wr.drew = wd at hId hS0 hxd hB ⊢
          refine anyU_take (i := 0) (v := ?_) rfl (by kernel_rfl) (by kernel_rfl) (by kernel_rfl) (by kernel_rfl) (fun _ _ _ h => h) (Or.inl ⟨by rfl, ?_⟩) hS0 ?_
          rotate_left
          · intro u hSu; obtain ⟨⟨s0, s1, sf⟩, t0, t1⟩ := hSu; go_simp <;> with_reducible rfl
          simp only [Act.put, List.getElem_toArray, List.getElem_cons_zero, List.setIfInBounds_toArray, List.set_cons_zero, List.set_cons_succ]
          refine anyU_take (i := 1) (v := ?_) rfl (by kernel_rfl) (by kernel_rfl) (by kernel_rfl) (by kernel_rfl) (fun _ _ _ h => h) (Or.inl ⟨by rfl, ?_⟩) hS0 ?_
          rotate_left
          · intro u hSu; obtain ⟨⟨s0, s1, sf⟩, t0, t1⟩ := hSu; go_simp <;> with_reducible rfl
          simp only [Act.put, List.getElem_toArray, List.getElem_cons_zero, List.getElem_cons_succ, List.setIfInBounds_toArray, List.set_cons_zero, List.set_cons_succ]
          refine anyU_take (i := 2) (v := ?_) rfl (by kernel_rfl) (by kernel_rfl) (by kernel_rfl) (by kernel_rfl) (fun _ _ _ h => h) (Or.inl ⟨by rfl, ?_⟩) hS0 ?_
          rotate_left
          · intro u hSu; obtain ⟨⟨s0, s1, sf⟩, t0, t1⟩ := hSu; go_simp <;> with_reducible rfl
          simp only [Act.put, List.getElem_toArray, List.getElem_cons_zero, List.getElem_cons_succ, List.setIfInBounds_toArray, List.set_cons_zero, List.set_cons_succ]
          refine anyU_take (i := 3) (v := ?_) rfl (by kernel_rfl) (by kernel_rfl) (by kernel_rfl) (by kernel_rfl) (fun _ _ _ h => h) (Or.inl ⟨by rfl, ?_⟩) hS0 ?_
          rotate_left
          · intro u hSu; obtain ⟨⟨s0, s1, sf⟩, t0, t1⟩ := hSu; go_simp <;> with_reducible rfl
          simp only [Act.put, List.getElem_toArray, List.getElem_cons_zero, List.getElem_cons_succ, List.setIfInBounds_toArray, List.set_cons_zero, List.set_cons_succ]
          refine anyU_take (i := 4) (v := ?_) rfl (by kernel_rfl) (by kernel_rfl) (by kernel_rfl) (by kernel_rfl) (fun _ _ _ h => h) (Or.inl ⟨by rfl, ?_⟩) hS0 ?_
          rotate_left
          · intro u hSu; obtain ⟨⟨s0, s1, sf⟩, t0, t1⟩ := hSu; go_simp <;> with_reducible rfl
          simp only [Act.put, List.getElem_toArray, List.getElem_cons_zero, List.getElem_cons_succ, List.setIfInBounds_toArray, List.set_cons_zero, List.set_cons_succ]
          refine anyU_take (i := 5) (v := ?_) rfl (by kernel_rfl) (by kernel_rfl) (by kernel_rfl) (by kernel_rfl) (fun _ _ _ h => h) (Or.inl ⟨by rfl, ?_⟩) hS0 ?_
          rotate_left
          · intro u hSu; obtain ⟨⟨s0, s1, sf⟩, t0, t1⟩ := hSu; go_simp <;> with_reducible rfl
          simp only [Act.put, List.getElem_toArray, List.getElem_cons_zero, List.getElem_cons_succ, List.setIfInBounds_toArray, List.set_cons_zero, List.set_cons_succ]
          refine anyU_take (i := 6) (v := ?_) rfl (by kernel_rfl) (by kernel_rfl) (by kernel_rfl) (by kernel_rfl) (fun _ _ _ h => h) (Or.inl ⟨by rfl, ?_⟩) hS0 ?_
          rotate_left
          · intro u hSu; obtain ⟨⟨s0, s1, sf⟩, t0, t1⟩ := hSu; go_simp <;> with_reducible rfl
          simp only [Act.put, List.getElem_toArray, List.getElem_cons_zero, List.getElem_cons_succ, List.setIfInBounds_toArray, List.set_cons_zero, List.set_cons_succ]
          refine anyU_take (i := 7) (v := ?_) rfl (by kernel_rfl) (by kernel_rfl) (by kernel_rfl) (by kernel_rfl) (fun _ _ _ h => h) (Or.inl ⟨by rfl, ?_⟩) hS0 ?_
          rotate_left
          · intro u hSu; obtain ⟨⟨s0, s1, sf⟩, t0, t1⟩ := hSu; go_simp <;> with_reducible rfl
          simp only [Act.put, List.getElem_toArray, List.getElem_cons_zero, List.getElem_cons_succ, List.setIfInBounds_toArray, List.set_cons_zero, List.set_cons_succ]
          refine anyU_take (i := 8) (v := ?_) rfl (by kernel_rfl) (by kernel_rfl) (by kernel_rfl) (by kernel_rfl) (fun _ _ _ h => h) (Or.inl ⟨by rfl, ?_⟩) hS0 ?_
          rotate_left
          · intro u hSu; obtain ⟨⟨s0, s1, sf⟩, t0, t1⟩ := hSu; go_simp <;> with_reducible rfl
          simp only [Act.put, List.getElem_toArray, List.getElem_cons_zero, List.getElem_cons_succ, List.setIfInBounds_toArray, List.set_cons_zero, List.set_cons_succ]
          refine anyU_take (i := 9) (v := ?_) rfl (by kernel_rfl) (by kernel_rfl) (by kernel_rfl) (by kernel_rfl) (fun _ _ _ h => h) (Or.inl ⟨by rfl, ?_⟩) hS0 ?_
          rotate_left
          · intro u hSu; obtain ⟨⟨s0, s1, sf⟩, t0, t1⟩ := hSu; go_simp <;> with_reducible rfl
          simp only [Act.put, List.getElem_toArray, List.getElem_cons_zero, List.getElem_cons_succ, List.setIfInBounds_toArray, List.set_cons_zero, List.set_cons_succ]
          refine anyU_take (i := 10) (v := ?_) rfl (by kernel_rfl) (by kernel_rfl) (by kernel_rfl) (by kernel_rfl) (fun _ _ _ h => h) (Or.inl ⟨by rfl, ?_⟩) hS0 ?_
          rotate_left
          · intro u hSu; obtain ⟨⟨s0, s1, sf⟩, t0, t1⟩ := hSu; go_simp <;> with_reducible rfl
          simp only [Act.put, List.getElem_toArray, List.getElem_cons_zero, List.getElem_cons_succ, List.setIfInBounds_toArray, List.set_cons_zero, List.set_cons_succ]
          refine anyU_one (i := 11) (by kernel_rfl) rfl (fun K hK => ?_)
          go_simp
          refine (specPut_any e ⟨ba, bc, wa, wc⟩ x.block a' x.bytes cap' _ heO hId.at_ (hops.bl x hxm) (hops.by_ x hxm).len hxd).mono ?_
          rw [hfs.out]
          rintro e2 w2 ⟨lb2, lw2, ba2, bc2, wa2, wc2, rfl, mb2, mw2, sb2, sw2, hb2⟩
          refine hK.out _ _ ⟨hS0.1.grow hb2, cell_later hb2 hS0.2.1, cell_later hb2 hS0.2.2⟩ ?_
          clear hK
          obtain ⟨y0, y1, yf⟩ := hId.v.grow hb2
          refine anyU_last (by kernel_rfl) rfl (by kernel_rfl) (fun K hK => ?_)
          go_simp
          refine hK.out _ _ ?_
          clear hK
          go_wp2
          go_meet
          case rel => exact ⟨lb2, lw2, ba2, bc2, wa2, wc2, hId.store hVw hVR mb2 mw2 sb2 sw2 hb2⟩
      case rest =>
        obtain ⟨lb2, lw2, ba2, bc2, wa2, wc2, hI2⟩ := hcut
        obtain ⟨y0, y1, yf⟩ := id hI2.v
        obtain ⟨z0, z1, zf⟩ := id hI2.r
        have hfst : Hid (f = e.step ops[j]!) := by show _ = _; rw [hfe.out, hxk.out]
        cases hfk : f.ok with
        | true =>
          have hfk' : Hid (f.ok = true) := hfk
          have hnx : Hid (applyN d ops (j + 1) = some f) := by
            show _ = _
            rw [hfst.out] at hfk ⊢
            exact applyN_yes hap.out hfk
          clear hfk
          go_wp2_with (go_at_call 30; refine (specDiskOk_any f ⟨ba2, bc2, wa2, wc2⟩ _ hfO hI2.at_).mono ?_; rw [hfk'.out]; rintro e2 w3 ⟨rfl, hb3⟩)
          go_roundw
          case rel => exact ⟨j + 1, f, lb2, lw2, ba2, bc2, wa2, wc2, by omega, by go_num, hnx.out, hfk'.out, hfO, hI2.grow hb3⟩
          case measure => simp [intOf]; omega
        | false =>
          have hfk' : Hid (f.ok = false) := hfk
          have hnx : Hid (applyN d ops (j + 1) = none) := by
            show _ = _
            rw [hfst.out] at hfk
            exact applyN_no hap.out hfk
          clear hfk
          go_upto_region 99 with (go_at_call 30; refine (specDiskOk_any f ⟨ba2, bc2, wa2, wc2⟩ _ hfO hI2.at_).mono ?_; rw [hfk'.out]; rintro e2 w3 ⟨rfl, hb3⟩; obtain ⟨p0, p1, pf⟩ := hI2.r.grow hb3)
          have hI3 := hI2.grow hb3
          have hnn : applyN d ops n = none := by
            have := applyN_none hnx.out (n - (j + 1))
            rw [show j + 1 + (n - (j + 1)) = n by omega] at this
            exact this
          obtain ⟨q0, q1, _⟩ := ((hI3.r).set0 (.slice none 0 0)).set1 (.slice none 0 0)
          refine bodyPost_ret (v := .tuple #[zeroD.val ⟨none, 0, none, 0⟩, .bool false]) (by simp [results, Tryz.results70, go_sem, q0, q1, zeroD]) rfl ⟨[], [], none, 0, none, 0, zeroD, false, rfl, ?_, (fun h => by cases h), rfl, rfl, SB.nil _ _, SW.nil _ _, gse (p := ⟨R, 1, none⟩) (gse (p := ⟨R, 0, none⟩) hI3.bel hRw _) hRw _⟩
          show _ = _
          rw [hnn]
          rfl
    · obtain rfl : j = n := by omega
      have hjn : ¬ ((j : Int) < (j : Int)) := by omega
      obtain ⟨v0, v1, vf⟩ := id hI.v
      obtain ⟨z0, z1, zf⟩ := id hI.r
      go_upto_region 99 with fail
      obtain ⟨q0, q1, _⟩ := (hI.r.set0 (.slice ba e.blocks.length bc)).set1 (.slice wa e.waiting.length wc)
      have hK := (Kept.one wr R 0 (.slice ba e.blocks.length bc)).trans (Kept.one _ R 1 (.slice wa e.waiting.length wc)) (fun _ _ h => h)
      refine bodyPost_ret (v := .tuple #[e.val ⟨ba, bc, wa, wc⟩, .bool true]) (by simp [results, Tryz.results70, go_sem, q0, q1]) rfl ⟨lb, lw, ba, bc, wa, wc, e, true, rfl, ?_, fun _ => ⟨hek.out, heO⟩, hI.mb, hI.mw, hI.sb.kept hK (fun z h _ => by subst h; exact ⟨not_S_of_D hI.rd, not_B_of_D hI.rd⟩), hI.sw.kept hK (fun z h _ => by subst h; exact ⟨not_W_of_D hI.rd, not_B_of_D hI.rd⟩), gse (p := ⟨R, 1, none⟩) (gse (p := ⟨R, 0, none⟩) hI.bel hRw _) hRw _⟩
      show _ = _
      rw [hap.out]
      rfl

end Go.Proofs.YtmdpmdmilgbfiaaGreatDoor

namespace Go.Proofs.YtmdpmdmilgbfiaaGreatDoor
open Go.RowKit

def OP.Good (o : OP) : Prop := o.sync = true ∨ wrOk ⟨o.block, o.bytes⟩ = true
theorem fit_okP {d : DD} (h : d.Fit) : d.ok = true := by
  unfold DD.ok
  simp only [Bool.and_eq_true, decide_eq_true_eq, List.all_eq_true]
  refine ⟨⟨⟨h.bl, h.wl⟩, fun b hb => by simpa [blOk] using h.bb b hb⟩, fun x hx => ?_⟩
  have := h.wb x hx
  simp only [wrOk, Bool.and_eq_true, decide_eq_true_eq]
  exact ⟨⟨this.1, this.2.1⟩, this.2.2⟩
theorem settle_okP {d : DD} (hok : d.ok = true) (keep : Nat → Bool) : (d.settle keep).ok = true ∧ (d.settle keep).waiting = [] := by
  have hf := DD.fit hok
  rw [settle_yes hok]
  exact ⟨fit_okP ⟨by show (settleN _ _ _ _).length = 130; rw [settleN_length]; exact hf.bl, Nat.zero_le _, settleN_all hf.bb (fun x hx => (hf.wb x hx).2.2) _ (Nat.le_refl _), fun x hx => (by cases hx)⟩, rfl⟩
theorem step_good {d : DD} {o : OP} (hok : d.ok = true) (hg : o.Good) (hw : d.waiting.length < 200) : (d.step o).ok = true ∧ (d.step o).waiting.length ≤ d.waiting.length + 1 ∧ (o.sync = true → (d.step o).waiting = []) := by
  unfold DD.step
  by_cases hs : o.sync = true
  · rw [if_pos hs]
    obtain ⟨h1, h2⟩ := settle_okP hok keepAll
    exact ⟨h1, by rw [h2]; exact Nat.zero_le _, fun _ => h2⟩
  · rw [if_neg hs]
    have hw2 := hg.resolve_left hs
    have hf := DD.fit hok
    rw [put_yes hok hw2 (by omega)]
    have hwr : 0 ≤ o.block ∧ o.block < 130 ∧ o.bytes.length = 64 := by
      simp only [wrOk, Bool.and_eq_true, decide_eq_true_eq] at hw2
      exact ⟨hw2.1.1, hw2.1.2, hw2.2⟩
    have hl : (d.waiting ++ [(⟨o.block, o.bytes⟩ : DW)]).length = d.waiting.length + 1 := by simp
    refine ⟨fit_okP ⟨hf.bl, by show (d.waiting ++ [(⟨o.block, o.bytes⟩ : DW)]).length ≤ 200; rw [hl]; omega, hf.bb, fun x hx => ?_⟩, by show (d.waiting ++ [(⟨o.block, o.bytes⟩ : DW)]).length ≤ _; rw [hl]; omega, fun e => absurd e hs⟩
    rcases List.mem_append.1 hx with e | e
    · exact hf.wb x e
    · rw [List.mem_singleton.1 e]; exact hwr
theorem applyN_good {d : DD} {ops : List OP} (hok : d.ok = true) (hg : ∀ o, o ∈ ops → o.Good) : ∀ j, j ≤ ops.length → d.waiting.length + j ≤ 200 → ∃ f, applyN d ops j = some f ∧ f.ok = true ∧ f.waiting.length ≤ d.waiting.length + j
  | 0, _, _ => ⟨d, rfl, hok, Nat.le_refl _⟩
  | j + 1, hj, hw => by
    obtain ⟨f, h1, h2, h3⟩ := applyN_good hok hg j (by omega) (by omega)
    obtain ⟨s1, s2, _⟩ := step_good h2 (hg ops[j]! (mem_at (by omega))) (by omega)
    exact ⟨_, applyN_yes h1 s1, s1, by omega⟩
theorem lay_good (d : DD) {im : List Nat} (hil : im.length ≤ 4096) : ∀ o, o ∈ d.lay im → o.Good := fun o ho => by
  have hs2 := d.newestOf.other_lt
  unfold DD.lay at ho
  split at ho
  · cases ho
  · rcases List.mem_append.1 ho with e | e
    · obtain ⟨i, hi, rfl⟩ := List.mem_map.1 e
      have hi2 := List.mem_range.1 hi
      have hn := nBlk_le hil
      refine Or.inr ?_
      simp only [wrOk, Bool.and_eq_true, decide_eq_true_eq, blkOf_len]
      unfold firstOf
      refine ⟨⟨by omega, by omega⟩, trivial⟩
    · simp only [List.mem_cons, List.not_mem_nil, or_false] at e
      rcases e with rfl | rfl | rfl
      · exact Or.inl rfl
      · refine Or.inr ?_
        have h1 : (0 : Int) ≤ (d.newestOf.other : Int) := by omega
        have h2 : (d.newestOf.other : Int) < 130 := by omega
        unfold headO wrOk
        rw [headB_length]
        simp only [decide_eq_true h1, decide_eq_true h2]
        rfl
      · exact Or.inl rfl
theorem lay_len (d : DD) {im : List Nat} (hil : im.length ≤ 4096) : (d.lay im).length ≤ 67 := by
  unfold DD.lay
  split
  · exact Nat.zero_le _
  · have := nBlk_le hil
    rw [List.length_append, imgOps_len]
    simp
    omega
theorem lay_last (d : DD) {im : List Nat} (hne : d.lay im ≠ []) : ∃ r, d.lay im = r ++ [syncO] := by
  unfold DD.lay at hne ⊢
  split
  · rename_i h; rw [if_pos h] at hne; exact absurd rfl hne
  · exact ⟨imgOps d.newestOf.other im (nBlk im) ++ [syncO, headO d.newestOf im], by simp⟩
theorem lay_done {d f : DD} {im : List Nat} (hw : d.waiting = []) (hok : d.ok = true) (hil : im.length ≤ 4096) (h : applyN d (d.lay im) (d.lay im).length = some f) : f.waiting = [] := by
  by_cases hne : d.lay im = []
  · rw [hne] at h
    obtain rfl : d = f := Option.some.inj h
    exact hw
  · obtain ⟨r, hr⟩ := lay_last d hne
    have hg := lay_good d hil
    have hll := lay_len d hil
    have hl : (d.lay im).length = r.length + 1 := by rw [hr, List.length_append]; rfl
    obtain ⟨e, h1, h2, h3⟩ := applyN_good hok hg r.length (by omega) (by rw [hw]; simp; omega)
    have hlast : (d.lay im)[r.length]! = syncO := by rw [hr, getElem!_pos _ _ (by simp)]; simp
    have hw0 : e.waiting.length < 200 := by rw [hw] at h3; simp at h3; omega
    obtain ⟨s1, _, s3⟩ := step_good (o := (d.lay im)[r.length]!) h2 (by rw [hlast]; exact Or.inl rfl) hw0
    rw [hl] at h
    have := applyN_yes h1 s1
    rw [this] at h
    obtain rfl := Option.some.inj h
    exact s3 (by rw [hlast]; rfl)
theorem lay_opsOk (d : DD) {im : List Nat} (_hf : d.newestOf.gen ≤ 1000000000000 ∧ 0 ≤ d.newestOf.gen) (hib : ∀ x, x ∈ im → x < 256) (hil : im.length ≤ 4096) : OpsOk (d.lay im) := by
  have hs2 := d.newestOf.other_lt
  have hll := lay_len d hil
  refine ⟨by unfold maxLen; omega, fun o ho => ?_, fun o ho => ?_⟩
  · rcases lay_good d hil o ho with h | h
    · unfold DD.lay at ho
      split at ho
      · cases ho
      · rcases List.mem_append.1 ho with e | e
        · obtain ⟨i, _, rfl⟩ := List.mem_map.1 e
          cases h
        · simp only [List.mem_cons, List.not_mem_nil, or_false] at e
          rcases e with rfl | rfl | rfl
          · unfold I64; show -9223372036854775808 ≤ (0 : Int) ∧ (0 : Int) < 9223372036854775808; omega
          · cases h
          · unfold I64; show -9223372036854775808 ≤ (0 : Int) ∧ (0 : Int) < 9223372036854775808; omega
    · simp only [wrOk, Bool.and_eq_true, decide_eq_true_eq] at h
      unfold I64
      omega
  · unfold DD.lay at ho
    split at ho
    · cases ho
    · rcases List.mem_append.1 ho with e | e
      · obtain ⟨i, _, rfl⟩ := List.mem_map.1 e
        exact ⟨by show (blkOf im i).length ≤ maxLen; rw [blkOf_len]; decide, blkOf_byte hib i⟩
      · simp only [List.mem_cons, List.not_mem_nil, or_false] at e
        rcases e with rfl | rfl | rfl
        · exact ⟨Nat.zero_le _, fun x hx => by cases hx⟩
        · refine ⟨by show (headB _ _ _).length ≤ maxLen; rw [headB_length]; decide, fun x hx => ?_⟩
          have hx : x ∈ headB (d.newestOf.gen + 1) (im.length : Int) (wrap64 (sumN im : Int)) := hx
          unfold headB at hx
          rcases List.mem_append.1 hx with e | e
          · rcases List.mem_append.1 e with e | e
            · exact headN_byte _ _ _ x e
            · exact lowB_byte _ _ _ e
          · rw [List.eq_of_mem_replicate e]; decide
        · exact ⟨Nat.zero_le _, fun x hx => by cases hx⟩

end Go.Proofs.YtmdpmdmilgbfiaaGreatDoor

namespace Go.Proofs.YtmdpmdmilgbfiaaGreatDoor
open Go.RowKit

theorem packB_lenK (g : GG) : (packB g).length ≤ 4096 := by
  unfold packB
  split
  · rename_i h; exact h.2
  · exact Nat.zero_le _
theorem packB_bytesK (g : GG) : ∀ x, x ∈ packB g → x < 256 := by
  unfold packB
  split
  · rename_i h; exact formB_bytes (canon_okG h.1)
  · intro x hx; cases hx
theorem ops_okK {d : DD} {im : List Nat} (hib : ∀ x, x ∈ im → x < 256) : OpsOk (d.ops im) ∧ (d.ops im).length ≤ 67 := by
  unfold DD.ops
  split
  · rename_i h
    have hr := newest_rng (DD.fit h.1)
    exact ⟨lay_opsOk d ⟨hr.g.2, hr.g.1⟩ hib h.2.2.2, lay_len d h.2.2.2⟩
  · exact ⟨⟨Nat.zero_le _, fun x hx => (by cases hx), fun x hx => (by cases hx)⟩, Nat.zero_le _⟩
theorem mb_bytesK {w : World} {lo : Nat} {oa : Option Addr} {ys : List Nat} (h : MB w lo oa ys) : BytesAt w oa ys := by
  rcases h with rfl | ⟨G, n, rfl, _, hB⟩
  · exact fun i hi => absurd hi (Nat.not_lt_zero _)
  · exact brow_bytes hB

end Go.Proofs.YtmdpmdmilgbfiaaGreatDoor
