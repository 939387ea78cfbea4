import Derived.Test.YtmdpmdmilgbfiaaGreatDoorPartZH
import Derived.Test.YtmdpmdmilgbfiaaGreatDoorPartZJ

namespace Go.Proofs.YtmdpmdmilgbfiaaGreatDoor
open Go.RowKit

structure KM (B V R : Nat) (e : DD) (lb : List LB) (lw : List LW) (ba : Option Addr) (bc : Nat) (wa : Option Addr) (wc : Nat) (wr : World) : Prop where
  mb : lb.map (·.l) = e.blocks
  mw : lw.map (·.x) = e.waiting
  sb : SB B wr ba bc lb
  sw : SW B wr wa wc lw
  v : VB wr V (.slice ba e.blocks.length bc) (.slice wa e.waiting.length wc)
  vd : IsD wr V
  r : VB wr R (.slice none 0 0) (.slice none 0 0)
  rd : IsD wr R
theorem KM.at_ {B V R : Nat} {e : DD} {lb : List LB} {lw : List LW} {ba : Option Addr} {bc : Nat} {wa : Option Addr} {wc : Nat} {wr : World} (h : KM B V R e lb lw ba bc wa wc wr) : DAt wr ⟨ba, bc, wa, wc⟩ e := ⟨by rw [← h.mb]; exact h.sb.at_, by rw [← h.mw]; exact h.sw.at_⟩
theorem KM.kept {p : Nat → Prop} {B V R : Nat} {e : DD} {lb : List LB} {lw : List LW} {ba : Option Addr} {bc : Nat} {wa : Option Addr} {wc : Nat} {wr w' : World} (h : KM B V R e lb lw ba bc wa wc wr) (K : Kept p wr w') (hp : ∀ z, p z → z < B) (hV : B ≤ V) (hR : B ≤ R) : KM B V R e lb lw ba bc wa wc w' :=
  ⟨h.mb, h.mw, h.sb.kept K (fun z e hz => by have := hp z e; omega), h.sw.kept K (fun z e hz => by have := hp z e; omega), h.v.kept K (fun e => by have := hp _ e; omega), h.vd.kept K (fun e => by have := hp _ e; omega), h.r.kept K (fun e => by have := hp _ e; omega), h.rd.kept K (fun e => by have := hp _ e; omega)⟩
theorem KM.grow {B V R : Nat} {e : DD} {lb : List LB} {lw : List LW} {ba : Option Addr} {bc : Nat} {wa : Option Addr} {wc : Nat} {wr w' : World} (h : KM B V R e lb lw ba bc wa wc wr) (hb : Below wr.heap.size wr w') (hV : B ≤ V) (hR : B ≤ R) : KM B V R e lb lw ba bc wa wc w' := h.kept (Kept.of_below hb (fun _ => False)) (fun _ e => e.elim) hV hR
theorem KM.store {B V R : Nat} {e f : DD} {lb lb' : List LB} {lw lw' : List LW} {ba ba' : Option Addr} {bc bc' : Nat} {wa wa' : Option Addr} {wc wc' : Nat} {w2 : World} (h : KM B V R e lb lw ba bc wa wc w2) (hVR : R ≠ V) (mb : lb'.map (·.l) = f.blocks) (mw : lw'.map (·.x) = f.waiting) (sb : SB B w2 ba' bc' lb') (sw : SW B w2 wa' wc' lw') :
    KM B V R f lb' lw' ba' bc' wa' wc' ((w2.setCell ⟨V, 0, none⟩ (.slice ba' f.blocks.length bc')).setCell ⟨V, 1, none⟩ (.slice wa' f.waiting.length wc')) ∧ Kept (fun z => z = V) w2 ((w2.setCell ⟨V, 0, none⟩ (.slice ba' f.blocks.length bc')).setCell ⟨V, 1, none⟩ (.slice wa' f.waiting.length wc')) := by
  have hD := h.vd
  have hD1 : IsD (w2.setCell ⟨V, 0, none⟩ (.slice ba' f.blocks.length bc')) V := blk_setType hD
  refine ⟨⟨mb, mw, ?_, ?_, ?_, blk_setType hD1, ?_, (h.rd.kept (Kept.one w2 V 0 _) hVR).kept (Kept.one _ V 1 _) hVR⟩, (Kept.one w2 V 0 _).trans (Kept.one _ V 1 _) (fun _ _ e => e)⟩
  · exact (sb.kept (Kept.one w2 V 0 _) (fun z e _ => by subst e; exact ⟨not_S_of_D hD, not_B_of_D hD⟩)).kept (Kept.one _ V 1 _) (fun z e _ => by subst e; exact ⟨not_S_of_D hD1, not_B_of_D hD1⟩)
  · exact (sw.kept (Kept.one w2 V 0 _) (fun z e _ => by subst e; exact ⟨not_W_of_D hD, not_B_of_D hD⟩)).kept (Kept.one _ V 1 _) (fun z e _ => by subst e; exact ⟨not_W_of_D hD1, not_B_of_D hD1⟩)
  · exact (h.v.set0 _).set1 _
  · exact (h.r.kept (Kept.one w2 V 0 _) hVR).kept (Kept.one _ V 1 _) hVR
theorem DK.put {w wk w' : World} {b : Nat} {sa : Option Addr} {bs : List Nat} {cap at_ : Nat} (h : DK w wk b sa bs cap at_) {p : Nat → Prop} (K : Kept p wk w') (hp : ∀ z, p z → w.heap.size ≤ z) (hb : b < w.heap.size) (hs : ∀ g off, sa = some ⟨g, off, none⟩ → g < w.heap.size) : DK w w' b sa bs cap at_ :=
  ⟨h.dc.kept K (fun e => by have := hp _ e; omega) (fun g off e e2 => by have := hp _ e2; have := hs g off e; omega), h.kept.trans K (fun z hz e => by have := hp _ e; omega)⟩
theorem DK.grow {w wk w' : World} {b : Nat} {sa : Option Addr} {bs : List Nat} {cap at_ : Nat} (h : DK w wk b sa bs cap at_) (hb : Below wk.heap.size wk w') : DK w w' b sa bs cap at_ :=
  ⟨h.dc.kept (Kept.of_below hb (fun _ => False)) (fun e => e) (fun _ _ _ e => e), h.kept.trans (Kept.of_below hb (fun _ => False)) (fun _ _ e => e.elim)⟩

def DiskD (w : World) (b : Nat) (sa : Option Addr) (bs : List Nat) (cap at_ : Nat) (e : Ending) (w' : World) : Prop :=
  ∃ (d : DD) (lb : List LB) (lw : List LW) (ba : Option Addr) (bc : Nat) (wa : Option Addr) (wc at' : Nat), e = .returned (d.val ⟨ba, bc, wa, wc⟩) ∧ KCut d ∧ d.newestOf.gen ≤ 3 ∧ lb.map (·.l) = d.blocks ∧ lw.map (·.x) = d.waiting ∧ SB w.heap.size w' ba bc lb ∧ SW w.heap.size w' wa wc lw ∧ at' ≤ at_ + 60000 ∧ DK w w' b sa bs cap at'

set_option maxHeartbeats 8000000 in
set_option maxRecDepth 100000 in
theorem l6dsk_any (b : Nat) (sa : Option Addr) (bs : List Nat) (cap at_ : Nat) (w : World) (hc : DC w b sa bs cap at_) (hat : at_ + 60000 < 4611686018427387904) :
    Calls Tryz.prog 36 #[.pointer (some ⟨b, 0, none⟩)] w (DiskD w b sa bs cap at_) := by
  have hbl := hc.lt
  have hsl := hc.sl
  obtain ⟨R, hR⟩ := hid_ex w.heap.size
  have hA0 := gal (gre w) (.cells #[.slice none 0 0, .slice none 0 0] 46)
  have hR0 := VB.new w (.slice none 0 0) (.slice none 0 0) 46
  have hRd0 : IsD (w.alloc (.cells #[.slice none 0 0, .slice none 0 0] 46)) w.heap.size := ⟨_, blk_new_at _ _ _ rfl⟩
  have hs0 : (w.alloc (.cells #[.slice none 0 0, .slice none 0 0] 46)).heap.size = w.heap.size + 1 := by simp
  go_enter Tryz.func36, Tryz.ntmps36
  go_upto_region 1 with fail
  generalize w.alloc (.cells #[.slice none 0 0, .slice none 0 0] 46) = w0 at hA0 hR0 hRd0 hs0 ⊢
  rw [← hR.out] at hR0 hRd0 ⊢
  go_upto_region 2 with (go_at_call 32; refine (specBlank_own _).mono ?_; rintro e w1 ⟨lb, ba, bc, rfl, hmb, hsb, hb1⟩)
  have hAV := gal (gre w1) (.cells #[.slice ba blankD.blocks.length bc, .slice none blankD.waiting.length 0] 46)
  have hV2 := VB.new w1 (.slice ba blankD.blocks.length bc) (.slice none blankD.waiting.length 0) 46
  have hVd2 : IsD (w1.alloc (.cells #[.slice ba blankD.blocks.length bc, .slice none blankD.waiting.length 0] 46)) w1.heap.size := ⟨_, blk_new_at _ _ _ rfl⟩
  obtain ⟨V, hV⟩ := hid_ex w1.heap.size
  have hRV : R < V := by have := hR.out; have := hV.out; have := hb1.size; omega
  have hRB : w.heap.size ≤ R := by have := hR.out; omega
  have hVB : w.heap.size ≤ V := by omega
  have hM2 : KM w.heap.size V R blankD lb [] ba bc none 0 (w1.alloc (.cells #[.slice ba blankD.blocks.length bc, .slice none blankD.waiting.length 0] 46)) :=
    ⟨hmb, rfl, (hsb.le (by omega)).grow hAV, SW.nil _ _, by rw [hV.out]; exact hV2, by rw [hV.out]; exact hVd2, (hR0.grow hb1).grow hAV, (hRd0.grow hb1).grow hAV⟩
  have hD2 : DK w (w1.alloc (.cells #[.slice ba blankD.blocks.length bc, .slice none blankD.waiting.length 0] 46)) b sa bs cap at_ := ((DK.mk hc (Kept.refl _ w)).grow hA0).grow hb1 |>.grow hAV
  rw [← hV.out]
  generalize w1.alloc (.cells #[.slice ba blankD.blocks.length bc, .slice none blankD.waiting.length 0] 46) = w2 at hM2 hD2 ⊢
  clear hAV hV2 hVd2 hsb hb1 hmb hR0 hRd0 hA0 hs0 hV hR
  have hZ := KCut.blank
  have hZg : blankD.newestOf.gen = 0 := by rw [blank_newest]; rfl
  generalize blankD = d0 at hM2 hZ hZg ⊢
  go_wp2_with (go_at_call_of 37 ((4 : Int)); refine (l6pick_of b sa bs cap at_ 4 4 _ rfl hD2.dc (by omega) (by omega) (by omega)).mono ?_; rintro e w3 ⟨n, at3, hn4, ha3, rfl, hk3⟩)
  have hD3 := hD2.trans hk3
  have hM3 := hM2.kept hk3.kept (fun z e => by omega) hVB hRB
  go_loopw [4] (fun i wr => ∃ (j at' : Nat) (d : DD) (lb : List LB) (lw : List LW) (ba : Option Addr) (bc : Nat) (wa : Option Addr) (wc : Nat), j ≤ n ∧ i = .int .i64 (j : Int) ∧ KCut d ∧ Hid (d.newestOf.gen + (j : Int) ≤ 3) ∧ at' + 18000 * j ≤ at_ + 55000 ∧ KM w.heap.size V R d lb lw ba bc wa wc wr ∧ DK w wr b sa bs cap at') (fun i _ => (intOf i).toNat)
  case atStart => exact ⟨n, at3, d0, lb, [], ba, bc, none, 0, Nat.le_refl _, rfl, hZ, by show _ ≤ _; rw [hZg]; omega, by omega, hM3, hD3⟩
  case round =>
    clear hM2 hM3 hD2 hD3 hk3 hZ hZg
    obtain ⟨j, at4, d, lb, lw, ba, bc, wa, wu, hjn, rfl, hC, hgen, ha4, hM, hD⟩ := hrel
    by_cases hlt : 0 < j
    case neg =>
      obtain rfl : j = 0 := by omega
      obtain ⟨v0, v1, vf⟩ := id hM.v
      obtain ⟨z0, z1, zf⟩ := id hM.r
      obtain ⟨c0, c1, K⟩ := ret2 (A := .slice ba d.blocks.length bc) (B := .slice wa d.waiting.length wu) z0 z1
      go_wp2
      refine bodyPost_ret (v := .agg #[.slice ba d.blocks.length bc, .slice wa d.waiting.length wu]) (by simp [results, Tryz.results36, go_sem, c0, c1]) rfl ⟨d, lb, lw, ba, bc, wa, wu, at4, rfl, hC, by have := hgen.out; omega, hM.mb, hM.mw, ?_, ?_, by omega, hD.put K (fun z e => by omega) hbl hsl⟩
      · exact hM.sb.kept K (fun z e _ => by subst e; exact ⟨not_S_of_D hM.rd, not_B_of_D hM.rd⟩)
      · exact hM.sw.kept K (fun z e _ => by subst e; exact ⟨not_W_of_D hM.rd, not_B_of_D hM.rd⟩)
    have hjl : (0 : Int) < (j : Int) := by omega
    go_upto_if 20 with (first
      | (go_at_call 39; refine (l6graph_any b sa bs cap at4 _ hD.dc (by omega)).mono ?_; rintro e w5 ⟨g, ga, gc, gl, at5, rfl, hgn, hgO, hgok, hgw, ha5, hk5⟩; have hgN := hgw.at_; rw [hgn] at hgN)
      | (go_at_call 16; refine (specPack_any ga gc g _ hgO hgN).mono ?_; rintro e w6 ⟨oa6, oc6, rfl, hO6, hb6⟩; obtain ⟨p, hp⟩ := hid_ex (packB g); rw [← hp.out] at hO6 ⊢))
    have hD6 := (hD.trans hk5).grow hb6
    have hM6 := (hM.kept hk5.kept (fun z e => by omega) hVB hRB).grow hb6 hVB hRB
    have hs6 := hD6.kept.size
    clear hD hM hk5 hb6 hgw hgN
    by_cases hp0 : p.length = 0
    case pos =>
      have hcp : (p.length : Int) = 0 := by omega
      go_wp2
      go_roundw
      case rel => exact ⟨j - 1, at5, d, lb, lw, ba, bc, wa, wu, by omega, by rw [show ((j - 1 : Nat) : Int) = (j : Int) - 1 by omega], hC, by show _ ≤ _; have := hgen.out; omega, by omega, hM6, hD6⟩
      case measure => simp [intOf]; omega
    have hcp : ¬ ((p.length : Int) = 0) := by omega
    have hpne : packB g ≠ [] := fun e => hp0 (by rw [hp.out, e]; rfl)
    have hne : d.newestOf.gen ≠ 1000000000000 := by have := hgen.out; omega
    have hf := DD.fit hC.gd.ok
    have hil : p.length ≤ 4096 := by rw [hp.out]; exact packB_lenK g
    have hib : ∀ x, x ∈ p → x < 256 := by rw [hp.out]; exact packB_bytesK g
    have hr := newest_rng hf
    have hoo := lay_opsOk d ⟨hr.g.2, hr.g.1⟩ hib hil
    have hgo := lay_good d hil
    have hll := lay_len d hil
    have hlo := l4ops_any d ⟨ba, bc, wa, wu⟩ oa6 p oc6 w6 hf hC.gd.o hM6.at_ (owns_bytesD hO6) hib hil
    have hcut1 := fun (f : DD) (k : Nat) => hC.cut (f := f) hgO hpne hne (j := k)
    have hwhole := fun (f : DD) => hC.whole (f := f) hgO hpne hne
    rw [← hp.out] at hcut1 hwhole
    obtain ⟨ops, hops⟩ := hid_ex (d.lay p)
    rw [← hops.out] at hlo hoo hgo hll hcut1 hwhole
    obtain ⟨v0, v1, vf⟩ := id hM6.v
    go_upto_if 28 with (first
      | (go_at_call 69; refine hlo.mono ?_; rintro e w7 ⟨pa, pc, lo, rfl, hlm, hSO, hb7⟩)
      | (go_at_call_of 37 ((3 : Int)); refine (l6pick_of b sa bs cap at5 3 3 _ rfl (hD6.grow hb7).dc (by omega) (by omega) (by omega)).mono ?_; rintro e w8 ⟨x, at8, hx3, ha8, rfl, hk8⟩))
    have hs67 := hb7.size
    have hD8 := (hD6.grow hb7).trans hk8
    have hM8 := (hM6.grow hb7 hVB hRB).kept hk8.kept (fun z e => by omega) hVB hRB
    have hSO8 := hSO.kept hk8.kept (fun z e hz => by omega)
    have hs8 := hD8.kept.size
    clear v0 v1 vf hD6 hM6 hSO hb7 hk8 hlo hO6
    go_cut [7] from 11 to 47 (fun v wu' => ∃ (k at9 : Nat), v = .int .i64 (k : Int) ∧ k ≤ ops.length ∧ at9 ≤ at8 + 2 ∧ DK w8 wu' b sa bs cap at9)
    case first =>
      by_cases hx0 : x = 0
      · subst hx0
        have e1 : IntKind.i64.wrap ((ops.length : Int) + 1) = (ops.length : Int) + 1 := by rw [IntKind.wrap_i64]; omega
        go_wp2_with (go_at_call 37; refine (l6pick_of b sa bs cap at8 (ops.length + 1) _ _ (by omega) hD8.dc (by omega) (by omega) (by omega)).mono ?_; rintro e w9 ⟨k, at9, hk9, ha9, rfl, hd9⟩)
        go_meet
        case rel => exact ⟨k, at9, rfl, by omega, by omega, hd9⟩
      · have hx1 : ¬ ((x : Int) = 0) := by omega
        go_wp2
        go_meet
        case rel => exact ⟨ops.length, at8, rfl, Nat.le_refl _, by omega, ⟨hD8.dc, Kept.refl _ _⟩⟩
    obtain ⟨k, at9, rfl, hkn, ha9, hk9⟩ := hcut
    generalize wc = w9 at hk9 ⊢
    have hD9 := hD8.trans hk9
    have hM9 := hM8.kept hk9.kept (fun z e => by omega) hVB hRB
    have hSO9 := hSO8.kept hk9.kept (fun z e hz => by omega)
    have hs9 := hD9.kept.size
    clear hD8 hM8 hSO8 hk9
    obtain ⟨f, hf1, hf2, _⟩ := applyN_good hC.gd.ok hgo k hkn (by rw [hC.gd.w]; simp; omega)
    have hfO := (applyN_fitQ hC.gd.o hoo hC.gd.ok k f hkn hf1).1
    have hoat := hSO9.at_
    rw [hlm] at hoat
    have hal : Calls Tryz.prog 70 #[d.val ⟨ba, bc, wa, wu⟩, .slice pa ops.length pc, .int .i64 (k : Int)] w9 (fun e w' => ∃ (lb : List LB) (lw : List LW) (ba : Option Addr) (bc : Nat) (wa : Option Addr) (wu : Nat), e = .returned (.tuple #[f.val ⟨ba, bc, wa, wu⟩, .bool true]) ∧ lb.map (·.l) = f.blocks ∧ lw.map (·.x) = f.waiting ∧ SB w9.heap.size w' ba bc lb ∧ SW w9.heap.size w' wa wu lw ∧ Below w9.heap.size w9 w') :=
      (l4apply_any d ⟨ba, bc, wa, wu⟩ pa ops pc k (k : Int) w9 rfl hC.gd.ok hC.gd.o hM9.at_ hoo hoat hkn).mono fun e w' ⟨lb2, lw2, ba2, bc2, wa2, wc2, f2, bb, he, hap, _, h1, h2, h3, h4, h5⟩ => by
        have hap2 := hap.out
        rw [hf1] at hap2
        cases bb with
        | false => cases hap2
        | true =>
          obtain rfl : f = f2 := Option.some.inj hap2
          exact ⟨lb2, lw2, ba2, bc2, wa2, wc2, he, h1, h2, h3, h4, h5⟩
    obtain ⟨v0, v1, vf⟩ := id hM9.v
    go_upto_if 43 with (go_at_call 70; refine hal.mono ?_; rintro e w10 ⟨lb2, lw2, ba2, bc2, wa2, wc2, rfl, mb2, mw2, sb2, sw2, hb10⟩; simp only [DD.val]; obtain ⟨y0, y1, yf⟩ := hM9.v.grow hb10)
    obtain ⟨hM11, hK11⟩ := (hM9.grow hb10 hVB hRB).store (by omega) mb2 mw2 (sb2.le hs9) (sw2.le hs9)
    have hD11 := (hD9.grow hb10).put hK11 (fun z e => by omega) hbl hsl
    generalize (w10.setCell ⟨V, 0, none⟩ (.slice ba2 f.blocks.length bc2)).setCell ⟨V, 1, none⟩ (.slice wa2 f.waiting.length wc2) = w11 at hM11 hK11 hD11 ⊢
    clear v0 v1 vf y0 y1 yf hal hoat hSO9 hM9 hD9 hb10 sb2 sw2 hK11
    by_cases hkl : k = ops.length
    case pos =>
      have hc43 : ¬ ((k : Int) < (ops.length : Int)) := by omega
      obtain ⟨hCf, hgf⟩ := hwhole f (by rw [← hkl]; exact hf1)
      go_wp2
      go_roundw
      case rel => exact ⟨j - 1, by omega, by omega, at9, f, hCf, by show _ ≤ _; have := hgen.out; omega, by omega, ⟨lb2, lw2, ba2, bc2, wa2, wc2, hM11⟩, hD11⟩
      case measure => simp [intOf]; omega
    have hc43 : (k : Int) < (ops.length : Int) := by omega
    go_upto_region 13 with fail
    have hM12 := hM11.grow (gdr (gre w11)) hVB hRB
    have hD12 := hD11.grow (gdr (gre w11))
    refine wp_regionU (fun u => VB u V (.slice ba2 f.blocks.length bc2) (.slice wa2 f.waiting.length wc2)) 4 (by kernel_rfl) hM12.v (fun _ => ?_)
    generalize w11.drew = w12 at hM12 hD12 ⊢
    clear hM11 hD11
    refine anyU_take (i := 0) (v := ?_) rfl (by kernel_rfl) (by kernel_rfl) (by kernel_rfl) (by kernel_rfl) (fun _ _ _ h => h) (Or.inl ⟨by rfl, ?_⟩) hM12.v ?_
    rotate_left
    · intro u hSu; obtain ⟨s0, s1, _⟩ := hSu; go_simp <;> with_reducible rfl
    simp only [Act.put, List.getElem_toArray, List.getElem_cons_zero, List.setIfInBounds_toArray, List.set_cons_zero, List.set_cons_succ]
    refine anyU_take (i := 1) (v := ?_) rfl (by kernel_rfl) (by kernel_rfl) (by kernel_rfl) (by kernel_rfl) (fun _ _ _ h => h) (Or.inl ⟨by rfl, ?_⟩) hM12.v ?_
    rotate_left
    · intro u hSu; obtain ⟨s0, s1, _⟩ := hSu; go_simp <;> with_reducible rfl
    simp only [Act.put, List.getElem_toArray, List.getElem_cons_zero, List.getElem_cons_succ, List.setIfInBounds_toArray, List.set_cons_zero, List.set_cons_succ]
    refine anyU_one (i := 2) (by kernel_rfl) rfl (fun K hK => ?_)
    go_simp
    refine (l6mask_any b sa bs cap at9 _ hD12.dc (by omega)).mono ?_
    rintro e w13 ⟨ka, kc, ks, at13, hks, ha13, rfl, hkat, hk13⟩
    have hM13 := hM12.kept hk13.kept (fun z e => by omega) hVB hRB
    have hD13 := hD12.trans hk13
    have hs13 := hD13.kept.size
    refine hK.out _ _ hM13.v ?_
    clear hK hM12 hD12 hk13
    have hset := l3settle_any f ⟨ba2, bc2, wa2, wc2⟩ ka ks kc w13 (DD.fit hf2) hM13.at_ (by unfold maxLen; omega) hkat
    rw [← settle_yes hf2 (keepOf ks)] at hset
    obtain ⟨hCe, hge⟩ := hcut1 f k hkn (keepOf ks) hf1
    obtain ⟨e', he'⟩ := hid_ex (f.settle (keepOf ks))
    rw [← he'.out] at hset hCe hge
    have hgn2 : e'.newestOf.gen ≤ d.newestOf.gen + 1 := by
      rcases hge with ⟨_, h⟩ | ⟨_, h⟩
      · rw [h]; omega
      · rw [h]; exact Int.le_refl _
    refine anyU_one (i := 3) (by kernel_rfl) rfl (fun K hK => ?_)
    go_simp
    refine hset.mono ?_
    rintro e w14 ⟨lb3, lw3, ba3, bc3, wa3, wc3, rfl, mb3, mw3, sb3, sw3, hb14⟩
    have hM14 := hM13.grow hb14 hVB hRB
    have hD14 := hD13.grow hb14
    refine hK.out _ _ hM14.v ?_
    clear hK hM13 hD13 hset
    obtain ⟨y0, y1, yf⟩ := id hM14.v
    refine anyU_last (by kernel_rfl) rfl (by kernel_rfl) (fun K hK => ?_)
    go_simp
    refine hK.out _ _ ?_
    clear hK
    obtain ⟨hM15, hK15⟩ := hM14.store (by omega) mb3 mw3 (sb3.le hs13) (sw3.le hs13)
    have hD15 := hD14.put hK15 (fun z e => by omega) hbl hsl
    generalize (w14.setCell ⟨V, 0, none⟩ (.slice ba3 e'.blocks.length bc3)).setCell ⟨V, 1, none⟩ (.slice wa3 e'.waiting.length wc3) = w15 at hM15 hK15 hD15 ⊢
    go_wp2
    go_roundw
    case rel => exact ⟨_, _, _, _, _, _, _, _, _, _, _, _, _, _, _, _, _, _, _, _, _, _, _, _, _, _, _, _, _, _, _, _, _, _, _, _, _, _, _, _, _, ⟨j - 1, at13, e', lb3, lw3, ba3, bc3, wa3, wc3, by omega, by rw [show ((j - 1 : Nat) : Int) = (j : Int) - 1 by omega], hCe, by show _ ≤ _; have := hgen.out; omega, by omega, hM15, hD15⟩, rfl⟩
    case measure => simp [intOf]; omega

end Go.Proofs.YtmdpmdmilgbfiaaGreatDoor

namespace Go.Proofs.YtmdpmdmilgbfiaaGreatDoor
open Go.RowKit

def DisksPost (w : World) (e : Ending) (w' : World) : Prop :=
  ∃ (d : DD) (l : DL), e = .returned (d.val l) ∧ KCut d ∧ d.newestOf.gen ≤ 3 ∧ DAt w' l d ∧ Below w.heap.size w w'

set_option maxHeartbeats 4000000 in
set_option maxRecDepth 100000 in
theorem disks_any (sa : Option Addr) (bs : List Nat) (cap : Nat) (w : World) (hb : BytesAt w sa bs) (hu : ∀ x, x ∈ bs → x < 256) (hl : bs.length ≤ maxLen) (hs : ∀ g off, sa = some ⟨g, off, none⟩ → g < w.heap.size) :
    Calls Tryz.prog 12 #[.slice sa bs.length cap] w (DisksPost w) := by
  obtain ⟨wA, hwA⟩ : ∃ wA, Hid (wA = w.alloc (.cells #[.slice none 0 0, .slice none 0 0] 46)) := ⟨_, rfl⟩
  have hsA : wA.heap.size = w.heap.size + 1 := by rw [hwA.out]; simp
  have hFA : VB wA w.heap.size (.slice none 0 0) (.slice none 0 0) := by rw [hwA.out]; exact VB.new w _ _ _
  have hKA : Kept (fun _ => False) w wA := by rw [hwA.out]; exact (Kept.refl _ w).alloc _
  have hDC := DC.new (w := wA) (cap := cap) 72 (hb.kept hKA (fun _ _ _ e => e)) hu hl (fun g off e => by have := hs g off e; omega)
  rw [hsA] at hDC
  have hKB0 : Kept (fun _ => False) wA (wA.alloc (.cells #[.slice sa bs.length cap, .int .i64 0, .int .u64 0] 72)) := (Kept.refl _ wA).alloc _
  have hKB : Kept (fun _ => False) w (wA.alloc (.cells #[.slice sa bs.length cap, .int .i64 0, .int .u64 0] 72)) := hKA.trans hKB0 (fun _ _ e => e)
  have hFB := hFA.kept hKB0 (fun e => e)
  have hszB : (wA.alloc (.cells #[.slice sa bs.length cap, .int .i64 0, .int .u64 0] 72)).heap.size = w.heap.size + 1 + 1 := by simp [hsA]
  go_enter Tryz.func12, Tryz.ntmps12
  go_wp2_with (go_at_call 36; rw [← hwA.out]; refine (l6dsk_any (w.heap.size + 1) sa bs cap 0 _ hDC (by omega)).mono ?_; rintro e w3 ⟨d, lb, lw, ba, bc, wa, wc, at3, rfl, hC, hgen, mb, mw, sb, sw, ha3, hk3⟩; obtain ⟨r0, r1, rf_⟩ := hFB.kept hk3.kept (by omega))
  rw [hszB] at sb sw
  obtain ⟨c0, c1, K⟩ := ret2 (A := .slice ba d.blocks.length bc) (B := .slice wa d.waiting.length wc) r0 r1
  refine bodyPost_ret (v := .agg #[.slice ba d.blocks.length bc, .slice wa d.waiting.length wc]) (by simp [results, Tryz.results12, go_sem, c0, c1]) rfl ⟨d, ⟨ba, bc, wa, wc⟩, rfl, hC, hgen, ⟨?_, ?_⟩, ?_⟩
  · have h := (sb.kept K (fun z e hz => by omega)).at_
    rw [mb] at h
    exact h
  · have h := (sw.kept K (fun z e hz => by omega)).at_
    rw [mw] at h
    exact h
  · exact ((hKB.trans hk3.kept (fun k hk e => by omega)).trans K (fun k hk e => by omega)).below (Nat.le_refl _) (fun k hk e => e)

def MasksPost (w : World) (e : Ending) (w' : World) : Prop :=
  ∃ (oa : Option Addr) (c : Nat) (ks : List Bool), ks.length ≤ 70 ∧ e = .returned (.slice oa ks.length c) ∧ BoolsAt w' oa ks ∧ Below w.heap.size w w'

set_option maxHeartbeats 4000000 in
set_option maxRecDepth 100000 in
theorem masks_any (sa : Option Addr) (bs : List Nat) (cap : Nat) (w : World) (hb : BytesAt w sa bs) (hu : ∀ x, x ∈ bs → x < 256) (hl : bs.length ≤ maxLen) (hs : ∀ g off, sa = some ⟨g, off, none⟩ → g < w.heap.size) :
    Calls Tryz.prog 22 #[.slice sa bs.length cap] w (MasksPost w) := by
  have hDC := DC.new (w := w) (cap := cap) 72 hb hu hl hs
  have hKB : Kept (fun _ => False) w (w.alloc (.cells #[.slice sa bs.length cap, .int .i64 0, .int .u64 0] 72)) := (Kept.refl _ w).alloc _
  go_enter Tryz.func22, Tryz.ntmps22
  go_wp2_with (go_at_call 60; refine (l6mask_any w.heap.size sa bs cap 0 _ hDC (by omega)).mono ?_; rintro e w3 ⟨oa, c, ks, at3, hks, ha3, rfl, hkb, hk3⟩)
  go_ret
  exact ⟨oa, c, ks, hks, rfl, hkb, (hKB.trans hk3.kept (fun k hk e => by omega)).below (Nat.le_refl _) (fun k hk e => e)⟩

end Go.Proofs.YtmdpmdmilgbfiaaGreatDoor

namespace Go.Proofs.YtmdpmdmilgbfiaaGreatDoor
open Go.RowKit

set_option maxRecDepth 100000 in
theorem wByte_any (a : Option Addr) (bs : List Nat) (cap i : Nat) (w : World) (ha : BytesAt w a bs) (hl : bs.length ≤ maxLen) (hu : ∀ x, x ∈ bs → x < 256) :
    Calls Tryz.prog 19 #[.slice a bs.length cap, .int .i64 (i : Int)] w fun e w' => ∃ x : Nat, x < 256 ∧ e = .returned (.int .i64 (x : Int)) ∧ Below w.heap.size w w' := by
  unfold maxLen at hl
  by_cases h0 : bs.length = 0
  · rw [h0]
    go_enter Tryz.func19, Tryz.ntmps19
    go_wp2
    go_ret
    exact ⟨0, by decide, rfl, gre _⟩
  · obtain ⟨k, hk⟩ := hid_ex (i % bs.length)
    have hkl : k < bs.length := by rw [hk.out]; exact Nat.mod_lt _ (by omega)
    obtain ⟨x, b, off, hxk, hxm, rfl, hc⟩ := ha.get (k := k) hkl
    have hx := hu x hxm
    have hne : ¬ ((bs.length : Int) = 0) := by omega
    have hr : Int.tmod (i : Int) (bs.length : Int) = (k : Int) := by rw [hk.out, ← Int.ofNat_tmod]
    have i0 : (0 : Int) ≤ (k : Int) := by omega
    have i1 : (k : Int) < (bs.length : Int) := by omega
    have e1 : IntKind.i64.wrap (k : Int) = (k : Int) := by rw [IntKind.wrap_i64]; omega
    have e2 : IntKind.i64.wrap (x : Int) = (x : Int) := by rw [IntKind.wrap_i64]; omega
    go_enter Tryz.func19, Tryz.ntmps19
    go_wp2
    go_ret
    exact ⟨x, hx, rfl, gre _⟩

set_option maxHeartbeats 4000000 in
set_option maxRecDepth 100000 in
theorem wTaken_same (t : TK) (a a' : Option Addr) (cap cap' : Nat) (w : World) (hg : t.g.Ok) (ha : NodesAt w.heap.size w a t.g.nodes) (ha' : NodesAt w.heap.size w a' t.g.nodes) :
    Calls Tryz.prog 10 #[t.val a cap, t.val a' cap'] w fun e w' => e = .returned (.bool true) ∧ Below w.heap.size w w' := by
  have h1 : ((t.code : Int) == t.code) = true := by simp
  have h2 : ((t.gen : Int) == t.gen) = true := by simp
  have hA := gal (gal (gre w) (.cells #[.int .i64 t.code, .int .i64 t.gen, .int .i64 t.g.root.kind, .int .i64 t.g.root.num, .string t.g.root.text, .int .i64 t.g.root.node, .slice a t.g.nodes.length cap] 34)) (.cells #[.int .i64 t.code, .int .i64 t.gen, .int .i64 t.g.root.kind, .int .i64 t.g.root.num, .string t.g.root.text, .int .i64 t.g.root.node, .slice a' t.g.nodes.length cap'] 34)
  have hX := (V7.new_at w (.int .i64 t.code) (.int .i64 t.gen) (.int .i64 t.g.root.kind) (.int .i64 t.g.root.num) (.string t.g.root.text) (.int .i64 t.g.root.node) (.slice a t.g.nodes.length cap) 34 w.heap.size rfl).grow (gal (gre _) (.cells #[.int .i64 t.code, .int .i64 t.gen, .int .i64 t.g.root.kind, .int .i64 t.g.root.num, .string t.g.root.text, .int .i64 t.g.root.node, .slice a' t.g.nodes.length cap'] 34))
  have hY := V7.new_at (w.alloc (.cells #[.int .i64 t.code, .int .i64 t.gen, .int .i64 t.g.root.kind, .int .i64 t.g.root.num, .string t.g.root.text, .int .i64 t.g.root.node, .slice a t.g.nodes.length cap] 34)) (.int .i64 t.code) (.int .i64 t.gen) (.int .i64 t.g.root.kind) (.int .i64 t.g.root.num) (.string t.g.root.text) (.int .i64 t.g.root.node) (.slice a' t.g.nodes.length cap') 34 (w.heap.size + 1) (by simp)
  go_enter Tryz.func10, Tryz.ntmps10
  go_upto_region 1 with fail
  generalize (w.alloc (.cells #[.int .i64 t.code, .int .i64 t.gen, .int .i64 t.g.root.kind, .int .i64 t.g.root.num, .string t.g.root.text, .int .i64 t.g.root.node, .slice a t.g.nodes.length cap] 34)).alloc (.cells #[.int .i64 t.code, .int .i64 t.gen, .int .i64 t.g.root.kind, .int .i64 t.g.root.num, .string t.g.root.text, .int .i64 t.g.root.node, .slice a' t.g.nodes.length cap'] 34) = w1 at hA hX hY ⊢
  obtain ⟨_, x0, x1, x2, x3, x4, x5, x6, _⟩ := id hX
  obtain ⟨_, y0, y1, y2, y3, y4, y5, y6, _⟩ := id hY
  go_wp2_with (go_at_call 11; refine (wGraph_same a a' cap cap' t.g _ hg (ha.grow hA) (ha'.grow hA)).mono ?_; rintro e w2 ⟨rfl, hb2⟩)
  go_ret
  exact ⟨rfl, gca hA hb2⟩

end Go.Proofs.YtmdpmdmilgbfiaaGreatDoor

namespace Go.Proofs.YtmdpmdmilgbfiaaGreatDoor
open Go.RowKit

def CanonSK (g : GG) (w : World) (e : Ending) (w' : World) : Prop :=
  ∃ (na : Option Addr) (nc : Nat), e = .returned ((canon g).val na nc) ∧ (∀ w'', Kept (fun z => z < w.heap.size) w' w'' → NodesAt w''.heap.size w'' na (canon g).nodes) ∧ Below w.heap.size w w'

set_option maxRecDepth 100000 in
theorem specCanonZ_K (a : Option Addr) (cap : Nat) (g : GG) (w : World) (hg : g.Ok) (hok : okG g = true) (ha : NodesAt w.heap.size w a g.nodes) :
    Calls Tryz.prog 23 #[g.val a cap] w (CanonSK g w) := by
  have hR0 := Five.new_at (w.alloc (.cells #[.int .i64 g.root.kind, .int .i64 g.root.num, .string g.root.text, .int .i64 g.root.node, .slice a g.nodes.length cap] 32)) ⟨0, 0, ⟨#[]⟩, 0⟩ (.slice none 0 0) 32 (w.heap.size + 1) (by simp)
  have hX0 := (GBox.new w g a cap 32).grow (gal (gre _) (.cells #[.int .i64 0, .int .i64 0, .string ⟨#[]⟩, .int .i64 0, .slice none 0 0] 32))
  have hok' : Hid _ := hok
  go_enter Tryz.func23, Tryz.ntmps23
  go_wp2_with (first
    | (go_at_call 48; refine (specGraphOk_any a cap g _ hg (ha.grow (gal (gal (gre _) _) _))).mono ?_; rintro e w1 ⟨rfl, hb1⟩; obtain ⟨xz, x0, x1, x2, x3, x4⟩ := hX0.grow hb1; rw [hok'.out])
    | (go_at_call 61; refine (specCanon_new a cap g _ hok'.out (ha.grow (gca (gal (gal (gre _) _) _) hb1))).mono ?_; rintro e w3 ⟨na, nc, rfl, hn3, hb3⟩; have hR3 := hR0.kept (Kept.of_below (gca hb1 hb3) (fun _ => False)) (fun e => e); obtain ⟨rz, r0, r1, r2, r3, r4, rf⟩ := id hR3))
  have hC := (((((Kept.refl (fun b => b = w.heap.size + 1) w3).set (a := ⟨w.heap.size + 1, 0, none⟩) (fun _ => rfl) (.int .i64 (canon g).root.kind)).set (a := ⟨w.heap.size + 1, 1, none⟩) (fun _ => rfl) (.int .i64 (canon g).root.num)).set (a := ⟨w.heap.size + 1, 2, none⟩) (fun _ => rfl) (.string (canon g).root.text)).set (a := ⟨w.heap.size + 1, 3, none⟩) (fun _ => rfl) (.int .i64 (canon g).root.node)).set (a := ⟨w.heap.size + 1, 4, none⟩) (fun _ => rfl) (.slice na (canon g).nodes.length nc)
  have hw1 : w.heap.size + 1 + 1 ≤ w1.heap.size := by have h1 := hb1.size; simp at h1; omega
  have hb4 := gca (gca (gal (gal (gre w) _) _) hb1) hb3
  refine bodyPost_ret (v := (canon g).val na nc) (by simp [results, Tryz.results23, go_sem, r0, r1, r2, r3, r4]) rfl ⟨na, nc, rfl, fun w'' K => hn3 (fun b => b = w.heap.size + 1 ∨ b < w.heap.size) w'' ((hC.mono (fun b _ e => Or.inl e)).trans K (fun b _ e => Or.inr e)) (fun b hb => by omega), hb4.trans (hC.below hb4.size (fun k hk hp => by omega))⟩

set_option maxHeartbeats 4000000 in
set_option maxRecDepth 100000 in
theorem wTaken_ne (t t' : TK) (a a' : Option Addr) (cap cap' : Nat) (w : World) (hne : t.gen ≠ t'.gen) :
    Calls Tryz.prog 10 #[t.val a cap, t'.val a' cap'] w fun e w' => e = .returned (.bool false) ∧ Below w.heap.size w w' := by
  have h2 : ((t.gen : Int) == t'.gen) = false := beq_eq_false_iff_ne.2 hne
  have hA := gal (gal (gre w) (.cells #[.int .i64 t.code, .int .i64 t.gen, .int .i64 t.g.root.kind, .int .i64 t.g.root.num, .string t.g.root.text, .int .i64 t.g.root.node, .slice a t.g.nodes.length cap] 34)) (.cells #[.int .i64 t'.code, .int .i64 t'.gen, .int .i64 t'.g.root.kind, .int .i64 t'.g.root.num, .string t'.g.root.text, .int .i64 t'.g.root.node, .slice a' t'.g.nodes.length cap'] 34)
  have hX := (V7.new_at w (.int .i64 t.code) (.int .i64 t.gen) (.int .i64 t.g.root.kind) (.int .i64 t.g.root.num) (.string t.g.root.text) (.int .i64 t.g.root.node) (.slice a t.g.nodes.length cap) 34 w.heap.size rfl).grow (gal (gre _) (.cells #[.int .i64 t'.code, .int .i64 t'.gen, .int .i64 t'.g.root.kind, .int .i64 t'.g.root.num, .string t'.g.root.text, .int .i64 t'.g.root.node, .slice a' t'.g.nodes.length cap'] 34))
  have hY := V7.new_at (w.alloc (.cells #[.int .i64 t.code, .int .i64 t.gen, .int .i64 t.g.root.kind, .int .i64 t.g.root.num, .string t.g.root.text, .int .i64 t.g.root.node, .slice a t.g.nodes.length cap] 34)) (.int .i64 t'.code) (.int .i64 t'.gen) (.int .i64 t'.g.root.kind) (.int .i64 t'.g.root.num) (.string t'.g.root.text) (.int .i64 t'.g.root.node) (.slice a' t'.g.nodes.length cap') 34 (w.heap.size + 1) (by simp)
  go_enter Tryz.func10, Tryz.ntmps10
  go_upto_region 1 with fail
  generalize (w.alloc (.cells #[.int .i64 t.code, .int .i64 t.gen, .int .i64 t.g.root.kind, .int .i64 t.g.root.num, .string t.g.root.text, .int .i64 t.g.root.node, .slice a t.g.nodes.length cap] 34)).alloc (.cells #[.int .i64 t'.code, .int .i64 t'.gen, .int .i64 t'.g.root.kind, .int .i64 t'.g.root.num, .string t'.g.root.text, .int .i64 t'.g.root.node, .slice a' t'.g.nodes.length cap'] 34) = w1 at hA hX hY ⊢
  obtain ⟨_, x0, x1, x2, x3, x4, x5, x6, _⟩ := id hX
  obtain ⟨_, y0, y1, y2, y3, y4, y5, y6, _⟩ := id hY
  cases h1 : ((t.code : Int) == t'.code) with
  | true =>
    go_wp2
    go_ret
    exact ⟨rfl, hA⟩
  | false =>
    go_wp2
    go_ret
    exact ⟨rfl, hA⟩

end Go.Proofs.YtmdpmdmilgbfiaaGreatDoor

namespace Go.Proofs.YtmdpmdmilgbfiaaGreatDoor
open Go.RowKit

def TSp (t : TK) (w : World) (e : Ending) (w' : World) : Prop := ∃ na nc, e = .returned (t.val na nc) ∧ NodesAt w'.heap.size w' na t.g.nodes ∧ Below w.heap.size w w'

def TSpK (t : TK) (w : World) (e : Ending) (w' : World) : Prop := ∃ na nc, e = .returned (t.val na nc) ∧ (∀ w'', Kept (fun z => z < w.heap.size) w' w'' → NodesAt w''.heap.size w'' na t.g.nodes) ∧ Below w.heap.size w w'

set_option maxHeartbeats 4000000 in
set_option maxRecDepth 100000 in
theorem specTake_K (d : DD) (l : DL) (w : World) (hd : d.Ok) (ha : DAt w l d) : Calls Tryz.prog 24 #[d.val l] w (TSpK d.takeT w) := by
  have hA := gal (gal (gre w) (.cells #[.slice l.ba d.blocks.length l.bc, .slice l.wa d.waiting.length l.wc] 46)) (.cells #[.int .i64 0, .int .i64 0, .int .i64 0, .int .i64 0, .string ⟨#[]⟩, .int .i64 0, .slice none 0 0] 34)
  have hX0 := (DBox.new w d l 46).grow (gal (gre _) (.cells #[.int .i64 0, .int .i64 0, .int .i64 0, .int .i64 0, .string ⟨#[]⟩, .int .i64 0, .slice none 0 0] 34))
  have hR0 := V7.new_at (w.alloc (.cells #[.slice l.ba d.blocks.length l.bc, .slice l.wa d.waiting.length l.wc] 46)) (.int .i64 0) (.int .i64 0) (.int .i64 0) (.int .i64 0) (.string ⟨#[]⟩) (.int .i64 0) (.slice none 0 0) 34 (w.heap.size + 1) (by simp)
  cases hok : d.ok with
  | false =>
    have ht : d.takeT = ⟨3, 0, zeroG⟩ := if_pos hok
    have ht' : Hid _ := ht
    have hok' : Hid _ := hok
    clear hok ht
    rw [ht'.out]
    go_enter Tryz.func24, Tryz.ntmps24
    go_wp2_with (go_at_call 30; refine (specDiskOk_any d l _ hd (ha.grow hA)).mono ?_; rintro e w2 ⟨rfl, hb2⟩; rw [hok'.out]; have hR2 := hR0.grow hb2; obtain ⟨_, r0, r1, r2, r3, r4, r5, r6, rf_⟩ := id hR2)
    have hA2 := gca hA hb2
    obtain ⟨hV9, hK9⟩ := hR2.put (.int .i64 3) (.int .i64 0) (.int .i64 0) (.int .i64 0) (.string ⟨#[]⟩) (.int .i64 0) (.slice none 0 0)
    generalize (((((((w2.setCell ⟨w.heap.size + 1, 0, none⟩ (.int .i64 3)).setCell ⟨w.heap.size + 1, 1, none⟩ (.int .i64 0)).setCell ⟨w.heap.size + 1, 2, none⟩ (.int .i64 0)).setCell ⟨w.heap.size + 1, 3, none⟩ (.int .i64 0)).setCell ⟨w.heap.size + 1, 4, none⟩ (.string ⟨#[]⟩)).setCell ⟨w.heap.size + 1, 5, none⟩ (.int .i64 0)).setCell ⟨w.heap.size + 1, 6, none⟩ (.slice none 0 0)) = w9 at hV9 hK9 ⊢
    obtain ⟨_, q0, q1, q2, q3, q4, q5, q6, _⟩ := id hV9
    exact bodyPost_ret (v := (TK.mk 3 0 zeroG).val none 0) (by simp [results, Tryz.results24, go_sem, q0, q1, q2, q3, q4, q5, q6, zeroG]) rfl ⟨none, 0, rfl, fun _ _ i hi => absurd hi (Nat.not_lt_zero _), hA2.trans (hK9.below hA2.size (fun z hz e => by omega))⟩
  | true =>
    have hok' : Hid _ := hok
    have hf := DD.fit hok
    obtain ⟨k, hk⟩ := hid_ex d.newestOf
    have hkb := newest_byteT hf hd
    rw [← hk.out] at hkb
    obtain ⟨hkb1, hkb2⟩ := hkb
    cases hko : k.ok with
    | false =>
      have ht : d.takeT = ⟨1, 0, zeroG⟩ := (if_neg (by rw [hok]; simp)).trans (if_pos (by rw [← hk.out]; exact hko))
      have ht' : Hid _ := ht
      have hko' : Hid _ := hko
      clear hok ht hko
      rw [ht'.out]
      go_enter Tryz.func24, Tryz.ntmps24
      go_upto_region 4 with (first
        | (go_at_call 30; refine (specDiskOk_any d l _ hd (ha.grow hA)).mono ?_; rintro e w2 ⟨rfl, hb2⟩; rw [hok'.out]; obtain ⟨_, x0, x1⟩ := hX0.grow hb2)
        | (go_at_call 62; refine (l4newest_any d l _ hf hd (ha.grow (gca hA hb2))).mono ?_; rw [← hk.out]; rintro e w3 ⟨oa, oc, rfl, hcp, hbt, _, hb3⟩))
      have hV4 := V4.new_at w3 (.bool k.ok) (.int .i64 k.gen) (.int .i64 k.slot) (.slice oa k.bytes.length oc) 62 w3.heap.size rfl
      have hb4 := gal (gca (gca hA hb2) hb3) (.cells #[.bool k.ok, .int .i64 k.gen, .int .i64 k.slot, .slice oa k.bytes.length oc] 62)
      have hR4 := (hR0.grow hb2).grow (gal hb3 (.cells #[.bool k.ok, .int .i64 k.gen, .int .i64 k.slot, .slice oa k.bytes.length oc] 62))
      generalize w3.alloc (.cells #[.bool k.ok, .int .i64 k.gen, .int .i64 k.slot, .slice oa k.bytes.length oc] 62) = w4 at hV4 hb4 hR4 ⊢
      rw [hko'.out] at hV4
      obtain ⟨_, v0, v1, v2, v3, vf⟩ := id hV4
      obtain ⟨_, r0, r1, r2, r3, r4, r5, r6, rf_⟩ := id hR4
      clear x0 x1
      go_wp2
      obtain ⟨hV9, hK9⟩ := hR4.put (.int .i64 1) (.int .i64 0) (.int .i64 0) (.int .i64 0) (.string ⟨#[]⟩) (.int .i64 0) (.slice none 0 0)
      generalize (((((((w4.setCell ⟨w.heap.size + 1, 0, none⟩ (.int .i64 1)).setCell ⟨w.heap.size + 1, 1, none⟩ (.int .i64 0)).setCell ⟨w.heap.size + 1, 2, none⟩ (.int .i64 0)).setCell ⟨w.heap.size + 1, 3, none⟩ (.int .i64 0)).setCell ⟨w.heap.size + 1, 4, none⟩ (.string ⟨#[]⟩)).setCell ⟨w.heap.size + 1, 5, none⟩ (.int .i64 0)).setCell ⟨w.heap.size + 1, 6, none⟩ (.slice none 0 0)) = w9 at hV9 hK9 ⊢
      obtain ⟨_, q0, q1, q2, q3, q4, q5, q6, _⟩ := id hV9
      exact bodyPost_ret (v := (TK.mk 1 0 zeroG).val none 0) (by simp [results, Tryz.results24, go_sem, q0, q1, q2, q3, q4, q5, q6, zeroG]) rfl ⟨none, 0, rfl, fun _ _ i hi => absurd hi (Nat.not_lt_zero _), hb4.trans (hK9.below hb4.size (fun z hz e => by omega))⟩
    | true =>
      obtain ⟨ok, hbo⟩ := hid_ex (unB k.bytes).1
      obtain ⟨u, hu⟩ := hid_ex (unB k.bytes).2
      obtain ⟨tt, htt⟩ := hid_ex d.takeT
      rw [← htt.out]
      go_enter Tryz.func24, Tryz.ntmps24
      go_upto_region 7 with (first
        | (go_at_call 30; refine (specDiskOk_any d l _ hd (ha.grow hA)).mono ?_; rintro e w2 ⟨rfl, hb2⟩; rw [hok'.out]; obtain ⟨_, x0, x1⟩ := hX0.grow hb2)
        | (go_at_call 62; refine (l4newest_any d l _ hf hd (ha.grow (gca hA hb2))).mono ?_; rw [← hk.out]; rintro e w3 ⟨oa, oc, rfl, hcp, hbt, _, hb3⟩)
        | (go_at_call 63; refine (specUnpack_K oa oc k.bytes _ (hbt.grow (gal (gre _) (.cells #[.bool true, .int .i64 k.gen, .int .i64 k.slot, .slice oa k.bytes.length oc] 62))) hcp.out (by unfold maxLen; omega) hkb1).mono ?_; rintro e w5 ⟨ua, uc, rfl, _, hN5, hgs, hb5⟩; rw [sUnB_eq _ hgs, ← hu.out] at hN5; rw [sUnB_eq _ hgs, ← hbo.out, ← hu.out]))
      have hV4 := V4.new_at w3 (.bool true) (.int .i64 k.gen) (.int .i64 k.slot) (.slice oa k.bytes.length oc) 62 w3.heap.size rfl
      have hb4 := gal (gca (gca hA hb2) hb3) (.cells #[.bool true, .int .i64 k.gen, .int .i64 k.slot, .slice oa k.bytes.length oc] 62)
      have hR4 := (hR0.grow hb2).grow (gal hb3 (.cells #[.bool true, .int .i64 k.gen, .int .i64 k.slot, .slice oa k.bytes.length oc] 62))
      generalize w3.alloc (.cells #[.bool true, .int .i64 k.gen, .int .i64 k.slot, .slice oa k.bytes.length oc] 62) = w4 at hV4 hb4 hR4 hb5 hN5 ⊢
      generalize w3.heap.size = PK at hV4 ⊢
      have hS6 := Six.new w5 ok u.root (.slice ua u.nodes.length uc) 118
      have hb6 := gal hb5 (.cells #[.bool ok, .int .i64 u.root.kind, .int .i64 u.root.num, .string u.root.text, .int .i64 u.root.node, .slice ua u.nodes.length uc] 118)
      have hKu : Kept (fun z => z < w4.heap.size) w5 (w5.alloc (.cells #[.bool ok, .int .i64 u.root.kind, .int .i64 u.root.num, .string u.root.text, .int .i64 u.root.node, .slice ua u.nodes.length uc] 118)) := (Kept.refl _ w5).alloc _
      have hR4l := hR4.lt
      have hV6 := hV4.grow hb6
      have hR6 := hR4.grow hb6
      have hA6 := gca hb4 hb6
      generalize w5.alloc (.cells #[.bool ok, .int .i64 u.root.kind, .int .i64 u.root.num, .string u.root.text, .int .i64 u.root.node, .slice ua u.nodes.length uc] 118) = w6 at hS6 hb6 hV6 hR6 hA6 hKu ⊢
      generalize w5.heap.size = PU at hS6 ⊢
      obtain ⟨_, v0, v1, v2, v3, vf⟩ := id hV6
      obtain ⟨_, s0, s1, s2, s3, s4, s5, sf⟩ := id hS6
      obtain ⟨_, r0, r1, r2, r3, r4, r5, r6, rf_⟩ := id hR6
      have hR6l := hR6.lt
      cases ok with
      | false =>
        have ht : tt = ⟨2, k.gen, zeroG⟩ := htt.out.trans ((if_neg (by rw [hok]; simp)).trans ((if_neg (by rw [← hk.out, hko]; simp)).trans ((if_pos (by rw [← hk.out]; exact hbo.out.symm)).trans (by rw [← hk.out]))))
        have ht' : Hid _ := ht
        clear ht hok hko
        go_wp2
        obtain ⟨hV9, hK9⟩ := hR6.put (.int .i64 2) (.int .i64 k.gen) (.int .i64 0) (.int .i64 0) (.string ⟨#[]⟩) (.int .i64 0) (.slice none 0 0)
        generalize (((((((w6.setCell ⟨w.heap.size + 1, 0, none⟩ (.int .i64 2)).setCell ⟨w.heap.size + 1, 1, none⟩ (.int .i64 k.gen)).setCell ⟨w.heap.size + 1, 2, none⟩ (.int .i64 0)).setCell ⟨w.heap.size + 1, 3, none⟩ (.int .i64 0)).setCell ⟨w.heap.size + 1, 4, none⟩ (.string ⟨#[]⟩)).setCell ⟨w.heap.size + 1, 5, none⟩ (.int .i64 0)).setCell ⟨w.heap.size + 1, 6, none⟩ (.slice none 0 0)) = w9 at hV9 hK9 ⊢
        obtain ⟨_, q0, q1, q2, q3, q4, q5, q6, _⟩ := id hV9
        exact bodyPost_ret (v := (TK.mk 2 k.gen zeroG).val none 0) (by simp [results, Tryz.results24, go_sem, q0, q1, q2, q3, q4, q5, q6, zeroG]) rfl (by rw [ht'.out]; exact ⟨none, 0, rfl, fun _ _ i hi => absurd hi (Nat.not_lt_zero _), hA6.trans (hK9.below hA6.size (fun z hz e => by omega))⟩)
      | true =>
        have ht : tt = ⟨0, k.gen, u⟩ := htt.out.trans ((if_neg (by rw [hok]; simp)).trans ((if_neg (by rw [← hk.out, hko]; simp)).trans ((if_neg (by rw [← hk.out, ← hbo.out]; simp)).trans (by rw [← hk.out, ← hu.out]))))
        have ht' : Hid _ := ht
        clear ht hok hko
        go_wp2
        obtain ⟨hV9, hK9⟩ := hR6.put (.int .i64 0) (.int .i64 k.gen) (.int .i64 u.root.kind) (.int .i64 u.root.num) (.string u.root.text) (.int .i64 u.root.node) (.slice ua u.nodes.length uc)
        have hN9 := fun w'' (hK'' : Kept (fun z => z < w.heap.size) _ w'') => hN5 w'' (hKu.trans ((hK9.mono (q := fun z => z < w4.heap.size) (fun k _ e => by omega)).trans (hK''.mono (q := fun z => z < w4.heap.size) (fun k _ e => by have := hb4.size; omega)) (fun _ _ e => e)) (fun _ _ e => e))
        generalize (((((((w6.setCell ⟨w.heap.size + 1, 0, none⟩ (.int .i64 0)).setCell ⟨w.heap.size + 1, 1, none⟩ (.int .i64 k.gen)).setCell ⟨w.heap.size + 1, 2, none⟩ (.int .i64 u.root.kind)).setCell ⟨w.heap.size + 1, 3, none⟩ (.int .i64 u.root.num)).setCell ⟨w.heap.size + 1, 4, none⟩ (.string u.root.text)).setCell ⟨w.heap.size + 1, 5, none⟩ (.int .i64 u.root.node)).setCell ⟨w.heap.size + 1, 6, none⟩ (.slice ua u.nodes.length uc)) = w9 at hV9 hK9 hN9 ⊢
        obtain ⟨_, q0, q1, q2, q3, q4, q5, q6, _⟩ := id hV9
        exact bodyPost_ret (v := (TK.mk 0 k.gen u).val ua uc) (by simp [results, Tryz.results24, go_sem, q0, q1, q2, q3, q4, q5, q6]) rfl (by rw [ht'.out]; exact ⟨ua, uc, rfl, hN9, hA6.trans (hK9.below hA6.size (fun z hz e => by omega))⟩)

theorem specTake_any (d : DD) (l : DL) (w : World) (hd : d.Ok) (ha : DAt w l d) : Calls Tryz.prog 24 #[d.val l] w (TSp d.takeT w) :=
  (specTake_K d l w hd ha).mono fun _ w' ⟨na, nc, he, hN, hb⟩ => ⟨na, nc, he, hN w' (Kept.refl _ _), hb⟩

end Go.Proofs.YtmdpmdmilgbfiaaGreatDoor

namespace Go.Proofs.YtmdpmdmilgbfiaaGreatDoor
open Go.RowKit

set_option maxRecDepth 100000 in
theorem crashKeeps_any (j K : Nat) (ka : Option Addr) (ks : List Bool) (kc : Nat) (w : World) (hj : j ≤ 1000) (_hl : ks.length ≤ maxLen) (hc : w.cell? ⟨K, 0, none⟩ = some (.slice ka ks.length kc)) (ha : BoolsAt w ka ks) :
    Calls Tryz.prog 55 #[.int .i64 j, .pointer (some ⟨K, 0, none⟩)] w fun e w' => e = .returned (.bool (keepOf ks j)) ∧ Below w.heap.size w w' := by
  by_cases hlt : j < ks.length
  · obtain ⟨b, off, rfl, hb⟩ := ha j hlt
    have i0 : (0 : Int) ≤ (j : Int) := by omega
    have i1 : (j : Int) < (ks.length : Int) := by omega
    have he : Hid (keepOf ks j = ks[j]!) := by show _ = _; simp [keepOf, hlt]
    obtain ⟨x, hx⟩ := hid_ex ks[j]!
    rw [← hx.out] at hb
    go_enter Tryz.func55, Tryz.ntmps55
    go_wp2
    go_ret
    exact ⟨by rw [he.out, ← hx.out]; rfl, gre _⟩
  · have i1 : ¬ ((j : Int) < (ks.length : Int)) := by omega
    have he : Hid (keepOf ks j = false) := by show _ = _; simp [keepOf]; omega
    go_enter Tryz.func55, Tryz.ntmps55
    go_wp2
    go_ret
    exact ⟨by rw [he.out]; rfl, gre _⟩

end Go.Proofs.YtmdpmdmilgbfiaaGreatDoor
