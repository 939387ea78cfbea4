import Derived.Test.YthjddpkegooobaaPartZB
import Derived.Test.YthjddpkegooobaaPartZD

/-
  LDISKF: a disk that layings-down and cuts led to, drawn: well made. Own work.
-/
namespace Go.Proofs.Ythjddpkegooobaa
open Go.RowKit

/-- a disk between two layings-down -/
structure GoodF (d : DD) : Prop where
  ok : d.ok = true
  w : d.waiting = []
  o : d.Ok
theorem blank_goodF : GoodF blankD := ⟨by decide +kernel, rfl, ⟨by simp [blankD, maxLen], fun b hb => by rw [List.eq_of_mem_replicate hb]; exact ⟨by simp [maxLen], fun x hx => by rw [List.eq_of_mem_replicate hx]; omega⟩, Nat.zero_le _, fun x hx => (by cases hx), fun x hx => (by cases hx)⟩⟩
theorem applyN_fitQ {d : DD} {ops : List OP} (hd : d.Ok) (hok : OpsOk ops) (hk : d.ok = true) : ∀ j e, j ≤ ops.length → applyN d ops j = some e → e.Ok ∧ e.ok = true
  | 0, e, _, h => by obtain rfl := Option.some.inj h; exact ⟨hd, hk⟩
  | j + 1, e, hj, h => by
    cases hp : applyN d ops j with
    | none => rw [applyN_none hp 1] at h; cases h
    | some f =>
      obtain ⟨h1, h2⟩ := applyN_fitQ hd hok hk j f (by omega) hp
      cases hs : (f.step ops[j]!).ok with
      | false => rw [applyN_no hp hs] at h; cases h
      | true =>
        rw [applyN_yes hp hs] at h
        obtain rfl := Option.some.inj h
        have hm : ops[j]! ∈ ops := mem_at (by omega)
        exact ⟨step_ok h1 h2 (hok.bl _ hm) (hok.by_ _ hm), hs⟩
theorem packB_lenF (g : GG) : (packB g).length ≤ 4096 := by
  unfold packB
  split
  · rename_i h; exact h.2
  · exact Nat.zero_le _
theorem packB_bytesF (g : GG) : ∀ x, x ∈ packB g → x < 256 := by
  unfold packB
  split
  · rename_i h; exact formB_bytes (canon_okG h.1)
  · intro x hx; cases hx

/-- a disk in memory of its own, and the variables -/
structure KM (B V R : Nat) (e : DD) (lb : List LB) (lw : List LW) (ba : Option Addr) (bc : Nat) (wa : Option Addr) (wc : Nat) (wr : World) : Prop where
  mb : lb.map (·.l) = e.blocks
  mw : lw.map (·.x) = e.waiting
  sb : SB B wr ba bc lb
  sw : SW B wr wa wc lw
  v : VB wr V (.slice ba e.blocks.length bc) (.slice wa e.waiting.length wc)
  vd : IsD wr V
  r : VB wr R (.slice none 0 0) (.slice none 0 0)
  rd : IsD wr R
theorem KM.at_ {B V R : Nat} {e : DD} {lb : List LB} {lw : List LW} {ba : Option Addr} {bc : Nat} {wa : Option Addr} {wc : Nat} {wr : World} (h : KM B V R e lb lw ba bc wa wc wr) : DAt wr ⟨ba, bc, wa, wc⟩ e := ⟨by rw [← h.mb]; exact h.sb.at_, by rw [← h.mw]; exact h.sw.at_⟩
theorem KM.kept {p : Nat → Prop} {B V R : Nat} {e : DD} {lb : List LB} {lw : List LW} {ba : Option Addr} {bc : Nat} {wa : Option Addr} {wc : Nat} {wr w' : World} (h : KM B V R e lb lw ba bc wa wc wr) (K : Kept p wr w') (hp : ∀ z, p z → z < B) (hV : B ≤ V) (hR : B ≤ R) : KM B V R e lb lw ba bc wa wc w' :=
  ⟨h.mb, h.mw, h.sb.kept K (fun z e hz => by have := hp z e; omega), h.sw.kept K (fun z e hz => by have := hp z e; omega), h.v.kept K (fun e => by have := hp _ e; omega), h.vd.kept K (fun e => by have := hp _ e; omega), h.r.kept K (fun e => by have := hp _ e; omega), h.rd.kept K (fun e => by have := hp _ e; omega)⟩
theorem KM.grow {B V R : Nat} {e : DD} {lb : List LB} {lw : List LW} {ba : Option Addr} {bc : Nat} {wa : Option Addr} {wc : Nat} {wr w' : World} (h : KM B V R e lb lw ba bc wa wc wr) (hb : Below wr.heap.size wr w') (hV : B ≤ V) (hR : B ≤ R) : KM B V R e lb lw ba bc wa wc w' := h.kept (Kept.of_below hb (fun _ => False)) (fun _ e => e.elim) hV hR
/-- another disk, stored into the variable -/
theorem KM.store {B V R : Nat} {e f : DD} {lb lb' : List LB} {lw lw' : List LW} {ba ba' : Option Addr} {bc bc' : Nat} {wa wa' : Option Addr} {wc wc' : Nat} {w2 : World} (h : KM B V R e lb lw ba bc wa wc w2) (hVR : R ≠ V) (mb : lb'.map (·.l) = f.blocks) (mw : lw'.map (·.x) = f.waiting) (sb : SB B w2 ba' bc' lb') (sw : SW B w2 wa' wc' lw') :
    KM B V R f lb' lw' ba' bc' wa' wc' ((w2.setCell ⟨V, 0, none⟩ (.slice ba' f.blocks.length bc')).setCell ⟨V, 1, none⟩ (.slice wa' f.waiting.length wc')) ∧ Kept (fun z => z = V) w2 ((w2.setCell ⟨V, 0, none⟩ (.slice ba' f.blocks.length bc')).setCell ⟨V, 1, none⟩ (.slice wa' f.waiting.length wc')) := by
  have hD := h.vd
  have hD1 : IsD (w2.setCell ⟨V, 0, none⟩ (.slice ba' f.blocks.length bc')) V := blk_setType hD
  refine ⟨⟨mb, mw, ?_, ?_, ?_, blk_setType hD1, ?_, (h.rd.kept (Kept.one w2 V 0 _) hVR).kept (Kept.one _ V 1 _) hVR⟩, (Kept.one w2 V 0 _).trans (Kept.one _ V 1 _) (fun _ _ e => e)⟩
  · exact (sb.kept (Kept.one w2 V 0 _) (fun z e _ => by subst e; exact ⟨not_S_of_D hD, not_B_of_D hD⟩)).kept (Kept.one _ V 1 _) (fun z e _ => by subst e; exact ⟨not_S_of_D hD1, not_B_of_D hD1⟩)
  · exact (sw.kept (Kept.one w2 V 0 _) (fun z e _ => by subst e; exact ⟨not_W_of_D hD, not_B_of_D hD⟩)).kept (Kept.one _ V 1 _) (fun z e _ => by subst e; exact ⟨not_W_of_D hD1, not_B_of_D hD1⟩)
  · exact (h.v.set0 _).set1 _
  · exact (h.r.kept (Kept.one w2 V 0 _) hVR).kept (Kept.one _ V 1 _) hVR
theorem DK.put {w wk w' : World} {b : Nat} {sa : Option Addr} {bs : List Nat} {cap at_ : Nat} (h : DK w wk b sa bs cap at_) {p : Nat → Prop} (K : Kept p wk w') (hp : ∀ z, p z → w.heap.size ≤ z) (hb : b < w.heap.size) (hs : ∀ g off, sa = some ⟨g, off, none⟩ → g < w.heap.size) : DK w w' b sa bs cap at_ :=
  ⟨h.dc.kept K (fun e => by have := hp _ e; omega) (fun g off e e2 => by have := hp _ e2; have := hs g off e; omega), h.kept.trans K (fun z hz e => by have := hp _ e; omega)⟩
theorem DK.grow {w wk w' : World} {b : Nat} {sa : Option Addr} {bs : List Nat} {cap at_ : Nat} (h : DK w wk b sa bs cap at_) (hb : Below wk.heap.size wk w') : DK w w' b sa bs cap at_ :=
  ⟨h.dc.kept (Kept.of_below hb (fun _ => False)) (fun e => e) (fun _ _ _ e => e), h.kept.trans (Kept.of_below hb (fun _ => False)) (fun _ _ e => e.elim)⟩

/-- a drawn disk -/
def DiskD (w : World) (b : Nat) (sa : Option Addr) (bs : List Nat) (cap at_ : Nat) (e : Ending) (w' : World) : Prop :=
  ∃ (d : DD) (lb : List LB) (lw : List LW) (ba : Option Addr) (bc : Nat) (wa : Option Addr) (wc at' : Nat), e = .returned (d.val ⟨ba, bc, wa, wc⟩) ∧ GoodF d ∧ lb.map (·.l) = d.blocks ∧ lw.map (·.x) = d.waiting ∧ SB w.heap.size w' ba bc lb ∧ SW w.heap.size w' wa wc lw ∧ at' ≤ at_ + 60000 ∧ DK w w' b sa bs cap at'

set_option maxHeartbeats 8000000 in
set_option maxRecDepth 100000 in
theorem l6dsk_any (b : Nat) (sa : Option Addr) (bs : List Nat) (cap at_ : Nat) (w : World) (hc : DC w b sa bs cap at_) (hat : at_ + 60000 < 4611686018427387904) :
    Calls Try.prog 152 #[.pointer (some ⟨b, 0, none⟩)] w (DiskD w b sa bs cap at_) := by
  have hbl := hc.lt
  have hsl := hc.sl
  obtain ⟨R, hR⟩ := hid_ex w.heap.size
  have hA0 := gal (gre w) (.cells #[.slice none 0 0, .slice none 0 0] 44)
  have hR0 := VB.new w (.slice none 0 0) (.slice none 0 0) 44
  have hRd0 : IsD (w.alloc (.cells #[.slice none 0 0, .slice none 0 0] 44)) w.heap.size := ⟨_, blk_new_at _ _ _ rfl⟩
  have hs0 : (w.alloc (.cells #[.slice none 0 0, .slice none 0 0] 44)).heap.size = w.heap.size + 1 := by simp
  go_enter Try.func152, Try.ntmps152
  go_upto_region 1 with fail
  generalize w.alloc (.cells #[.slice none 0 0, .slice none 0 0] 44) = w0 at hA0 hR0 hRd0 hs0 ⊢
  rw [← hR.out] at hR0 hRd0 ⊢
  go_upto_region 2 with (go_at_call 159; refine (specBlank_own _).mono ?_; rintro e w1 ⟨lb, ba, bc, rfl, hmb, hsb, hb1⟩)
  have hAV := gal (gre w1) (.cells #[.slice ba blankD.blocks.length bc, .slice none blankD.waiting.length 0] 44)
  have hV2 := VB.new w1 (.slice ba blankD.blocks.length bc) (.slice none blankD.waiting.length 0) 44
  have hVd2 : IsD (w1.alloc (.cells #[.slice ba blankD.blocks.length bc, .slice none blankD.waiting.length 0] 44)) w1.heap.size := ⟨_, blk_new_at _ _ _ rfl⟩
  obtain ⟨V, hV⟩ := hid_ex w1.heap.size
  have hRV : R < V := by have := hR.out; have := hV.out; have := hb1.size; omega
  have hRB : w.heap.size ≤ R := by have := hR.out; omega
  have hVB : w.heap.size ≤ V := by omega
  have hM2 : KM w.heap.size V R blankD lb [] ba bc none 0 (w1.alloc (.cells #[.slice ba blankD.blocks.length bc, .slice none blankD.waiting.length 0] 44)) :=
    ⟨hmb, rfl, (hsb.le (by omega)).grow hAV, SW.nil _ _, by rw [hV.out]; exact hV2, by rw [hV.out]; exact hVd2, (hR0.grow hb1).grow hAV, (hRd0.grow hb1).grow hAV⟩
  have hD2 : DK w (w1.alloc (.cells #[.slice ba blankD.blocks.length bc, .slice none blankD.waiting.length 0] 44)) b sa bs cap at_ := ((DK.mk hc (Kept.refl _ w)).grow hA0).grow hb1 |>.grow hAV
  rw [← hV.out]
  generalize w1.alloc (.cells #[.slice ba blankD.blocks.length bc, .slice none blankD.waiting.length 0] 44) = w2 at hM2 hD2 ⊢
  clear hAV hV2 hVd2 hsb hb1 hmb hR0 hRd0 hA0 hs0 hV hR
  have hZ := blank_goodF
  generalize blankD = d0 at hM2 hZ ⊢
  go_wp2_with (go_at_call_of 52 ((4 : Int)); refine (l6pick_of b sa bs cap at_ 4 4 _ rfl hD2.dc (by omega) (by omega) (by omega)).mono ?_; rintro e w3 ⟨n, at3, hn4, ha3, rfl, hk3⟩)
  have hD3 := hD2.trans hk3
  have hM3 := hM2.kept hk3.kept (fun z e => by omega) hVB hRB
  go_loopw [4] (fun i wr => ∃ (j at' : Nat) (d : DD) (lb : List LB) (lw : List LW) (ba : Option Addr) (bc : Nat) (wa : Option Addr) (wc : Nat), j ≤ n ∧ i = .int .i64 (j : Int) ∧ GoodF d ∧ at' + 18000 * j ≤ at_ + 55000 ∧ KM w.heap.size V R d lb lw ba bc wa wc wr ∧ DK w wr b sa bs cap at') (fun i _ => (intOf i).toNat)
  case atStart => exact ⟨n, at3, d0, lb, [], ba, bc, none, 0, Nat.le_refl _, rfl, hZ, by omega, hM3, hD3⟩
  case round =>
    clear hM2 hM3 hD2 hD3 hk3 hZ
    obtain ⟨j, at4, d, lb, lw, ba, bc, wa, wu, hjn, rfl, hC, ha4, hM, hD⟩ := hrel
    by_cases hlt : 0 < j
    case neg =>
      obtain rfl : j = 0 := by omega
      obtain ⟨v0, v1, vf⟩ := id hM.v
      obtain ⟨z0, z1, zf⟩ := id hM.r
      obtain ⟨c0, c1, K⟩ := ret2 (A := .slice ba d.blocks.length bc) (B := .slice wa d.waiting.length wu) z0 z1
      go_wp2
      refine bodyPost_ret (v := .agg #[.slice ba d.blocks.length bc, .slice wa d.waiting.length wu]) (by simp [results, Try.results152, go_sem, c0, c1]) rfl ⟨d, lb, lw, ba, bc, wa, wu, at4, rfl, hC, hM.mb, hM.mw, ?_, ?_, by omega, hD.put K (fun z e => by omega) hbl hsl⟩
      · exact hM.sb.kept K (fun z e _ => by subst e; exact ⟨not_S_of_D hM.rd, not_B_of_D hM.rd⟩)
      · exact hM.sw.kept K (fun z e _ => by subst e; exact ⟨not_W_of_D hM.rd, not_B_of_D hM.rd⟩)
    have hjl : (0 : Int) < (j : Int) := by omega
    go_upto_if 20 with (first
      | (go_at_call 54; refine (l6graph_any b sa bs cap at4 _ hD.dc (by omega)).mono ?_; rintro e w5 ⟨g, ga, gc, gl, at5, rfl, hgn, hgO, hgok, hgw, ha5, hk5⟩; have hgN := hgw.at_; rw [hgn] at hgN)
      | (go_at_call 22; refine (specPack_any ga gc g _ hgO hgN).mono ?_; rintro e w6 ⟨oa6, oc6, rfl, hO6, hb6⟩; obtain ⟨p, hp⟩ := hid_ex (packB g); rw [← hp.out] at hO6 ⊢))
    have hD6 := (hD.trans hk5).grow hb6
    have hM6 := (hM.kept hk5.kept (fun z e => by omega) hVB hRB).grow hb6 hVB hRB
    have hs6 := hD6.kept.size
    clear hD hM hk5 hb6 hgw hgN
    by_cases hp0 : p.length = 0
    case pos =>
      have hcp : (p.length : Int) = 0 := by omega
      go_wp2
      go_roundw
      case rel => exact ⟨j - 1, at5, d, lb, lw, ba, bc, wa, wu, by omega, by rw [show ((j - 1 : Nat) : Int) = (j : Int) - 1 by omega], hC, by omega, hM6, hD6⟩
      case measure => simp [intOf]; omega
    have hcp : ¬ ((p.length : Int) = 0) := by omega
    have hf := DD.fit hC.ok
    have hil : p.length ≤ 4096 := by rw [hp.out]; exact packB_lenF g
    have hib : ∀ x, x ∈ p → x < 256 := by rw [hp.out]; exact packB_bytesF g
    have hr := newest_rng hf
    have hoo := lay_opsOk d ⟨hr.g.2, hr.g.1⟩ hib hil
    have hgo := lay_good d hil
    have hll := lay_len d hil
    have hlo := l4ops_any d ⟨ba, bc, wa, wu⟩ oa6 p oc6 w6 hf hC.o hM6.at_ (owns_bytesD hO6) hib hil
    have hdone := fun (f : DD) => lay_done (f := f) (im := p) hC.w hC.ok hil
    obtain ⟨ops, hops⟩ := hid_ex (d.lay p)
    rw [← hops.out] at hlo hoo hgo hll hdone
    obtain ⟨v0, v1, vf⟩ := id hM6.v
    go_upto_if 28 with (first
      | (go_at_call 160; refine hlo.mono ?_; rintro e w7 ⟨pa, pc, lo, rfl, hlm, hSO, hb7⟩)
      | (go_at_call_of 52 ((3 : Int)); refine (l6pick_of b sa bs cap at5 3 3 _ rfl (hD6.grow hb7).dc (by omega) (by omega) (by omega)).mono ?_; rintro e w8 ⟨x, at8, hx3, ha8, rfl, hk8⟩))
    have hs67 := hb7.size
    have hD8 := (hD6.grow hb7).trans hk8
    have hM8 := (hM6.grow hb7 hVB hRB).kept hk8.kept (fun z e => by omega) hVB hRB
    have hSO8 := hSO.kept hk8.kept (fun z e hz => by omega)
    have hs8 := hD8.kept.size
    clear v0 v1 vf hD6 hM6 hSO hb7 hk8 hlo hO6
    go_cut [7] from 11 to 47 (fun v wu' => ∃ (k at9 : Nat), v = .int .i64 (k : Int) ∧ k ≤ ops.length ∧ at9 ≤ at8 + 2 ∧ DK w8 wu' b sa bs cap at9)
    case first =>
      by_cases hx0 : x = 0
      · subst hx0
        have e1 : IntKind.i64.wrap ((ops.length : Int) + 1) = (ops.length : Int) + 1 := by rw [IntKind.wrap_i64]; omega
        go_wp2_with (go_at_call 52; refine (l6pick_of b sa bs cap at8 (ops.length + 1) _ _ (by omega) hD8.dc (by omega) (by omega) (by omega)).mono ?_; rintro e w9 ⟨k, at9, hk9, ha9, rfl, hd9⟩)
        go_meet
        case rel => exact ⟨k, at9, rfl, by omega, by omega, hd9⟩
      · have hx1 : ¬ ((x : Int) = 0) := by omega
        go_wp2
        go_meet
        case rel => exact ⟨ops.length, at8, rfl, Nat.le_refl _, by omega, ⟨hD8.dc, Kept.refl _ _⟩⟩
    obtain ⟨k, at9, rfl, hkn, ha9, hk9⟩ := hcut
    generalize wc = w9 at hk9 ⊢
    have hD9 := hD8.trans hk9
    have hM9 := hM8.kept hk9.kept (fun z e => by omega) hVB hRB
    have hSO9 := hSO8.kept hk9.kept (fun z e hz => by omega)
    have hs9 := hD9.kept.size
    clear hD8 hM8 hSO8 hk9
    obtain ⟨f, hf1, hf2, _⟩ := applyN_good hC.ok hgo k hkn (by rw [hC.w]; simp; omega)
    have hfO := (applyN_fitQ hC.o hoo hC.ok k f hkn hf1).1
    have hoat := hSO9.at_
    rw [hlm] at hoat
    have hal : Calls Try.prog 161 #[d.val ⟨ba, bc, wa, wu⟩, .slice pa ops.length pc, .int .i64 (k : Int)] w9 (fun e w' => ∃ (lb : List LB) (lw : List LW) (ba : Option Addr) (bc : Nat) (wa : Option Addr) (wu : Nat), e = .returned (.tuple #[f.val ⟨ba, bc, wa, wu⟩, .bool true]) ∧ lb.map (·.l) = f.blocks ∧ lw.map (·.x) = f.waiting ∧ SB w9.heap.size w' ba bc lb ∧ SW w9.heap.size w' wa wu lw ∧ Below w9.heap.size w9 w') :=
      (l4apply_any d ⟨ba, bc, wa, wu⟩ pa ops pc k (k : Int) w9 rfl hC.ok hC.o hM9.at_ hoo hoat hkn).mono fun e w' ⟨lb2, lw2, ba2, bc2, wa2, wc2, f2, bb, he, hap, _, h1, h2, h3, h4, h5⟩ => by
        have hap2 := hap.out
        rw [hf1] at hap2
        cases bb with
        | false => cases hap2
        | true =>
          obtain rfl : f = f2 := Option.some.inj hap2
          exact ⟨lb2, lw2, ba2, bc2, wa2, wc2, he, h1, h2, h3, h4, h5⟩
    obtain ⟨v0, v1, vf⟩ := id hM9.v
    go_upto_if 43 with (go_at_call 161; refine hal.mono ?_; rintro e w10 ⟨lb2, lw2, ba2, bc2, wa2, wc2, rfl, mb2, mw2, sb2, sw2, hb10⟩; simp only [DD.val]; obtain ⟨y0, y1, yf⟩ := hM9.v.grow hb10)
    obtain ⟨hM11, hK11⟩ := (hM9.grow hb10 hVB hRB).store (by omega) mb2 mw2 (sb2.le hs9) (sw2.le hs9)
    have hD11 := (hD9.grow hb10).put hK11 (fun z e => by omega) hbl hsl
    generalize (w10.setCell ⟨V, 0, none⟩ (.slice ba2 f.blocks.length bc2)).setCell ⟨V, 1, none⟩ (.slice wa2 f.waiting.length wc2) = w11 at hM11 hK11 hD11 ⊢
    clear v0 v1 vf y0 y1 yf hal hoat hSO9 hM9 hD9 hb10 sb2 sw2 hK11
    by_cases hkl : k = ops.length
    case pos =>
      have hc43 : ¬ ((k : Int) < (ops.length : Int)) := by omega
      have hCf : GoodF f := ⟨hf2, hdone f (by rw [← hkl]; exact hf1), hfO⟩
      go_wp2
      go_roundw
      case rel => exact ⟨j - 1, by omega, by omega, at9, f, hCf, by omega, ⟨lb2, lw2, ba2, bc2, wa2, wc2, hM11⟩, hD11⟩
      case measure => simp [intOf]; omega
    have hc43 : (k : Int) < (ops.length : Int) := by omega
    go_upto_region 13 with fail
    have hM12 := hM11.grow (gdr (gre w11)) hVB hRB
    have hD12 := hD11.grow (gdr (gre w11))
    refine wp_regionU (fun u => VB u V (.slice ba2 f.blocks.length bc2) (.slice wa2 f.waiting.length wc2)) 4 (by kernel_rfl) hM12.v (fun _ => ?_)
    generalize w11.drew = w12 at hM12 hD12 ⊢
    clear hM11 hD11
    refine anyU_take (i := 0) (v := ?_) rfl (by kernel_rfl) (by kernel_rfl) (by kernel_rfl) (by kernel_rfl) (fun _ _ _ h => h) (Or.inl ⟨by rfl, ?_⟩) hM12.v ?_
    rotate_left
    · intro u hSu; obtain ⟨s0, s1, _⟩ := hSu; go_simp <;> with_reducible rfl
    simp only [Act.put, List.getElem_toArray, List.getElem_cons_zero, List.setIfInBounds_toArray, List.set_cons_zero, List.set_cons_succ]
    refine anyU_take (i := 1) (v := ?_) rfl (by kernel_rfl) (by kernel_rfl) (by kernel_rfl) (by kernel_rfl) (fun _ _ _ h => h) (Or.inl ⟨by rfl, ?_⟩) hM12.v ?_
    rotate_left
    · intro u hSu; obtain ⟨s0, s1, _⟩ := hSu; go_simp <;> with_reducible rfl
    simp only [Act.put, List.getElem_toArray, List.getElem_cons_zero, List.getElem_cons_succ, List.setIfInBounds_toArray, List.set_cons_zero, List.set_cons_succ]
    refine anyU_one (i := 2) (by kernel_rfl) rfl (fun K hK => ?_)
    go_simp
    refine (l6mask_any b sa bs cap at9 _ hD12.dc (by omega)).mono ?_
    rintro e w13 ⟨ka, kc, ks, at13, hks, ha13, rfl, hkat, hk13⟩
    have hM13 := hM12.kept hk13.kept (fun z e => by omega) hVB hRB
    have hD13 := hD12.trans hk13
    have hs13 := hD13.kept.size
    refine hK.out _ _ hM13.v ?_
    clear hK hM12 hD12 hk13
    have hset := l3settle_any f ⟨ba2, bc2, wa2, wc2⟩ ka ks kc w13 (DD.fit hf2) hM13.at_ (by unfold maxLen; omega) hkat
    rw [← settle_yes hf2 (keepOf ks)] at hset
    obtain ⟨q1, q2⟩ := settle_okP hf2 (keepOf ks)
    have hCe : GoodF (f.settle (keepOf ks)) := ⟨q1, q2, settle_okA hfO hf2 (keepOf ks)⟩
    obtain ⟨e', he'⟩ := hid_ex (f.settle (keepOf ks))
    rw [← he'.out] at hset hCe
    refine anyU_one (i := 3) (by kernel_rfl) rfl (fun K hK => ?_)
    go_simp
    refine hset.mono ?_
    rintro e w14 ⟨lb3, lw3, ba3, bc3, wa3, wc3, rfl, mb3, mw3, sb3, sw3, hb14⟩
    have hM14 := hM13.grow hb14 hVB hRB
    have hD14 := hD13.grow hb14
    refine hK.out _ _ hM14.v ?_
    clear hK hM13 hD13 hset
    obtain ⟨y0, y1, yf⟩ := id hM14.v
    refine anyU_last (by kernel_rfl) rfl (by kernel_rfl) (fun K hK => ?_)
    go_simp
    refine hK.out _ _ ?_
    clear hK
    obtain ⟨hM15, hK15⟩ := hM14.store (by omega) mb3 mw3 (sb3.le hs13) (sw3.le hs13)
    have hD15 := hD14.put hK15 (fun z e => by omega) hbl hsl
    generalize (w14.setCell ⟨V, 0, none⟩ (.slice ba3 e'.blocks.length bc3)).setCell ⟨V, 1, none⟩ (.slice wa3 e'.waiting.length wc3) = w15 at hM15 hK15 hD15 ⊢
    go_wp2
    go_roundw
    case rel => exact ⟨_, _, _, _, _, _, _, _, _, _, _, _, _, _, _, _, _, _, _, _, _, _, _, _, _, _, _, _, _, _, _, _, _, _, _, _, _, _, _, _, _, ⟨j - 1, at13, e', lb3, lw3, ba3, bc3, wa3, wc3, by omega, by rw [show ((j - 1 : Nat) : Int) = (j : Int) - 1 by omega], hCe, by omega, hM15, hD15⟩, rfl⟩
    case measure => simp [intOf]; omega

end Go.Proofs.Ythjddpkegooobaa

/-
  DKSEM: writes, keeping and crashes, plain (what FnDisk says). Own work.
-/
namespace Go.Proofs.Ythjddpkegooobaa
open Go.RowKit

theorem readN_appD (bl : List (List Nat)) (ws xs : List DW) (b : Int) : ∀ j, j ≤ ws.length → readN bl (ws ++ xs) b j = readN bl ws b j
  | 0, _ => rfl
  | j + 1, hj => by
    have e : (ws ++ xs)[j]! = ws[j]! := by rw [getElem!_pos _ j (by rw [List.length_append]; omega), getElem!_pos ws j (by omega), List.getElem_append_left (by omega)]
    simp only [readN, e, readN_appD bl ws xs b j (by omega)]
theorem settle_getD {bl : List (List Nat)} {ws : List DW} (hw : ∀ x, x ∈ ws → 0 ≤ x.block) {m : Nat} (hm : m < bl.length) : ∀ j, j ≤ ws.length → (settleN keepAll bl ws j)[m]! = readN bl ws (m : Int) j
  | 0, _ => by simp [settleN, readN]
  | j + 1, hj => by
    have h0 := hw _ (mem_at (l := ws) (k := j) (by omega))
    have ih := settle_getD hw hm j (by omega)
    simp only [settleN, keepAll, if_true, readN]
    rw [setB_get (by rw [settleN_length]; exact hm), ih]
    by_cases e : ws[j]!.block = (m : Int)
    · rw [if_pos (by omega), if_pos e]
    · rw [if_neg (by omega), if_neg e]
/-- a write that may be is read back -/
theorem put_read {d : DD} {k : Int} {b : List Nat} (h : d.ok = true) (h2 : wrOk ⟨k, b⟩ = true) (h3 : d.waiting.length ≠ 200) : (d.put k b).ok = true ∧ (d.put k b).blocks = d.blocks ∧ (d.put k b).read k = b := by
  have hwl := (DD.fit h).wl
  obtain ⟨s1, _, _⟩ := step_good (d := d) (o := ⟨false, k, b⟩) h (Or.inr h2) (by omega)
  have e : d.step ⟨false, k, b⟩ = d.put k b := if_neg (show ¬ false = true by decide)
  rw [e] at s1
  refine ⟨s1, by rw [put_yes h h2 h3], ?_⟩
  have hb : 0 ≤ k ∧ k < 130 := by
    simp only [wrOk, Bool.and_eq_true, decide_eq_true_eq] at h2
    exact ⟨h2.1.1, h2.1.2⟩
  unfold DD.read
  rw [if_pos (by simp [s1, hb.1, hb.2]), put_yes h h2 h3]
  have hl : (d.waiting ++ [(⟨k, b⟩ : DW)]).length = d.waiting.length + 1 := by simp
  have e2 : (d.waiting ++ [(⟨k, b⟩ : DW)])[d.waiting.length]! = ⟨k, b⟩ := by rw [getElem!_pos _ _ (by rw [hl]; omega)]; simp
  show readN d.blocks (d.waiting ++ [(⟨k, b⟩ : DW)]) k (d.waiting ++ [(⟨k, b⟩ : DW)]).length = _
  rw [hl]
  simp only [readN, e2, if_true]
theorem put_none {d : DD} {k : Int} {b : List Nat} (h : ¬ (d.ok = true ∧ wrOk ⟨k, b⟩ = true ∧ d.waiting.length ≠ 200)) : d.put k b = zeroD := by
  unfold DD.put
  refine if_neg (fun e => h ?_)
  simp only [Bool.and_eq_true, decide_eq_true_eq] at e
  exact ⟨e.1.1, e.1.2, e.2⟩
theorem settleN_same {keep keep' : Nat → Bool} {bl : List (List Nat)} {ws : List DW} : ∀ j, (∀ i, i < j → keep i = keep' i) → settleN keep bl ws j = settleN keep' bl ws j
  | 0, _ => rfl
  | j + 1, h => by
    simp only [settleN]
    rw [h j (by omega), settleN_same j (fun i hi => h i (by omega))]
theorem settleN_no {keep : Nat → Bool} {bl : List (List Nat)} {ws : List DW} (h : ∀ i, keep i = false) : ∀ j, settleN keep bl ws j = bl
  | 0 => rfl
  | j + 1 => by
    simp only [settleN]
    rw [if_neg (by rw [h j]; decide), settleN_no h j]
/-- all is kept -/
theorem settle_all (d : DD) : d.settle (keepOf (List.replicate d.waiting.length true)) = d.settle keepAll := by
  unfold DD.settle
  split
  · rw [settleN_same (keep' := keepAll) _ (fun i hi => by unfold keepOf keepAll; rw [getElem!_pos _ _ (by rw [List.length_replicate]; exact hi)]; simp [hi])]
  · rfl
/-- nothing is kept -/
theorem settle_none {d : DD} (h : d.ok = true) : d.settle (keepOf []) = ⟨d.blocks, []⟩ := by
  unfold DD.settle
  rw [if_pos h, settleN_no (fun i => by simp [keepOf])]
theorem settle_nilD {d : DD} (hok : d.ok = true) (hw : d.waiting = []) (keep : Nat → Bool) : d.settle keep = d := by
  unfold DD.settle
  rw [if_pos hok, hw]
  obtain ⟨bl, ws⟩ := d
  simp only at hw
  subst hw
  rfl
/-- when all is kept every block reads as before -/
theorem settle_read {d : DD} (h : d.ok = true) {m : Nat} (hm : m < 130) : (d.settle keepAll).read (m : Int) = d.read (m : Int) := by
  have hf := DD.fit h
  obtain ⟨q1, q2⟩ := settle_okP h keepAll
  unfold DD.read
  have hc : (decide (0 ≤ (m : Int)) && decide ((m : Int) < 130)) = true := by simp; omega
  rw [if_pos (by rw [q1, hc]; rfl), if_pos (by rw [h, hc]; rfl), q2]
  show (d.settle keepAll).blocks[(m : Int).toNat]! = _
  have e : (d.settle keepAll).blocks = settleN keepAll d.blocks d.waiting d.waiting.length := by
    unfold DD.settle
    rw [if_pos h]
  rw [e, Int.toNat_natCast]
  exact settle_getD (fun x hx => (hf.wb x hx).1) (by rw [hf.bl]; exact hm) _ (Nat.le_refl _)

end Go.Proofs.Ythjddpkegooobaa

/-
  L6Q: blocks and masks, drawn. Own work.
-/
namespace Go.Proofs.Ythjddpkegooobaa
open Go.RowKit

/-- a drawn block -/
def BlockD (w : World) (b : Nat) (sa : Option Addr) (bs : List Nat) (cap at_ : Nat) (e : Ending) (w' : World) : Prop :=
  ∃ (G : Nat) (ys : List Nat) (at' : Nat), Hid (ys.length = 64) ∧ (∀ x, x ∈ ys → x < 256) ∧ at' ≤ at_ + 64 ∧ e = .returned (.slice (some ⟨G, 0, none⟩) 64 64) ∧ w.heap.size ≤ G ∧ BRow w' G 64 ys ∧ DK w w' b sa bs cap at'

set_option maxHeartbeats 1000000 in
set_option maxRecDepth 100000 in
theorem l6block_any (b : Nat) (sa : Option Addr) (bs : List Nat) (cap at_ : Nat) (w : World) (hc : DC w b sa bs cap at_) (hat : at_ + 64 < 4611686018427387904) :
    Calls Try.prog 79 #[.pointer (some ⟨b, 0, none⟩)] w (BlockD w b sa bs cap at_) := by
  obtain ⟨i0, hi, hz0, hz1, hz2⟩ := info_parts info_u8
  obtain ⟨M, hM⟩ := hid_ex (madeCells #[Value.int .u8 0] 64)
  have hmk : ∀ u : World, (Instr.makeSlice 22 (.int .i64 64) (.int .i64 64)).run Try.prog u = .ok (.slice (some ⟨u.heap.size, 0, none⟩) 64 64) (u.alloc (.cells M 5)) := fun u => by
    have h := run_make (P := Try.prog) u 22 5 i0 _ Try.underlying22 hi hz0 .i64 .i64 64 64 (by omega) (Int.le_refl _) (by rw [hz2]; omega) (by omega)
    rw [hM.out]
    simpa [hz1, Value.cells] using h
  have hZ0 := zrow_made w M hM.out
  have hB0 := gal (gre w) (.cells M 5)
  have hd0 : DK w (w.alloc (.cells M 5)) b sa bs cap at_ := ⟨hc.kept (Kept.of_below hB0 (fun _ => False)) (fun e => e) (fun _ _ _ e => e), Kept.of_below hB0 _⟩
  have hbl := hc.lt
  have hsl := hc.sl
  obtain ⟨G, hG⟩ := hid_ex w.heap.size
  have hbG : b ≠ G := by have := hG.out; omega
  go_enter Try.func79, Try.ntmps79
  go_wp2
  generalize w.alloc (.cells M 5) = w0 at hZ0 hB0 hd0 ⊢
  rw [← hG.out] at hZ0 ⊢
  go_loopw [8] (fun i wr => ∃ (j at' : Nat) (ys : List Nat), j ≤ 64 ∧ i = .int .i64 (j : Int) ∧ Hid (ys.length = j) ∧ (∀ x, x ∈ ys → x < 256) ∧ at' ≤ at_ + j ∧ ZRow wr G 64 ys ∧ DK w wr b sa bs cap at') (fun i _ => 64 - (intOf i).toNat)
  case atStart => exact ⟨0, at_, [], Nat.zero_le _, rfl, rfl, fun x hx => (by cases hx), Nat.le_refl _, hZ0, hd0⟩
  case round =>
    obtain ⟨j, at1, ys, hj, rfl, hyl, hyb, ha1, hZ, hd⟩ := hrel
    by_cases hlt : j < 64
    · have hjl : (j : Int) < 64 := by omega
      have i0' : (0 : Int) ≤ (j : Int) := by omega
      go_wp2_with (go_at_call 109; refine (l6next_any b sa bs cap at1 _ hd.dc (by omega)).mono ?_; rintro e w2 ⟨x, hx, rfl, hk2⟩; have hZ2 := hZ.kept hk2.kept (fun e => hbG e.symm); have d0 := hZ2.2.cell (i := j) (by omega); have fz := hZ2.2.frozen; have e2 : IntKind.u8.wrap (x : Int) = (x : Int) := (by rw [IntKind.wrap_u8']; omega))
      have hyl' := hyl.out
      have hZp := hZ2.push (by omega) x
      rw [hyl'] at hZp
      have hK3 := Kept.one w2 G j (.int .u8 (x : Int))
      have hd3 : DK w (w2.setCell ⟨G, j, none⟩ (.int .u8 (x : Int))) b sa bs cap (at1 + 1) := ⟨(hd.trans hk2).dc.kept hK3 hbG (fun g off e e3 => by have := hsl g off e; have := hG.out; omega), (hd.trans hk2).kept.trans hK3 (fun z hz e => by have := hG.out; omega)⟩
      go_roundw
      case rel => exact ⟨j + 1, at1 + 1, ys ++ [x], by omega, by go_num, by show _ = _; rw [List.length_append, hyl']; rfl, fun y hy => (List.mem_append.1 hy).elim (hyb y) (fun e => by rw [List.mem_singleton.1 e]; exact hx), by omega, hZp, hd3⟩
      case measure => simp [intOf]; omega
    · obtain rfl : j = 64 := by omega
      go_wp2
      go_ret
      exact ⟨G, ys, at1, hyl, hyb, by omega, rfl, by have := hG.out; omega, hZ.brow, hd⟩

end Go.Proofs.Ythjddpkegooobaa

/-
  REGIONK: a quiet operation of a region that draws its order, in few words. Own work.
-/
namespace Go.Proofs.Ythjddpkegooobaa
open Go.RowKit

section
variable {P : Program} {ops : Array Oper} {Q : Exit → Act → World → Prop} {md : Region.Mode} {S : World → Prop} {lst : Nat}
theorem anyU_tk {i : Nat} {oi : Oper} {v : Value} {fuel : Nat} {listed : Array Bool} {a : Act} {w : World} (hi : ops[i]? = some oi) (hS : S w) (hy : ∀ u, S u → (execOp a.eval oi).run P u = .ok (.value v) u)
    (h : anyU P md ops Q S lst fuel (listed.setIfInBounds i true) (a.put oi.dst v) w) (hs : Region.noSelect ops = true := by kernel_rfl) (hf : Region.free md ops listed i = true := by kernel_rfl) (hr : (Region.ready md ops listed).contains i = true := by kernel_rfl) (hl : lastWaits md ops lst i = true := by kernel_rfl)
    (hQ : ∀ c a w, Q (.panic c) (a.put oi.dst v) w → Q (.panic c) a w := by exact fun _ _ _ h => h) (hw : Region.wanted oi (yielded ops a.tmps) = true := by rfl) : anyU P md ops Q S lst (fuel + 1) listed a w :=
  anyU_take hi hs hf hr hl hQ (Or.inl ⟨hw, hy⟩) hS h
end

end Go.Proofs.Ythjddpkegooobaa
