import Derived.ProofKit
import Derived.OpenShut
import Derived.Deep.Slices
import Derived.ChangeSlices
import Derived.Test.YtmdpmdmilgbfiaaGreatDoorCards
import Derived.Test.YtmdpmdmilgbfiaaGreatDoorTie
import Derived.ShutString
import Derived.ChangeOld
import Derived.ChangeSame
import Derived.ChangeVars
import Derived.JoinedOf
import Derived.RowKit
import Derived.RowKitTokens
import Derived.LaidLaws
import Derived.LaidHandle
import Derived.Stop.Joined
import Derived.SevenTiedAt
import Derived.Test.YtmdpmdmilgbfiaaGreatDoorPartZ
namespace Go.Proofs.YtmdpmdmilgbfiaaGreatDoor
open Go.RowKit
set_option maxRecDepth 100000
set_option maxHeartbeats 8000000
theorem lawTop (a : Option Addr) (cap : Nat) (bs : List Nat) (w : World) (ha : BytesAt w a bs) (hml : bs.length ≤ maxLen) (hx : ∀ x, x ∈ bs → x < 256) (hs : ∀ g off, a = some ⟨g, off, none⟩ → g < w.heap.size) (hgl : w.cell? ⟨0, 0, none⟩ = some (.iface 211 (.agg #[.pointer (some ⟨1, 80, none⟩)]))) :
  Calls Tryz.prog 3 #[.slice a bs.length cap] w fun e w' => e = .returned (.bool true) ∧ Below w.heap.size w w' := by
 have hg' : Hid _ := hgl
 clear hgl
 by_cases hbig : (1048576 : Int) < (bs.length : Int)
 ·
  go_enter Tryz.func3, Tryz.ntmps3
  go_wp2
  go_ret
  exact ⟨rfl, gre _⟩
 have hdp : ∀ u, Below w.heap.size w u → Calls Tryz.prog 7 #[.slice a bs.length cap] u (DPl (actsF bs 0).1 u) := fun u hb => drawPlay_any a bs cap u (ha.grow hb) hx hml (fun g off e => by have := hs g off e; have := hb.size; omega)
 obtain ⟨xs, hxs⟩ := hid_ex (actsF bs 0).1
 rw [← hxs.out] at hdp
 have hpl := playA_length xs
 have hpf := playA_fine xs
 have hsp := fun (p : Option Addr) (q : Nat) (u : World) => specPlay_any p q xs u
 have him := fun (p : Option Addr) (q : Nat) (u : World) => implPlay_any p q xs u
 obtain ⟨ts, hts⟩ := hid_ex (playA xs)
 rw [← hts.out] at hpl hpf
 simp only [← hts.out] at hsp him
 have htO : ∀ t, t ∈ ts → t.g.Ok := fun t ht => (hpf t ht).o
 have n1 : ((ts.length : Int) != (ts.length : Int)) = false := by simp
 go_enter Tryz.func3, Tryz.ntmps3
 go_upto_region 4 with (go_at_call 7; refine (hdp _ (gre _)).mono ?_; rintro e w1 ⟨oa1, oc1, rfl, hxl, hxO, hA1, hb1⟩)
 go_upto_region 5 with (go_at_call 7; refine (hdp _ hb1).mono ?_; rintro e w2 ⟨oa2, oc2, rfl, _, _, hA2, hb2⟩)
 have hxm : xs.length ≤ maxLen := by unfold maxLen; omega
 go_upto_region 6 with (go_at_call 8; refine (hsp oa2 oc2 _ hxm hxO hA2).mono ?_; rintro e w3 ⟨oaS, ocS, ltS, rfl, hmS, hSTS, hb3⟩)
 have hb12 := gca hb1 hb2
 have hb123 := gca hb12 hb3
 have hA1 := (hA1.grow hb2).grow hb3
 have hA2 := hA2.grow hb3
 have hW := hSTS.at_
 rw [hmS] at hW
 have hg3 : Hid _ := cell_later hb123 hg'.out
 clear hSTS hmS hb1 hb2 hb3 hb12 hdp hg' hsp
 go_wp2
 go_loopw [6] (fun i wr => ∃ k : Nat, k ≤ 2 ∧ i = .int .i64 k ∧ Below w3.heap.size w3 wr) (fun i _ => 2 - (intOf i).toNat)
 case atStart => exact ⟨0, by omega, rfl, gre _⟩
 case round =>
  obtain ⟨k, hk, rfl, hb⟩ := hrel
  by_cases hlt : k < 2
  ·
   have hkl : (k : Int) < 2 := by omega
   go_upto_region 10 with (go_at_call 9; refine (him oa1 oc1 _ hxm hxO (hA1.grow hb) (cell_later hb hg3.out)).mono ?_; rintro e w4 ⟨oaI, ocI, ltI, rfl, hmI, hIT, hb4⟩)
   have hbS := hb.size
   have hk4 := gca hb hb4
   have hlI : ltI.length = ts.length := by rw [← hmI, List.length_map]
   generalize wr.heap.size = base at hIT hbS
   clear hb4 hb
   go_wp2
   go_loopw [33] (fun i wr2 => ∃ j : Nat, j ≤ ts.length ∧ i = .int .i64 j ∧ Kept (fun z => ∃ m, m < j ∧ ltI[m]!.lo ≤ z ∧ z < ltI[m]!.hi) w4 wr2) (fun i _ => ts.length - (intOf i).toNat)
   case atStart => exact ⟨0, by omega, rfl, Kept.refl _ _⟩
   case round =>
    rename World => wr2
    obtain ⟨j, hj, rfl, KP⟩ := hrel
    have hlow : ∀ z, (∃ m, m < j ∧ ltI[m]!.lo ≤ z ∧ z < ltI[m]!.hi) → w3.heap.size ≤ z := fun z ⟨m, hm, e1, _⟩ => by
     have := (hIT.rng _ (mem_at (show m < ltI.length by omega))).1
     omega
    have hb2 : Below w3.heap.size w3 wr2 := ((Kept.of_below hk4 (fun z => w3.heap.size ≤ z)).trans KP (fun z _ e => hlow z e)).below (Nat.le_refl _) (fun z hz e => by omega)
    by_cases hlt2 : j < ts.length
    case neg =>
     obtain rfl : j = ts.length := by omega
     go_wp2
     go_roundw
     case rel => exact ⟨k + 1, by omega, by go_num, hb2⟩
     case measure => simp [intOf]; omega
    have i0 : (0 : Int) ≤ (j : Int) := by omega
    have i1 : (j : Int) < (ts.length : Int) := by omega
    obtain ⟨g, off, y, vs, hyE, rfl, hgs, hT, hNy, hNo, hbl, hhi, hgo, hob⟩ := hIT.get_at KP (by omega)
    obtain ⟨t, gS, offS, ga, gc, htE, htm, rfl, hU, hNg⟩ := (hW.grow hb2).get hlt2
    have hty : y.t = t := by
     rw [hyE.out, htE.out, ← hmI, getElem!_pos ltI j (by omega), getElem!_pos (ltI.map LT.t) j (by rw [List.length_map]; omega), List.getElem_map]
    obtain ⟨yt, ya, yc, nl, lo, hi⟩ := y
    dsimp only at hty hT hNy hNo hbl hhi hgo hob
    subst hty
    have hgok := htO _ htm
    go_upto_region 15 with fail
    have hSS : ∀ u, Below wr2.heap.size wr2 u → TkAt u g (off + j * 7) yt ya yc ∧ TkAt u gS (offS + j * 7) yt ga gc := fun u hB => ⟨hT.grow hB, hU.grow hB⟩
    have hB : Below wr2.heap.size wr2 wr2.drew := gdr (gre _)
    refine wp_regionU (fun u => TkAt u g (off + j * 7) yt ya yc ∧ TkAt u gS (offS + j * 7) yt ga gc) 99 (by kernel_rfl) (hSS _ hB) (fun _ => ?_)
    refine anyU_tk (i := 0) rfl (hSS _ hB) (fun u _ => by go_simp <;> with_reducible rfl) ?_
    refine anyU_tk (i := 1) rfl (hSS _ hB) (fun u _ => by go_simp <;> with_reducible rfl) ?_
    refine anyU_tk (i := 2) rfl (hSS _ hB) (fun u _ => by go_simp <;> with_reducible rfl) ?_
    refine anyU_tk (i := 3) rfl (hSS _ hB) (fun u hSu => by obtain ⟨⟨s0, s1, s2, s3, s4, s5, s6⟩, ⟨t0, t1, t2, t3, t4, t5, t6⟩⟩ := hSu; go_simp <;> with_reducible rfl) ?_
    simp only [Act.put, List.getElem_toArray, List.getElem_cons_zero, List.getElem_cons_succ, List.setIfInBounds_toArray, List.set_cons_zero, List.set_cons_succ]
    refine anyU_tk (i := 4) rfl (hSS _ hB) (fun u _ => by go_simp <;> with_reducible rfl) ?_
    refine anyU_tk (i := 5) rfl (hSS _ hB) (fun u _ => by go_simp <;> with_reducible rfl) ?_
    refine anyU_tk (i := 6) rfl (hSS _ hB) (fun u _ => by go_simp <;> with_reducible rfl) ?_
    refine anyU_tk (i := 7) rfl (hSS _ hB) (fun u hSu => by obtain ⟨⟨s0, s1, s2, s3, s4, s5, s6⟩, ⟨t0, t1, t2, t3, t4, t5, t6⟩⟩ := hSu; go_simp <;> with_reducible rfl) ?_
    simp only [Act.put, List.getElem_toArray, List.getElem_cons_zero, List.getElem_cons_succ, List.setIfInBounds_toArray, List.set_cons_zero, List.set_cons_succ]
    refine anyU_one (i := 8) (by kernel_rfl) rfl (fun K hK => ?_)
    go_simp
    refine (wTaken_same yt ya ga yc gc _ hgok (hNy.grow hB) (hNg.grow hB)).mono ?_
    rintro e w5 ⟨rfl, hb5⟩
    have hB := gca hB hb5
    refine hK.out _ _ (hSS _ hB) ?_
    clear hK
    refine anyU_tk (i := 9) rfl (hSS _ hB) (fun u _ => by go_simp <;> with_reducible rfl) ?_
    simp only [Act.put, List.getElem_toArray, List.getElem_cons_zero, List.getElem_cons_succ, List.setIfInBounds_toArray, List.set_cons_zero, List.set_cons_succ]
    refine anyU_done (by kernel_rfl) ?_
    have hT := hT.grow hB
    have hNo := (Kept.of_below hB (fun _ => False)).owns hNo (fun _ _ e => e)
    have K5 := KP.trans (Kept.of_below hB (fun _ => False)) (fun _ _ e => e.elim)
    clear hU hNg hNy hSS
    have hnl := hgok.len
    unfold maxLen at hnl
    obtain ⟨q0, q1, q2, q3, q4, q5, q6⟩ := id hT
    go_wp2
    go_loopw [53] (fun i wr3 => ∃ (m : Nat) (vs : List Value), m ≤ yt.g.nodes.length ∧ i = .int .i64 m ∧ Kept (fun z => lo ≤ z ∧ z < hi) w5 wr3 ∧ wr3.ownsRow lo 37 2 (.slice ya yt.g.nodes.length yc) yt.g.nodes.length vs) (fun i _ => yt.g.nodes.length - (intOf i).toNat)
    case atStart => exact ⟨0, vs, by omega, rfl, Kept.refl _ _, hNo⟩
    case round =>
     rename World => wr3
     obtain ⟨m, vs3, hm, rfl, K3, hR⟩ := hrel
     clear q0 q1 q2 q3 q4 q5 q6
     by_cases hlt3 : m < yt.g.nodes.length
     case neg =>
      have hnm : ¬ ((m : Int) < (yt.g.nodes.length : Int)) := by omega
      go_wp2
      go_roundw
      case rel => exact ⟨j + 1, by omega, by go_num, (K5.mono (fun z _ ⟨m, e1, e2⟩ => ⟨m, by omega, e2⟩)).trans K3 (fun z _ e => ⟨j, by omega, by rw [← hyE.out]; exact e⟩)⟩
      case measure => simp [intOf]; omega
     have i2 : (0 : Int) ≤ (m : Int) := by omega
     have i3 : (m : Int) < (yt.g.nodes.length : Int) := by omega
     obtain ⟨N, f, rfl, _⟩ := owns_row hR (by omega)
     have hN : lo ≤ N ∧ N < hi := hob N rfl
     have hvl : vs3.length = yt.g.nodes.length * 2 := hR.1
     have cN0 := hR.cellAt (m * 2) (by omega)
     have cN1 := hR.cellAt (m * 2 + 1) (by omega)
     obtain ⟨z0, hz0⟩ : ∃ z0, vs3[m * 2]? = some z0 := ⟨_, List.getElem?_eq_getElem (by omega)⟩
     obtain ⟨z1, hz1⟩ : ∃ z1, vs3[m * 2 + 1]? = some z1 := ⟨_, List.getElem?_eq_getElem (by omega)⟩
     rw [hz0] at cN0
     rw [hz1] at cN1
     have fN0 := hR.frozenAt (m * 2)
     have fN1 := hR.frozenAt (m * 2 + 1)
     have q6 := K3.cell hT.c6 (fun e => by omega)
     go_wp2
     go_roundw
     case rel => exact ⟨m + 1, _, by omega, by go_num, (K3.set (a := ⟨N, m * 2, none⟩) (fun _ => hN) (.int .i64 (-7))).set (a := ⟨N, m * 2 + 1, none⟩) (fun _ => hN) (.slice none 0 0), ((hR.stored (m * 2) _).1.stored (m * 2 + 1) _).1⟩
     case measure => simp [intOf]; omega
  ·
   have hkl : ¬ ((k : Int) < 2) := by omega
   go_wp2
   go_loopw [69] (fun i wr2 => ∃ j : Nat, j ≤ xs.length ∧ i = .int .i64 j ∧ Below w3.heap.size w3 wr2) (fun i _ => xs.length - (intOf i).toNat)
   case atStart => exact ⟨0, by omega, rfl, hb⟩
   case round =>
    rename World => wr2
    obtain ⟨j, hj, rfl, hb2⟩ := hrel
    by_cases hlt2 : j < xs.length
    case neg =>
     have hnj : ¬ ((j : Int) < (xs.length : Int)) := by omega
     go_wp2
     go_ret
     exact ⟨rfl, gca hb123 hb2⟩
    have i0 : (0 : Int) ≤ (j : Int) := by omega
    have i1 : (j : Int) < (xs.length : Int) := by omega
    obtain ⟨x', b1, off1, ga1, gc1, ka1, kc1, hvk, hvm, rfl, hc1, hn1, _⟩ := (hA1.grow hb2).get hlt2
    obtain ⟨x, b2, off2, ga2, gc2, ka2, kc2, hvk', hvm', rfl, hc2, hn2, _⟩ := (hA2.grow hb2).get hlt2
    obtain rfl : x = x' := by rw [hvk.out, hvk'.out]
    have hxo := hxO x hvm
    go_upto_region 26 with fail
    have hSS : ∀ u, Below wr2.heap.size wr2 u → ActAt u b1 (off1 + j * 11) x ga1 gc1 ka1 kc1 ∧ ActAt u b2 (off2 + j * 11) x ga2 gc2 ka2 kc2 := fun u hB => ⟨hc1.grow hB, hc2.grow hB⟩
    have hB : Below wr2.heap.size wr2 wr2.drew := gdr (gre _)
    refine wp_regionU (fun u => ActAt u b1 (off1 + j * 11) x ga1 gc1 ka1 kc1 ∧ ActAt u b2 (off2 + j * 11) x ga2 gc2 ka2 kc2) 99 (by kernel_rfl) (hSS _ hB) (fun _ => ?_)
    refine anyU_tk (i := 0) rfl (hSS _ hB) (fun u _ => by go_simp <;> with_reducible rfl) ?_
    refine anyU_tk (i := 1) rfl (hSS _ hB) (fun u _ => by go_simp <;> with_reducible rfl) ?_
    refine anyU_tk (i := 2) rfl (hSS _ hB) (fun u _ => by go_simp <;> with_reducible rfl) ?_
    refine anyU_tk (i := 3) rfl (hSS _ hB) (fun u _ => by go_simp <;> with_reducible rfl) ?_
    simp only [Act.put, List.getElem_toArray, List.getElem_cons_zero, List.getElem_cons_succ, List.setIfInBounds_toArray, List.set_cons_zero, List.set_cons_succ]
    refine anyU_tk (i := 4) rfl (hSS _ hB) (fun u hSu => by obtain ⟨⟨s0, s1, s2, s3, s4, s5, s6, s7, s8, s9, s10⟩, ⟨t0, t1, t2, t3, t4, t5, t6, t7, t8, t9, t10⟩⟩ := hSu; go_simp <;> with_reducible rfl) ?_
    refine anyU_tk (i := 5) rfl (hSS _ hB) (fun u _ => by go_simp <;> with_reducible rfl) ?_
    refine anyU_tk (i := 6) rfl (hSS _ hB) (fun u _ => by go_simp <;> with_reducible rfl) ?_
    refine anyU_tk (i := 7) rfl (hSS _ hB) (fun u _ => by go_simp <;> with_reducible rfl) ?_
    simp only [Act.put, List.getElem_toArray, List.getElem_cons_zero, List.getElem_cons_succ, List.setIfInBounds_toArray, List.set_cons_zero, List.set_cons_succ]
    refine anyU_tk (i := 8) rfl (hSS _ hB) (fun u _ => by go_simp <;> with_reducible rfl) ?_
    refine anyU_tk (i := 9) rfl (hSS _ hB) (fun u hSu => by obtain ⟨⟨s0, s1, s2, s3, s4, s5, s6, s7, s8, s9, s10⟩, ⟨t0, t1, t2, t3, t4, t5, t6, t7, t8, t9, t10⟩⟩ := hSu; go_simp <;> with_reducible rfl) ?_
    simp only [Act.put, List.getElem_toArray, List.getElem_cons_zero, List.getElem_cons_succ, List.setIfInBounds_toArray, List.set_cons_zero, List.set_cons_succ]
    refine anyU_one (i := 10) (by kernel_rfl) rfl (fun K hK => ?_)
    go_simp
    refine (wGraph_same ga1 ga2 gc1 gc2 x.graph _ hxo.graph (hn1.grow hB) (hn2.grow hB)).mono ?_
    rintro e w5 ⟨rfl, hb5⟩
    have hB := gca hB hb5
    refine hK.out _ _ (hSS _ hB) ?_
    clear hK
    refine anyU_tk (i := 11) rfl (hSS _ hB) (fun u _ => by go_simp <;> with_reducible rfl) ?_
    simp only [Act.put, List.getElem_toArray, List.getElem_cons_zero, List.getElem_cons_succ, List.setIfInBounds_toArray, List.set_cons_zero, List.set_cons_succ]
    refine anyU_tk (i := 12) rfl (hSS _ hB) (fun u _ => by go_simp <;> with_reducible rfl) ?_
    refine anyU_tk (i := 13) rfl (hSS _ hB) (fun u _ => by go_simp <;> with_reducible rfl) ?_
    refine anyU_tk (i := 14) rfl (hSS _ hB) (fun u _ => by go_simp <;> with_reducible rfl) ?_
    refine anyU_tk (i := 15) rfl (hSS _ hB) (fun u _ => by go_simp <;> with_reducible rfl) ?_
    simp only [Act.put, List.getElem_toArray, List.getElem_cons_zero, List.getElem_cons_succ, List.setIfInBounds_toArray, List.set_cons_zero, List.set_cons_succ]
    refine anyU_tk (i := 16) rfl (hSS _ hB) (fun u _ => by go_simp <;> with_reducible rfl) ?_
    refine anyU_tk (i := 17) rfl (hSS _ hB) (fun u hSu => by obtain ⟨⟨s0, s1, s2, s3, s4, s5, s6, s7, s8, s9, s10⟩, ⟨t0, t1, t2, t3, t4, t5, t6, t7, t8, t9, t10⟩⟩ := hSu; go_simp <;> with_reducible rfl) ?_
    refine anyU_tk (i := 18) rfl (hSS _ hB) (fun u _ => by go_simp <;> with_reducible rfl) ?_
    refine anyU_tk (i := 19) rfl (hSS _ hB) (fun u _ => by go_simp <;> with_reducible rfl) ?_
    simp only [Act.put, List.getElem_toArray, List.getElem_cons_zero, List.getElem_cons_succ, List.setIfInBounds_toArray, List.set_cons_zero, List.set_cons_succ]
    refine anyU_tk (i := 20) rfl (hSS _ hB) (fun u _ => by go_simp <;> with_reducible rfl) ?_
    refine anyU_tk (i := 21) rfl (hSS _ hB) (fun u _ => by go_simp <;> with_reducible rfl) ?_
    refine anyU_tk (i := 22) rfl (hSS _ hB) (fun u _ => by go_simp <;> with_reducible rfl) ?_
    refine anyU_tk (i := 23) rfl (hSS _ hB) (fun u hSu => by obtain ⟨⟨s0, s1, s2, s3, s4, s5, s6, s7, s8, s9, s10⟩, ⟨t0, t1, t2, t3, t4, t5, t6, t7, t8, t9, t10⟩⟩ := hSu; go_simp <;> with_reducible rfl) ?_
    simp only [Act.put, List.getElem_toArray, List.getElem_cons_zero, List.getElem_cons_succ, List.setIfInBounds_toArray, List.set_cons_zero, List.set_cons_succ]
    refine anyU_tk (i := 24) rfl (hSS _ hB) (fun u _ => by go_simp <;> with_reducible rfl) ?_
    refine anyU_tk (i := 25) (v := .bool false) rfl (hSS _ hB) (fun u _ => by go_simp <;> first | rfl | simp) ?_
    refine anyU_tk (i := 26) rfl (hSS _ hB) (fun u _ => by go_simp <;> with_reducible rfl) ?_
    simp only [Act.put, List.getElem_toArray, List.getElem_cons_zero, List.getElem_cons_succ, List.setIfInBounds_toArray, List.set_cons_zero, List.set_cons_succ]
    refine anyU_done (by kernel_rfl) ?_
    go_wp2
    go_roundw
    case rel => exact ⟨j + 1, by omega, by go_num, gca hb2 hB⟩
    case measure => simp [intOf]; omega
open Go.RowKit Go.ChangeShapes Go.WideShapes Go.Deep
theorem cellsU8 : Tryz.prog.cellsOf 5 = 1 := by kernel_rfl
theorem byte_of_wf {x : Int} (h : (Lit.int .u8 x).wf = true) : 0 ≤ x ∧ x < 256 := by
 simp [Lit.wf, IntKind.min, IntKind.max, IntKind.signed, IntKind.bits] at h
 omega
section
variable {H : Type} {enc : TypeId × Value → H} {w : World} {base : Nat} {held : Bool}
theorem openBytes {v : Value} {d : DataW H} {ps : List MemPlace} {r : Reach} {bd : Nat} (hv : Value.okWide Tryz.prog w r bd 22 v) (h : DataW.Trod enc Tryz.prog w base (fun _ => true) held 22 v d ps) :
  ∃ (bs : List Nat) (a : Option Addr) (cap : Nat), v = .slice a bs.length cap ∧ bs.length ≤ cap ∧ bs.length ≤ maxLen ∧ (∀ x, x ∈ bs → x < 256) ∧ BytesAt w a bs := by
 obtain ⟨fuel, h⟩ := h
 have hcs : v.cells.toList = [v] := by
  cases v <;> first | rfl | (exfalso; simp [Value.okWide, Cell.okWide, Cell.ok, Tryz.underlying22] at hv)
 rw [hcs] at h
 rcases open_ints Tryz.underlying22 Tryz.underlying5 cellsU8 h with ⟨e, _⟩ | ⟨a, len, cap, zs, e, _, hlc, hcm, hzl, _, hcell, hwf⟩
 ·
  simp at e
  subst e
  exact ⟨[], none, 0, rfl, Nat.le_refl _, Nat.zero_le _, fun x hx => (by cases hx), fun i hi => absurd hi (Nat.not_lt_zero _)⟩
 ·
  simp at e
  subst e
  simp at hzl
  have hl : ((zs.take len).map Int.toNat).length = len := by rw [List.length_map, List.length_take]; omega
  refine ⟨(zs.take len).map Int.toNat, some a, cap, by rw [hl], by omega, by omega, fun x hx => ?_, fun i hi => ?_⟩
  ·
   obtain ⟨z, hz, rfl⟩ := List.mem_map.1 hx
   have := byte_of_wf (hwf z (List.mem_of_mem_take hz))
   omega
  ·
   rw [hl] at hi
   have h1 := hcell i (by omega)
   obtain ⟨b, off, sp⟩ := a
   have h0 := hcell 0 (by omega)
   have hsp : sp = none := by simpa [Addr.add] using World.cell?_spot h0
   subst hsp
   refine ⟨b, off, rfl, ?_⟩
   have e1 : (⟨b, off, none⟩ : Addr).add i = ⟨b, off + i, none⟩ := by unfold Addr.add; simp
   rw [e1] at h1
   rw [h1]
   have h2 := byte_of_wf (hwf zs[i] (List.getElem_mem (by omega)))
   rw [getElem!_pos _ i (by rw [hl]; exact hi)]
   have e2 : ((zs.take len).map Int.toNat)[i]'(by rw [hl]; exact hi) = (zs[i]'(by omega)).toNat := by simp
   rw [e2]
   have e3 : zs.getD i 0 = zs[i]'(by omega) := by simp [List.getD, List.getElem?_eq_getElem (show i < zs.length by omega)]
   rw [e3]
   congr 2
   omega
end
open Go.ChangeShapes Go.WideShapes Go.ChangeAt Go.RowKit
theorem ownTop : ownKnob Tryz.prog.godebug = none := by kernel_rfl
theorem laidOutTop : laidOutB Tryz.prog = true := by kernel_rfl
theorem asEt : Tryz.prog.globalNamed "errors.errorType" = some 0 := by kernel_rfl
theorem asRt : (Tryz.prog.cutTypes.find? (·.1 == "internal/reflectlite.rtype")).map (·.2) = some 211 := by kernel_rfl
theorem asOneRow : ((List.range 264).filter fun t => Tryz.prog.rowNamed t [101, 114, 114, 111, 114]) = [80] := by kernel_rfl
theorem asSize : Tryz.prog.types.size = 264 := by kernel_rfl
theorem slice_ltT {w : World} {r : Reach} {bd : Nat} {a : Addr} {n c : Nat} (h : Value.okWide Tryz.prog w r bd 22 (.slice (some a) n c)) : a.block < w.heap.size := by
 have h2 : n ≤ c ∧ (c : Int) ≤ IntKind.i64.max ∧ w.has Tryz.prog r bd a 5 c := by simpa [Value.okWide, Cell.okWide, Cell.ok, Tryz.underlying22] using h
 obtain ⟨_, _, _, _, row, cells, hsh, _⟩ := h2
 unfold World.shape? at hsh
 rcases Nat.lt_or_ge a.block w.heap.size with hlt | hge
 · exact hlt
 ·
  rw [Array.getElem?_eq_none hge] at hsh
  cases hsh
abbrev laidL : List (String × DataW Unit) := [("errors.errorType", Rows.laid_errors_errorType)]
theorem handle_of_laid {W : World} (h : laidMetH Tryz.prog laidL W) : W.cell? ⟨0, 0, none⟩ = some (.iface 211 (.agg #[.pointer (some ⟨1, 80, none⟩)])) := by
 have h' : laidMet Tryz.prog [] W ∧ handlesMet Tryz.prog laidL W := h
 obtain ⟨name, u, ty, e1, e2, e3, e4, e5⟩ := h'.2 _ (List.mem_singleton.2 rfl)
 have en : name = [101, 114, 114, 111, 114] := (Option.some.inj e1).symm
 subst en
 obtain rfl := Option.some.inj (asRt.symm.trans e2)
 have hm : ty ∈ (List.range 264).filter fun t => Tryz.prog.rowNamed t [101, 114, 114, 111, 114] := List.mem_filter.2 ⟨List.mem_range.2 (by rw [← asSize]; exact e3), e4⟩
 rw [asOneRow] at hm
 obtain rfl := List.mem_singleton.1 hm
 have hh : typeHandle Tryz.prog 80 = .pointer (some ⟨1, 80, none⟩) := by kernel_rfl
 rw [hh] at e5
 simpa using World.var?_cell asEt e5 0
noncomputable def laidWorld (os : Os) : World :=
 let w0 := World.holding Tryz.prog os ⟨#[], #[], []⟩
 { w0 with heap := w0.heap.modify 0 fun
   | .cells _ t frozen => .cells #[.iface 211 (.agg #[.pointer (some ⟨1, 80, none⟩)])] t frozen
   | o => o }
theorem laidWorld_met (os : Os) (args : Array Value) : laidMetH Tryz.prog laidL ((laidWorld os).forCall (fun _ _ => 0) ⟨#[], args, []⟩).memory :=
 laidMetH_of_parts (laidMet_nil _ _) (by kernel_rfl)
theorem liftedTop (os : Os) (started : os.Started) (H : Type) (enc : TypeId × Value → H) :
  ReturnsInHanded {} Tryz.checked os 3 .any (fun w args => (Rows.fnTopSpec.pre enc Tryz.prog Tryz.f3 [] false w args ∧ laidMetH Tryz.prog laidL w) ∧ sizedMet enc Tryz.prog Tryz.f3 (OpenSpec.ofChange Rows.fnTopSpec) false w args)
   (Rows.fnTopSpec.post enc Tryz.prog Tryz.f3 false true false false) := by
 refine returnsInHanded_of_change_and (C := Tryz.checked) (X := fun w _ => laidMetH Tryz.prog laidL w) (fun _ _ _ hh h => h.of_heap hh) ownTop started (by kernel_rfl) Tryz.func3
  (ChangeSpec.witness_at (enc := enc) (C := Tryz.checked) (os := os) (X := fun w _ => laidMetH Tryz.prog laidL w) false (laidWorld os) #[.slice none 0 0] 8 rfl (by kernel_rfl) (by kernel_rfl) (by kernel_rfl) (by kernel_rfl) (by kernel_rfl) (laidWorld_met os _)) ?_
 intro W base args ds gs before hval0 hW _ _ hL _
 have hval : ∀ (j : Nat) t v, Tryz.f3.params[j]? = some t → args[j]? = some v → Value.okWide Tryz.prog W .any base t v := hval0
 have hW' := hW
 obtain ⟨p, q, hA0, hV, rfl, hfz, hnd⟩ := hW
 have hA : DataW.TrodAll enc Tryz.prog W 0 (fun _ => true) true Tryz.f3.params.toList args.toList ds p := hA0
 rw [Tryz.params3] at hA hval
 obtain ⟨v0, vs0, d0, ds0, p0, q0, hargs, rfl, rfl, h0, r0⟩ := trodAll_cons hA
 obtain ⟨rfl, rfl, rfl⟩ := trodAll_nil r0
 obtain rfl : args = #[v0] := by cases args; simp_all
 obtain ⟨rfl, rfl⟩ := trodVars_none hV
 have k0 := h0
 have lt0 : ∀ x ∈ p0, x.block < W.heap.size := by obtain ⟨m, hm⟩ := k0; exact DataW.trod_lt m _ _ _ hm
 have hv0 := hval 0 22 v0 rfl rfl
 obtain ⟨bs, a, cap, rfl, _, hml, hx, ha⟩ := openBytes hv0 h0
 clear hA0 hval0
 have hgl := handle_of_laid hL
 have hs : ∀ g off, a = some ⟨g, off, none⟩ → g < W.heap.size := fun g off e => by rw [e] at hv0; exact slice_ltT hv0
 refine (lawTop a cap bs W ha hml hx hs hgl).mono fun e W' ⟨he, bel⟩ => ?_
 subst he
 exact ⟨_, rfl, _, _, _, [], _, [], hW', trodAll_mk1 (shut_bool Tryz.underlying4 _), (trodAll_cons_mk (Below.trod laidOutTop (by kernel_rfl) (of_decide_eq_true (by kernel_rfl)) k0 bel lt0) trodAll_mk0), rfl, bel.frame _, fun h => by cases h⟩
theorem top_row_holds : Rows.FnTopSaid :=
 OpenClaim.holds_of_wide 3 Tryz.f3 rfl rfl rfl rfl rfl rfl rfl ⟨rfl, rfl, rfl, rfl, rfl⟩ rfl rfl rfl rfl rfl (by kernel_rfl) Tryz.func3 (by kernel_rfl)
  (of_decide_eq_true (by kernel_rfl)) (by unfold Func.isWrapper; first | (rw [if_pos (by decide +kernel)]; kernel_rfl) | (rw [if_neg (by decide +kernel)]; exact ⟨rfl, rfl⟩))
  (fun os started H enc _ => liftedTop os started H enc)
theorem top_card_holds : Rows.FnTopCardSaid :=
 Claim7.holds_tied_plain_at .later [] [.handle] true (true, "1122c4521b4eb49c195f2a71b28a6187aad3023b8f243094791693b81cd3fd14") true
  top_row_holds (fun _ h => by cases h) (by kernel_rfl) (fun _ h => by cases h) fnTop_row_tie rfl ⟨rfl, rfl⟩ (by kernel_rfl) rfl
  (fun f fn hf hfn => by
   obtain rfl : f = 3 := Option.some.inj ((show Tryz.prog.funcNamed "loop.example/chest/laws.FnTop" = some 3 by kernel_rfl).symm.trans hf) |>.symm
   obtain rfl : fn = Tryz.f3 := (Option.some.inj (Tryz.func3.symm.trans hfn)).symm
   exact ⟨by kernel_rfl, fun j t ht => by
    rw [Tryz.params3] at ht
    have h3 : t = 22 := by
     rcases j with _ | j
     · simpa using ht.symm
     · simp at ht
    subst h3
    exact (show Tryz.prog.wantsStandIn 22 = false by kernel_rfl)⟩)
  (by kernel_rfl)
end Go.Proofs.YtmdpmdmilgbfiaaGreatDoor
