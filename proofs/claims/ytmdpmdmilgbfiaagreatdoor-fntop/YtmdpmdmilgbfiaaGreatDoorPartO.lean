import Derived.Test.YtmdpmdmilgbfiaaGreatDoorPartN
namespace Go.Proofs.YtmdpmdmilgbfiaaGreatDoor
open Go.RowKit
set_option maxRecDepth 100000
set_option maxHeartbeats 8000000
open Go.RowKit Go.Shelf
attribute [local go_sem] Oper.semAt_some
def noPanic (Q : Exit → Act → World → Prop) : Exit → Act → World → Prop
 | .panic _, _, _ => False
 | e, a, w => Q e a w
theorem noPanic_le (Q : Exit → Act → World → Prop) : ∀ e a w, noPanic Q e a w → Q e a w := fun e a w h => by
 cases e <;> first | exact h | exact h.elim
theorem implOps_any (d : DD) (l : DL) (ia : Option Addr) (im : List Nat) (ic : Nat) (w : World) (hd : d.Ok) (ha : DAt w l d) (hia : BytesAt w ia im) (hib : ∀ x, x ∈ im → x < 256) (hil : im.length ≤ 1048576) (hic : im.length ≤ ic) :
  Calls Tryz.prog 18 #[d.val l, .slice ia im.length ic] w (OAns (d.ops im) w) := by
 have hX0 := DBox.new w d l 46
 have hA0 := gal (gre w) (.cells #[.slice l.ba d.blocks.length l.bc, .slice l.wa d.waiting.length l.wc] 46)
 obtain ⟨_, x0, x1⟩ := id hX0
 refine callsIn_wide.1 (callsIn_of_wp_marks (F := Fence.wide) (n := 5) Tryz.func18 rfl trivial ?_ rfl)
 refine wpIn_wide.2 (Go.Code.wp_mono (noPanic_le _) ?_)
 simp only [Tryz.ntmps18, List.size_toArray, List.length_cons, List.length_nil, Nat.reduceAdd, Nat.reduceSub, Array.replicate_succ, Array.replicate_zero, List.push_toArray, List.append_toArray, List.nil_append, List.cons_append]
 cases hok : d.ok with
 | false =>
  have hok' : Hid _ := hok
  have hz : d.ops im = [] := if_neg (fun h => by rw [hok] at h; cases h.1)
  rw [hz]
  clear hok hz
  go_wp2_with (go_at_call 29; refine (implDiskOk_any d l _ hd (ha.grow hA0)).mono ?_; rintro e w1 ⟨rfl, hb1⟩; rw [hok'.out]; obtain ⟨_, y0, y1⟩ := hX0.grow hb1)
  refine ⟨_, results_tmp rfl _ _ _, ?_⟩
  exact OAns.no (gca hA0 hb1)
 | true =>
  have hok' : Hid _ := hok
  have hf := DD.fit hok
  by_cases hwt : d.waiting = []
  ·
   have hwz : Hid (decide (0 < d.waiting.length) = false) := by show _ = _; rw [hwt]; rfl
   have hwt' : Hid _ := hwt
   clear hwt
   obtain ⟨k, hk⟩ := hid_ex d.newestOf
   have hr : k.Rng := by rw [hk.out]; exact newest_rng hf
   obtain ⟨hg0, hg1⟩ := hr.g
   obtain ⟨sm, hsm⟩ := hid_ex (sumN im)
   obtain ⟨hb, hhb⟩ := hid_ex (headBB true (k.gen + 1) (im.length : Int) (wrap64 (sm : Int)))
   have hbl : hb.length ≤ 64 := by rw [hhb.out]; exact headBB_len _ _ _ _
   have hne : d.newest = k := by rw [hk.out]; exact if_pos hok
   have ew1 : IntKind.i64.wrap (k.gen + 1) = k.gen + 1 := by rw [IntKind.wrap_i64]; omega
   obtain ⟨LL, hLL⟩ := hid_ex (d.ops im)
   rw [← hLL.out]
   clear hok
   go_upto_if 19 with (go_at_call 29; refine (implDiskOk_any d l _ hd (ha.grow hA0)).mono ?_; rintro e w1 ⟨rfl, hb1⟩; rw [hok'.out]; obtain ⟨_, y0, y1⟩ := hX0.grow hb1)
   rw [hwz.out]
   go_upto_region 4 with (first
    | (go_at_call 27; refine (implNewest_any d l _ hd (ha.grow (gca hA0 hb1))).mono ?_; rw [hne]; rintro e w2 ⟨oa1, c1, rfl, _, hM2, hb2⟩))
   have hV := V4.new_at w2 (.bool k.ok) (.int .i64 k.gen) (.int .i64 k.slot) (.slice oa1 k.bytes.length c1) 62 w2.heap.size rfl
   have hBV := gal (gca (gca hA0 hb1) hb2) (.cells #[.bool k.ok, .int .i64 k.gen, .int .i64 k.slot, .slice oa1 k.bytes.length c1] 62)
   generalize w2.alloc (.cells #[.bool k.ok, .int .i64 k.gen, .int .i64 k.slot, .slice oa1 k.bytes.length c1] 62) = wV at hV hBV ⊢
   generalize w2.heap.size = R at hV ⊢
   clear hM2 hb1 hb2 y0 y1 x0 x1 hX0 hne
   have hB : Below wV.heap.size wV wV.drew := gdr (gre _)
   have hSd := hV.grow hB
   refine wp_regionU (fun u => V4 u R (.bool k.ok) (.int .i64 k.gen) (.int .i64 k.slot) (.slice oa1 k.bytes.length c1)) 99 (by kernel_rfl) hSd (fun _ => ?_)
   generalize wV.drew = wq at hB hSd ⊢
   refine anyU_tk (i := 0) rfl hSd (fun u hSu => by obtain ⟨_, s0, s1, s2, s3, sf⟩ := hSu; go_simp <;> with_reducible rfl) ?_
   refine anyU_tk (i := 1) rfl hSd (fun u hSu => by obtain ⟨_, s0, s1, s2, s3, sf⟩ := hSu; go_simp <;> with_reducible rfl) ?_
   refine anyU_tk (i := 2) rfl hSd (fun u hSu => by obtain ⟨_, s0, s1, s2, s3, sf⟩ := hSu; go_simp <;> with_reducible rfl) ?_
   refine anyU_tk (i := 3) rfl hSd (fun u hSu => by obtain ⟨_, s0, s1, s2, s3, sf⟩ := hSu; go_simp <;> with_reducible rfl) ?_
   refine anyU_tk (i := 4) rfl hSd (fun u hSu => by obtain ⟨_, s0, s1, s2, s3, sf⟩ := hSu; go_simp <;> with_reducible rfl) ?_
   refine anyU_tk (i := 5) rfl hSd (fun u hSu => by obtain ⟨_, s0, s1, s2, s3, sf⟩ := hSu; go_simp <;> with_reducible rfl) ?_
   simp only [Act.put, List.getElem_toArray, List.getElem_cons_zero, List.getElem_cons_succ, List.setIfInBounds_toArray, List.set_cons_zero, List.set_cons_succ]
   refine anyU_one (i := 6) (by kernel_rfl) rfl (fun K hK => ?_)
   go_simp
   refine (implSumOf_any ia im ic _ (hia.grow (gca hBV hB)) (by unfold maxLen; omega) hib).mono ?_
   rw [← hsm.out]
   rintro e w3 ⟨rfl, hb3⟩
   have hS6 := hSd.grow hb3
   refine hK.out _ _ hS6 ?_
   clear hK
   refine anyU_one (i := 7) (by kernel_rfl) rfl (fun K hK => ?_)
   go_simp
   refine hK.out _ _ hS6 ?_
   clear hK
   refine anyU_one (i := 8) (by kernel_rfl) rfl (fun K hK => ?_)
   go_simp
   refine (implHeadBlock_any true (k.gen + 1) (im.length : Int) (wrap64 (sm : Int)) _).mono ?_
   rw [← hhb.out]
   rintro e w4 ⟨oh, ch, rfl, hMh, hb4⟩
   have hS7 := hS6.grow hb4
   refine hK.out _ _ hS7 ?_
   clear hK
   refine anyU_one (i := 9) (by kernel_rfl) rfl (fun K hK => ?_)
   go_simp
   refine hK.out _ _ hS7 ?_
   clear hK
   refine anyU_done (by kernel_rfl) ?_
   have hB4 := gca (gca (gca hBV hB) hb3) hb4
   have hMh := hMh.leH (gca (gca hBV hB) hb3).size
   clear hBV hV hB hSd hS6 hb3 hb4 hA0
   cases hkb : headOkB true (k.gen + 1) (im.length : Int) with
   | false =>
    have hbn : hb = [] := by rw [hhb.out]; exact if_neg (by rw [hkb]; simp)
    have hLn : LL = [] := by
     rw [hLL.out]
     unfold DD.ops DD.lay
     rw [← hk.out]
     split
     ·
      rename_i h
      rw [if_pos]
      by_cases e : k.gen = 1000000000000
      · exact e
      ·
       have : 1 ≤ im.length := by have := List.length_pos_iff.2 h.2.2.1; omega
       rw [rng_mk ⟨⟨by omega, by omega⟩, by omega, by omega⟩] at hkb
       cases hkb
     · rfl
    subst hbn hLn
    go_wp2
    refine ⟨_, results_tmp rfl _ _ _, ?_⟩
    exact OAns.no hB4
   | true =>
    have hh := hhb.out.trans (if_pos hkb)
    have hbe : Hid (hb = headB (k.gen + 1) (im.length : Int) (wrap64 (sm : Int))) := hh
    have hb64 : Hid (hb.length = 64) := by show _ = _; rw [hh]; exact headB_length _ _ _
    have hl0 : ((hb.length : Int) == 0) = false := by rw [hb64.out]; rfl
    have hrg := rng_i64 hkb
    obtain ⟨_, ib, io, _, _, rfl, hic0⟩ := hia.get (k := 0) (by omega)
    have hibl : ib < w.heap.size := World.block_lt_of_cell? _ _ hic0
    clear hic0
    clear hkb hh
    obtain ⟨s, hs⟩ := hid_ex k.other
    have hs2 : s < 2 := by rw [hs.out]; exact k.other_lt
    have hLe : Hid (LL = imgOps s im (nBlk im) ++ [syncO, headO k im, syncO]) := by
     show _ = _
     rw [hLL.out, hs.out]
     unfold DD.ops DD.lay
     rw [if_pos ⟨hok'.out, hwt'.out, fun e => by rw [e] at hrg; have := hrg.2.1; simp at this, by omega⟩, ← hk.out, if_neg (by omega)]
    have hS4 := hS7
    obtain ⟨_, q0, q1, q2, q3, qf⟩ := id hS7
    go_upto_if 35 with fail
    have hP7 := Boxed.new w4 3 (.int .i64 0)
    have hb7 := gal (gre w4) (.cells #[.int .i64 0] 3)
    generalize w4.alloc (.cells #[.int .i64 0] 3) = wb at hP7 hb7 ⊢
    obtain ⟨P7, hP7e⟩ := hid_ex w4.heap.size
    rw [← hP7e.out] at hP7 ⊢
    have hV7 := hS4.grow hb7
    have hPR : R ≠ P7 := by have := hS4.lt; have := hP7e.out; omega
    obtain ⟨_, r0, r1, r2, r3, rf⟩ := id hV7
    have hc7 := hP7.cell
    have hf7 := hP7.frozen
    go_cut [] from 34 (fun wc => Boxed wc P7 3 (.int .i64 (s : Int)) ∧ Kept (fun z => z = P7) wb wc)
    case first =>
     cases hko : k.ok with
     | false =>
      rw [hko] at r0
      have e1 : s = 0 := by rw [hs.out]; exact if_neg (fun h => by rw [hko] at h; cases h.1)
      go_wp2
      go_meet
      case rel => exact ⟨by rw [e1]; exact hP7, Kept.refl _ _⟩
     | true =>
      rw [hko] at r0
      rcases hr.s hko with hks | hks
      ·
       rw [hks] at r2
       have e1 : s = 1 := by rw [hs.out]; exact if_pos ⟨hko, hks⟩
       go_wp2
       go_meet
       case rel => exact ⟨by rw [e1]; exact hP7.set _, (Kept.refl (fun z => z = P7) wb).set (a := ⟨P7, 0, none⟩) (fun _ => rfl) _⟩
      ·
       rw [hks] at r2
       have e1 : s = 0 := by rw [hs.out]; exact if_neg (fun h => by rw [hks] at h; cases h.2)
       go_wp2
       go_meet
       case rel => exact ⟨by rw [e1]; exact hP7.set _, (Kept.refl (fun z => z = P7) wb).set (a := ⟨P7, 0, none⟩) (fun _ => rfl) _⟩
    case rest =>
     obtain ⟨hQ7, hKc⟩ := hcut
     have hVc := hV7.kept hKc hPR
     have hBc := (gca hB4 hb7).trans (hKc.below (B := w.heap.size) (gca hB4 hb7).size (fun z hz e => by have := hP7e.out; have := hB4.size; omega))
     have hMc := (hMh.growO hb7).keptO hKc (fun z _ hBz e => by subst e; obtain ⟨c, hc⟩ := hBz; rw [show wb.heap[z]? = _ from hP7] at hc; simp at hc)
     have hoh : ∀ z, oh = some ⟨z, 0, none⟩ → z < wc.heap.size := fun z e => by rcases hMc with e0 | ⟨G, n, e1, _, hBr⟩; rw [e0] at hb64; cases hb64.out; rw [e] at e1; have := some_addr e1; have := hBr.lt; omega
     clear r0 r1 r2 r3 rf q0 q1 q2 q3 qf hc7 hf7 hS4 hS7 hP7 hV7 hMh hB4
     go_wp2_with (go_at_call 52; refine (chunk_any (some ⟨ib, io, none⟩) im.length ic _).mono ?_; rintro e wd ⟨rfl, rfl⟩)
     obtain ⟨f0, f1, f2, f3, f4, f5⟩ := four_new wc (.slice (some ⟨wc.heap.size, 0, none⟩) 0 0) (.slice (some ⟨ib, io, none⟩) im.length ic) (.int .i64 64) 101 52 22 3
     have hQ0 := hQ7.kept (World.grownBy_alloc wc (.cells #[] 101) none) (by simp)
     have hQ1 := ((hQ0.alloc (.cells #[.slice (some ⟨wc.heap.size, 0, none⟩) 0 0] 52)).alloc (.cells #[.slice (some ⟨ib, io, none⟩) im.length ic] 22)).alloc (.cells #[.int .i64 64] 3)
     have hM0 := hMc.growO f5
     have hB0 := gca hBc f5
     have hsc := hBc.size
     have hP7c : P7 < wc.heap.size := hQ7.lt
     generalize (((wc.alloc (.cells #[] 101)).alloc (.cells #[.slice (some ⟨wc.heap.size, 0, none⟩) 0 0] 52)).alloc (.cells #[.slice (some ⟨ib, io, none⟩) im.length ic] 22)).alloc (.cells #[.int .i64 64] 3) = W0 at f0 f1 f2 f3 f4 hQ1 hM0 hB0 ⊢
     generalize hB2e : wc.heap.size + 1 + 1 + 1 = B2 at f3 f4 ⊢
     generalize hB1e : wc.heap.size + 1 + 1 = B1 at f2 hB2e ⊢
     generalize hP8e : wc.heap.size + 1 = P8 at f1 hB1e ⊢
     generalize hG0e : wc.heap.size = G0 at f0 f1 hP8e hsc hP7c hoh ⊢
     have hn : nBlk im ≤ 64 := by unfold nBlk; omega
     refine (wpIn_wide (n := 5)).1 ?_
     refine wpIn_rangeFunc_ownG (F := Fence.wide) rfl (by decide) (gf := 93) (lb := #[.pointer (some ⟨B1, 0, none⟩), .pointer (some ⟨B2, 0, none⟩)]) rfl trivial (enters_of Tryz.func93 (by kernel_rfl) rfl) (chunk_stops 4 (by decide) B1 B2 W0.heap.size ib io ic (fun z => z = P8 ∨ z = G0) im (by omega) hic ⟨by omega, by rintro (e | e) <;> omega⟩ ⟨by omega, by rintro (e | e) <;> omega⟩ ⟨by omega, by rintro (e | e) <;> omega⟩ W0 (Nat.le_refl _) f2.cell f3.cell) (fun h k => h.trans k (fun _ _ e => e)) (fun W l o o' hl _ _ _ => KpC.putObj W l o' hl) (Below.refl _ _) (fun _ => rfl) (OI w G0 P7 P8 B1 B2 W0.heap.size s im hb oh) (fun _ _ _ => False) (OI.own hB0.size) (fun _ _ _ _ _ h _ _ => h.elim) ⟨_, _, [], f1, rfl, SO.empty f0 (Nat.le_refl _), hQ1, hM0, hB0, Nat.le_refl _, ⟨_, f2⟩, ⟨_, f3⟩⟩ ?a1 ?assign ?body ?done ?stop
     case assign =>
      intro l' x W K hK
      gi_wp2
      exact hK
     case body =>
      rintro l' pre x W ⟨oa, oc, lo, h8, hlo, hS, h7, hM, hB, hz, ⟨d1, k1⟩, ⟨d2, k2⟩⟩ hlt
      have hlo' : Hid _ := hlo
      have hll : Hid (lo.length = pre.length) := by show _ = _; have := congrArg List.length hlo; rw [List.length_map, preOps_len] at this; exact this
      clear hlo
      obtain ⟨i0, hi, hz0, hz1, hz2⟩ := info_parts info_u8
      obtain ⟨M, hMm⟩ := hid_ex (madeCells #[Value.int .u8 0] 64)
      have hmk : ∀ u : World, (Instr.makeSlice 22 (.int .i64 64) (.int .i64 64)).run Tryz.prog u = .ok (.slice (some ⟨u.heap.size, 0, none⟩) 64 64) (u.alloc (.cells M 5)) := fun u => by
       have h := run_make (P := Tryz.prog) u 22 5 i0 _ Tryz.underlying22 hi hz0 .i64 .i64 64 64 (by omega) (Int.le_refl _) (by rw [hz2]; omega) (by omega)
       rw [hMm.out]
       simpa [hz1, Value.cells] using h
      have hM64 : M.size = 64 := by rw [hMm.out, size_madeCells]
      obtain ⟨cu, hcu⟩ := hid_ex (cutOf im x)
      have hcl : cu.length ≤ 64 := by rw [hcu.out]; exact cutOf_len im x
      have hsrcW : BytesAt W (some ⟨ib, io + 64 * x, none⟩) cu := by rw [hcu.out]; exact part_bytes (hia.grow hB) x
      obtain ⟨o2, ho2⟩ := hid_ex (io + 64 * x)
      have hpv : partV ib io im x = .slice (some ⟨ib, o2, none⟩) cu.length cu.length := by rw [ho2.out, hcu.out]; rfl
      rw [← ho2.out] at hsrcW
      have hZ0 := zrow_made W M hMm.out
      have hBm := gal (gre W) (.cells M 5)
      have hcur : (W.alloc (.cells M 5)).heap[W.heap.size]? = some (.cells M 5 (0, 0)) := World.alloc_heap_new W _
      have hcp := run_copy_row (P := Tryz.prog) (W.alloc (.cells M 5)) 22 22 3 5 W.heap.size 0 64 64 ⟨ib, o2, none⟩ cu.length cu.length M 5 (bcells cu) Tryz.underlying22 size_byte hcur (by rw [bcells_length]; exact (Nat.min_eq_left hcl).symm) (bytes_news (hsrcW.grow hBm)) (by rw [bcells_length, hM64]; omega) (fun v hv => by obtain ⟨y, _, rfl⟩ := List.mem_map.1 hv; rfl)
      have hZ1 := zrow_copy hcur hZ0 cu hcl
      have hKr := keptRow (W.alloc (.cells M 5)) W.heap.size (M.toList.take 0 ++ bcells cu ++ M.toList.drop (0 + (bcells cu).length)).toArray
      rw [hpv]
      gi_wp2
      simp only [List.take_zero, List.nil_append, Nat.zero_add] at hZ1 hKr
      generalize (W.alloc (.cells M 5)).setRow W.heap.size (bcells cu ++ List.drop (bcells cu).length M.toList).toArray = W1 at hZ1 hKr ⊢
      have hBW : Below W.heap.size W W1 := hBm.trans (hKr.below (B := W.heap.size) hBm.size (fun z hz e => by omega))
      obtain ⟨Bb, hBb⟩ := hid_ex W.heap.size
      rw [← hBb.out] at hZ1 ⊢
      obtain ⟨bl, hbl2⟩ := hid_ex (blkOf im x)
      have hbll : Hid (bl.length = 64) := by show _ = _; rw [hbl2.out]; exact blkOf_len im x
      have hfull : BRow W1 Bb 64 bl := by rw [hbl2.out]; unfold blkOf; rw [← hcu.out]; exact hZ1.full (n := 64 - cu.length) (Nat.add_sub_cancel' hcl)
      have h81 : Boxed W1 P8 52 (.slice oa lo.length oc) := (hBW.block P8 h8.lt).trans h8
      have h71 : Boxed W1 P7 3 (.int .i64 (s : Int)) := (hBW.block P7 h7.lt).trans h7
      have hS1 := hS.grow hBW
      obtain ⟨F, hF⟩ := hid_ex (firstOf s + lo.length)
      have hF2 : ((firstOf s : Nat) : Int) + (lo.length : Int) = (F : Int) := by rw [hF.out]; omega
      have hFl : F ≤ 200 := by rw [hF.out, hll.out]; exact first_le hs2 (Nat.le_trans (Nat.le_of_lt hlt) hn)
      have hFw := wrapV hFl
      have hFw3 := wrapI hFl
      have hn64 := hn
      clear hcp hZ0 hBm hcur hmk hZ1 hKr hsrcW hpv
      refine wpIn_regionJ (fun D a u => ∃ v : Nat → Value, a = { tmps := #[d.val l, .slice (some ⟨ib, io, none⟩) im.length ic, .pointer (some ⟨w.heap.size, 0, none⟩), undef, .slice none 0 0, .pointer (some ⟨R, 0, none⟩), .slice oh hb.length ch, .pointer (some ⟨P7, 0, none⟩), .pointer (some ⟨P8, 0, none⟩), .slice (some ⟨ib, o2, none⟩) cu.length cu.length, .slice (some ⟨Bb, 0, none⟩) 64 64, .agg #[.slice l.ba d.blocks.length l.bc, .slice l.wa d.waiting.length l.wc], .bool true, .bool false, .bool false, .pointer (some ⟨w.heap.size, 1, none⟩), .slice l.wa d.waiting.length l.wc, .int .i64 (d.waiting.length : Int), .bool false, .bool false, .agg #[.slice l.ba d.blocks.length l.bc, .slice l.wa d.waiting.length l.wc], k.val oa1 c1, .pointer (some ⟨R, 1, none⟩), .int .i64 k.gen, .int .i64 (k.gen + 1), .slice (some ⟨ib, io, none⟩) im.length ic, .int .i64 (im.length : Int), .slice (some ⟨ib, io, none⟩) im.length ic, .int .i64 (wrap64 (sm : Int)), .agg #[.bool true, .int .i64 (k.gen + 1), .int .i64 (im.length : Int), .int .i64 (wrap64 (sm : Int))], .slice oh hb.length ch, .slice oh hb.length ch, .int .i64 (hb.length : Int), .bool false, u34, u35, u36, u37, u38, .slice (some ⟨G0, 0, none⟩) 0 0, .slice (some ⟨ib, io, none⟩) im.length ic, .func (.func 93) #[] #[.pointer (some ⟨B1, 0, none⟩), .pointer (some ⟨B2, 0, none⟩)], .slice (some ⟨ib, o2, none⟩) cu.length cu.length, .slice (some ⟨Bb, 0, none⟩) 64 64, .slice (some ⟨Bb, 0, none⟩) 64 64, .slice (some ⟨ib, o2, none⟩) cu.length cu.length, .int .i64 ((bcells cu).length : Int), v 47, v 48, v 49, v 50, v 51, v 52, v 53, v 54, v 55, v 56, u57, u58, u59, u60, u61, u62, u63, u64], defers := [] } ∧ OJ W1 G0 P7 P8 Bb s F oa oc lo bl D v u) (by kernel_rfl) (by kernel_rfl) ?init ?fin ?step
      case init => exact ⟨fun k => #[u47, u48, u49, u50, u51, u52, u53, u54, u55, u56].getD (k - 47) undef, rfl, fun _ => gdr (gre _), fun _ h => h.elim, fun h => h.elim, fun h => h.elim, fun h => h.elim⟩
      case fin =>
       rintro a u ⟨v, _, hj⟩
       obtain ⟨gg, cc, ⟨_, hSO, hK1⟩, h8u⟩ := hj.fin (show 10 < 11 by decide)
       have hz8 : ∀ z, (Value.slice oa lo.length oc).ownBlock = some z → G0 ≤ z ∧ IsO W1 z := fun z e => let r := owns_isO hS1.own e; ⟨r.2, r.1⟩
       have hP8G : G0 ≤ P8 := by omega
       have hc1 : ∀ z, ((Value.slice oa lo.length oc).ownBlock = some z ∨ z = P8) → G0 ≤ z := fun z e => e.elim (fun e => (hz8 z e).1) (fun e => by omega)
       have hKW : Kept (fun z => (Value.slice oa lo.length oc).ownBlock = some z ∨ z = P8) W u := (Kept.of_below hBW _).trans hK1 (fun _ _ e => e)
       refine ⟨keepsFrom_of _ hKW (fun z e o ho => ?_), hKW.mono (fun z _ e => ?_), ?_⟩
       ·
        rcases e with e | e
        ·
         obtain ⟨c, hc⟩ := (owns_isO hS.own e).1
         rw [hc] at ho
         cases ho
         rfl
        ·
         subst e
         rw [show W.heap[z]? = _ from h8] at ho
         cases ho
         rfl
       ·
        rcases e with e | e
        ·
         have hzO := (owns_isO hS.own e)
         by_cases e0 : z = G0
         · exact Or.inl (Or.inr e0)
         ·
          obtain ⟨c, hc⟩ := hzO.1
          have hge := hzO.2
          rcases Nat.lt_or_ge z W0.heap.size with hlz | hlz
          ·
           obtain rfl | rfl | rfl : z = P8 ∨ z = B1 ∨ z = B2 := by omega
           · rw [show W.heap[z]? = _ from h8] at hc; simp at hc
           · rw [k1] at hc; simp at hc
           · rw [k2] at hc; simp at hc
          · exact Or.inr hlz
        · exact Or.inl (Or.inl e)
       ·
        have hnb : ∀ z c t, W.heap[z]? = some (.cells c t (0, 0)) → t ≠ 101 → z ≠ P8 → u.heap[z]? = W.heap[z]? := fun z c t hz ht hzp => hKW.block z (Array.getElem?_eq_some_iff.1 hz).1 (fun e => e.elim (fun e => by obtain ⟨c', hc'⟩ := (owns_isO hS.own e).1; rw [hz] at hc'; simp at hc'; exact ht hc'.2) hzp)
        have hlen : (lo ++ [⟨⟨false, (F : Int), bl⟩, some ⟨Bb, 0, none⟩, 64⟩] : List LO).length = lo.length + 1 := by rw [List.length_append]; rfl
        refine ⟨some ⟨gg, 0, none⟩, cc, lo ++ [⟨⟨false, (F : Int), bl⟩, some ⟨Bb, 0, none⟩, 64⟩], by rw [hlen]; exact h8u, ?_, hSO, (hnb P7 _ _ h7 (by decide) (by omega)).trans h7, hM.keptO hKW (fun z _ hBz e => ?_), ?_, Nat.le_trans hz hKW.size, ⟨d1, (hnb B1 _ _ k1 (by decide) (by omega)).trans k1⟩, ⟨d2, (hnb B2 _ _ k2 (by decide) (by omega)).trans k2⟩⟩
        · rw [List.map_append, hlo'.out, preOps_snoc, hF.out, hll.out, hbl2.out]; rfl
        ·
         obtain ⟨c, hc⟩ := hBz
         rcases e with e | e
         ·
          obtain ⟨c', hc'⟩ := (owns_isO hS.own e).1
          rw [hc] at hc'
          simp at hc'
         ·
          subst e
          rw [show W.heap[z]? = _ from h8] at hc
          simp at hc
        · exact hB.trans (hKW.below (B := w.heap.size) hB.size (fun z hz2 e => by have := hc1 z e; omega))
      case step =>
       intro i hi
       rcases i with _ | i
       ·
        refine ⟨_, [], rfl, by kernel_rfl, fun D a u hc hp hn hJ K hK => ?_⟩
        obtain ⟨v, rfl, hj⟩ := hJ
        have n9 : ¬ D 9 := fun h => hn (hc 9 0 h (by kernel_rfl))
        have n10 : ¬ D 10 := fun h => n9 (hc 10 9 h (by kernel_rfl))
        have c8 : u.cell? ⟨P8, 0, none⟩ = some (.slice oa lo.length oc) := Boxed.cell (t := 52) (((hj.pa n9).block P8 h81.lt).trans h81)
        go_simp
        refine hK.out _ _ ?_; exact ⟨updO v 47 _, by simp [updO], hj.next 0 47 _ rfl (by decide) n9 n10 (gre _) rfl⟩
       rcases i with _ | i
       ·
        refine ⟨_, [], rfl, by kernel_rfl, fun D a u hc hp hn hJ K hK => ?_⟩
        obtain ⟨v, rfl, hj⟩ := hJ
        have n9 : ¬ D 9 := fun h => hn (hc 2 1 (hc 5 2 (hc 7 5 (hc 8 7 (hc 9 8 h (by kernel_rfl)) (by kernel_rfl)) (by kernel_rfl)) (by kernel_rfl)) (by kernel_rfl))
        have n10 : ¬ D 10 := fun h => n9 (hc 10 9 h (by kernel_rfl))
        have c7 : u.cell? ⟨P7, 0, none⟩ = some (.int .i64 (s : Int)) := Boxed.cell (t := 3) (((hj.pa n9).block P7 h71.lt).trans h71)
        go_simp
        refine hK.out _ _ ?_; exact ⟨updO v 48 _, by simp [updO], hj.next 1 48 _ rfl (by decide) n9 n10 (gre _) rfl⟩
       rcases i with _ | i
       ·
        refine ⟨_, [1], rfl, by kernel_rfl, fun D a u hc hp hn hJ K hK => ?_⟩
        obtain ⟨v, rfl, hj⟩ := hJ
        have n9 : ¬ D 9 := fun h => hn (hc 5 2 (hc 7 5 (hc 8 7 (hc 9 8 h (by kernel_rfl)) (by kernel_rfl)) (by kernel_rfl)) (by kernel_rfl))
        have n10 : ¬ D 10 := fun h => n9 (hc 10 9 h (by kernel_rfl))
        have e1 : v 48 = .int .i64 (s : Int) := hj.done 1 (hp 1 (by simp))
        have f1 : Hid _ := e1
        rw [e1]
        clear e1
        go_simp
        refine ⟨trivial, ?_⟩
        refine (CallsIn.inRound l' (callsIn_wide.2 (imageBegin_any s _ hs2))).mono ?_
        rintro e u2 ⟨rfl, hb2⟩
        refine hK.out _ _ ?_
        exact ⟨updO v 49 _, by simp [updO, f1.out], hj.next 2 49 _ rfl (by decide) n9 n10 hb2 rfl⟩
       rcases i with _ | i
       ·
        refine ⟨_, [], rfl, by kernel_rfl, fun D a u hc hp hn hJ K hK => ?_⟩
        obtain ⟨v, rfl, hj⟩ := hJ
        have n9 : ¬ D 9 := fun h => hn (hc 4 3 (hc 5 4 (hc 7 5 (hc 8 7 (hc 9 8 h (by kernel_rfl)) (by kernel_rfl)) (by kernel_rfl)) (by kernel_rfl)) (by kernel_rfl))
        have n10 : ¬ D 10 := fun h => n9 (hc 10 9 h (by kernel_rfl))
        have c8 : u.cell? ⟨P8, 0, none⟩ = some (.slice oa lo.length oc) := Boxed.cell (t := 52) (((hj.pa n9).block P8 h81.lt).trans h81)
        go_simp
        refine hK.out _ _ ?_; exact ⟨updO v 50 _, by simp [updO], hj.next 3 50 _ rfl (by decide) n9 n10 (gre _) rfl⟩
       rcases i with _ | i
       ·
        refine ⟨_, [3], rfl, by kernel_rfl, fun D a u hc hp hn hJ K hK => ?_⟩
        obtain ⟨v, rfl, hj⟩ := hJ
        have n9 : ¬ D 9 := fun h => hn (hc 5 4 (hc 7 5 (hc 8 7 (hc 9 8 h (by kernel_rfl)) (by kernel_rfl)) (by kernel_rfl)) (by kernel_rfl))
        have n10 : ¬ D 10 := fun h => n9 (hc 10 9 h (by kernel_rfl))
        have e1 : v 50 = .slice oa lo.length oc := hj.done 3 (hp 3 (by simp))
        have f1 : Hid _ := e1
        rw [e1]
        clear e1
        go_simp
        refine hK.out _ _ ?_; exact ⟨updO v 51 _, by simp [updO, f1.out], hj.next 4 51 _ rfl (by decide) n9 n10 (gre _) rfl⟩
       rcases i with _ | i
       ·
        refine ⟨_, [2, 4], rfl, by kernel_rfl, fun D a u hc hp hn hJ K hK => ?_⟩
        obtain ⟨v, rfl, hj⟩ := hJ
        have n9 : ¬ D 9 := fun h => hn (hc 7 5 (hc 8 7 (hc 9 8 h (by kernel_rfl)) (by kernel_rfl)) (by kernel_rfl))
        have n10 : ¬ D 10 := fun h => n9 (hc 10 9 h (by kernel_rfl))
        have e1 : v 49 = .int .i64 ((firstOf s : Nat) : Int) := hj.done 2 (hp 2 (by simp))
        have e2 : v 51 = .int .i64 (lo.length : Int) := hj.done 4 (hp 4 (by simp))
        have f1 : Hid _ := e1
        have f2 : Hid _ := e2
        rw [e1, e2]
        clear e1 e2
        go_simp
        refine hK.out _ _ ?_; exact ⟨updO v 52 _, by simp [updO, f1.out, f2.out], hj.next 5 52 _ rfl (by decide) n9 n10 (gre _) rfl⟩
       rcases i with _ | i
       ·
        refine ⟨_, [], rfl, by kernel_rfl, fun D a u hc hp hn hJ K hK => ?_⟩
        obtain ⟨v, rfl, hj⟩ := hJ
        have n9 : ¬ D 9 := fun h => hn (hc 7 6 (hc 8 7 (hc 9 8 h (by kernel_rfl)) (by kernel_rfl)) (by kernel_rfl))
        have n10 : ¬ D 10 := fun h => n9 (hc 10 9 h (by kernel_rfl))
        go_simp
        refine hK.out _ _ ?_; exact ⟨updO v 53 _, by simp [updO], hj.next 6 53 _ rfl (by decide) n9 n10 (gre _) rfl⟩
       rcases i with _ | i
       ·
        refine ⟨_, [5, 6], rfl, by kernel_rfl, fun D a u hc hp hn hJ K hK => ?_⟩
        obtain ⟨v, rfl, hj⟩ := hJ
        have n9 : ¬ D 9 := fun h => hn (hc 8 7 (hc 9 8 h (by kernel_rfl)) (by kernel_rfl))
        have n10 : ¬ D 10 := fun h => n9 (hc 10 9 h (by kernel_rfl))
        have e1 : v 52 = .int .i64 (F : Int) := hj.done 5 (hp 5 (by simp))
        have e2 : v 53 = .slice (some ⟨Bb, 0, none⟩) 64 64 := hj.done 6 (hp 6 (by simp))
        have f1 : Hid _ := e1
        have f2 : Hid _ := e2
        rw [e1, e2]
        clear e1 e2
        go_simp
        refine hK.out _ _ ?_; exact ⟨updO v 54 _, by simp [updO, f1.out, f2.out], hj.next 7 54 _ rfl (by decide) n9 n10 (gre _) rfl⟩
       rcases i with _ | i
       ·
        refine ⟨_, [7], rfl, by kernel_rfl, fun D a u hc hp hn hJ K hK => ?_⟩
        obtain ⟨v, rfl, hj⟩ := hJ
        have n9 : ¬ D 9 := fun h => hn (hc 9 8 h (by kernel_rfl))
        have n10 : ¬ D 10 := fun h => n9 (hc 10 9 h (by kernel_rfl))
        have e1 : v 54 = .agg #[.bool false, .int .i64 (F : Int), .slice (some ⟨Bb, 0, none⟩) 64 64] := hj.done 7 (hp 7 (by simp))
        have f1 : Hid _ := e1
        rw [e1]
        clear e1
        go_simp
        refine hK.out _ _ ?_
        have hpa := hj.pa n9
        have hgn := gal (gre u) (.cells #[.bool false, .int .i64 (F : Int), .slice (some ⟨Bb, 0, none⟩) 64 64] 101)
        refine ⟨updO v 55 (.slice (some ⟨u.heap.size, 0, none⟩) 1 1), by simp [updO, f1.out], fun _ => hpa.trans (hgn.mono hpa.size), fun k hk => ?_, fun _ _ => ⟨u.heap.size, rfl, World.alloc_heap_new u _⟩, fun h9 => absurd (h9.resolve_left (by decide)) n9, fun h10 => absurd (h10.resolve_left (by decide)) n10⟩
        rcases hk with rfl | hk
        · trivial
        ·
         by_cases e8 : k = 8
         · subst e8; trivial
         · exact oL_upd 55 _ k (by omega) (hj.done k hk)
       rcases i with _ | i
       ·
        refine ⟨_, [0, 8], rfl, by kernel_rfl, fun D a u hc hp hn hJ K hK => ?_⟩
        obtain ⟨v, rfl, hj⟩ := hJ
        have n10 : ¬ D 10 := fun h => hn (hc 10 9 h (by kernel_rfl))
        have hpa := hj.pa hn
        have e1 : v 47 = .slice oa lo.length oc := hj.done 0 (hp 0 (by simp))
        obtain ⟨g, e2, hg⟩ := hj.new (hp 8 (by simp)) hn
        have hSu := hS1.grow hpa
        have hfu := hfull.kept (Kept.of_below hpa (fun _ => False)) (fun e => e)
        obtain ⟨j0, hj0, hy0, hy1, hy2⟩ := info_parts info_implOp
        have hlc : lo.length ≤ 64 := by rw [hll.out]; exact Nat.le_trans (Nat.le_of_lt hlt) hn64
        have hGu : G0 ≤ u.heap.size := by have := hpa.size; have := hBW.size; omega
        refine stepIn_append_own (by rfl) (.tmp 47) (.tmp 55) 52 rfl G0 101 j0 _ 3 40 Tryz.underlying52 hj0 hy0 hy1 hy2 rfl (by decide) (.slice oa lo.length oc) lo.length (oCells lo) e1 hSu.own ⟨g, 0, none⟩ 1 1 [.bool false, .int .i64 (F : Int), .slice (some ⟨Bb, 0, none⟩) 64 64] e2 rfl (World.news_of_block (cs := #[.bool false, .int .i64 (F : Int), .slice (some ⟨Bb, 0, none⟩) 64 64]) (t := 101) (fr := (0, 0)) hg) (by simp [Value.oneCell']) (by unfold maxLen; omega) (by omega) hGu ?_
        intro v' w' r1 r2
        obtain ⟨gg, cc, rfl⟩ := ownsRow_succ r1
        have hSO := hSu.more (ys := [⟨⟨false, (F : Int), bl⟩, some ⟨Bb, 0, none⟩, 64⟩]) (fun y hy => by rw [List.mem_singleton.1 hy]; exact Or.inr ⟨Bb, 64, rfl, by have := hBb.out; omega, hfu⟩) (hS.far1 (fun b _ e => by have := some_addr e; have := hBb.out; omega)) (by simp only [oCells, LO.three, List.flatMap_cons, List.flatMap_nil, List.append_nil, hbll.out]; exact r1) r2
        have hKu := Kept.of_grown r2
        have hK1 : Kept (fun z => (Value.slice oa lo.length oc).ownBlock = some z ∨ z = P8) W1 w' := (Kept.of_below hpa _).trans hKu (fun z _ e => Or.inl e)
        have h8u : Boxed u P8 52 (.slice oa lo.length oc) := (hpa.block P8 h81.lt).trans h81
        have h8w := h8u.kept r2 (h8u.not_row (by decide) hSu.own)
        refine hK.out _ _ ?_
        exact ⟨updO v 56 (.slice (some ⟨gg, 0, none⟩) (lo.length + 1) cc), rfl, fun h => absurd (Or.inl rfl) h, fun k hk => hk.elim (fun e => by subst e; trivial) (fun hk => by by_cases e9 : k = 9; subst e9; trivial; exact oL_upd 56 _ k (by omega) (hj.done k hk)), fun _ h => absurd (Or.inl rfl) h, fun _ _ => ⟨gg, cc, ⟨rfl, hSO, hK1⟩, h8w⟩, fun h => absurd (h.resolve_left (by decide)) n10⟩
       rcases i with _ | i
       ·
        refine ⟨_, [9], rfl, by kernel_rfl, fun D a u hc hp hn hJ K hK => ?_⟩
        obtain ⟨v, rfl, hj⟩ := hJ
        obtain ⟨gg, cc, ⟨e56, hSO, hK1⟩, h8u⟩ := hj.app (hp 9 (by simp)) hn
        have c8 := h8u.cell
        have z8 := h8u.frozen
        have f1 : Hid _ := e56
        rw [e56]
        clear e56
        go_simp
        refine hK.out _ _ ?_
        have hK2 := hK1.set (a := ⟨P8, 0, none⟩) (fun _ => Or.inr rfl) (.slice (some ⟨gg, 0, none⟩) (lo.length + 1) cc)
        have hSO2 := hSO.kept (Kept.one u P8 0 (.slice (some ⟨gg, 0, none⟩) (lo.length + 1) cc)) (fun z e _ => by subst e; exact ⟨fun ⟨c, hc⟩ => (by rw [show u.heap[z]? = _ from h8u] at hc; simp at hc), fun ⟨c, hc⟩ => (by rw [show u.heap[z]? = _ from h8u] at hc; simp at hc)⟩)
        exact ⟨v, by simp [f1.out], fun h => absurd (Or.inr (hp 9 (by simp))) h, fun k hk => hk.elim (fun e => by subst e; trivial) (hj.done k), fun _ h => absurd (Or.inr (hp 9 (by simp))) h, fun _ h => absurd (Or.inl rfl) h, fun _ => ⟨gg, cc, ⟨f1.out, hSO2, hK2⟩, h8u.set _⟩⟩
       · exact absurd hi (by simp)
     case done =>
      rintro D xs W hD rfl ⟨oa, oc, lo, h8, hlo, hS, h7, hM, hB, hz, _, _⟩ hK
      have h8c := h8.cell
      have h7c := h7.cell
      have hll : lo.length ≤ 64 := by have := congrArg List.length hlo; rw [List.length_map, preOps_len, List.length_range] at this; rw [this]; exact hn
      obtain ⟨j0, hj, hy0, hy1, hy2⟩ := info_parts info_implOp
      have hsW : G0 ≤ W.heap.size := by omega
      have hlo' : Hid _ := hlo
      clear hlo
      go_wp2_with (at_builtin; refine wpList_append_lies _ rfl (.tmp 57) (.tmp 63) 52 rfl G0 101 j0 _ 3 40 Tryz.underlying52 hj hy0 hy1 hy2 rfl (by decide) _ _ _ rfl (hS.own.alloc _) ⟨W.heap.size, 0, none⟩ 3 3 [.bool true, .int .i64 0, .slice none 0 0, .bool false, .int .i64 (s : Int), .slice oh hb.length ch, .bool true, .int .i64 0, .slice none 0 0] rfl rfl (World.news_of_block (cs := #[.bool true, .int .i64 0, .slice none 0 0, .bool false, .int .i64 (s : Int), .slice oh hb.length ch, .bool true, .int .i64 0, .slice none 0 0]) (t := 101) (fr := (0, 0)) (blk_new_at _ _ _ (by simp))) (by simp [Value.oneCell']) (by decide) (by unfold maxLen; omega) (by omega) (by simp; omega) (W.heap.size + 1) (by simp) ?_; intro g1 cc1 wa ho1 hg1 _ _)
      have hDl := (Array.getElem?_eq_some_iff.1 hK).1
      have hSa := (hS.grow (gal (gre W) (.cells #[.bool true, .int .i64 0, .slice none 0 0, .bool false, .int .i64 (s : Int), .slice oh hb.length ch, .bool true, .int .i64 0, .slice none 0 0] 101))).le (base' := w.heap.size) (by omega)
      have hown := (hS.grow (gal (gre W) (.cells #[.bool true, .int .i64 0, .slice none 0 0, .bool false, .int .i64 (s : Int), .slice oh hb.length ch, .bool true, .int .i64 0, .slice none 0 0] 101))).own
      have hz1 : ∀ z, (Value.slice oa lo.length oc).ownBlock = some z → G0 ≤ z ∧ IsO (W.alloc (.cells #[.bool true, .int .i64 0, .slice none 0 0, .bool false, .int .i64 (s : Int), .slice oh hb.length ch, .bool true, .int .i64 0, .slice none 0 0] 101)) z := fun z e => let r := owns_isO hown e; ⟨r.2, r.1⟩
      have hKD : (W.alloc (.cells #[.bool true, .int .i64 0, .slice none 0 0, .bool false, .int .i64 (s : Int), .slice oh hb.length ch, .bool true, .int .i64 0, .slice none 0 0] 101)).heap[D]? = some (.deferred (some [])) := (Below.heap_alloc _ _ _ hDl).trans hK
      have hKa : wa.heap[D]? = some (.deferred (some [])) := (hg1.block D (by simp; omega) (fun e => by obtain ⟨c, hc⟩ := (hz1 D e.symm).2; rw [hKD] at hc; cases hc)).trans hKD
      have hfar : (lo ++ ([⟨syncO, none, 0⟩, ⟨⟨false, (s : Int), hb⟩, oh, ch⟩, ⟨syncO, none, 0⟩] : List LO)).Pairwise fun y z : LO => y.x.bytes ≠ [] → z.x.bytes ≠ [] → Apart y.a z.a := by
       refine List.pairwise_append.2 ⟨hS.far, by simp [syncO], fun x hx z hz n1 n2 b e1 e2 => ?_⟩
       have hzo : z.a = oh := by
        simp only [List.mem_cons, List.not_mem_nil, or_false] at hz
        rcases hz with rfl | rfl | rfl
        · exact absurd rfl n2
        · rfl
        · exact absurd rfl n2
       rw [hzo] at e2
       have := hoh b e2
       rcases hS.byt x hx with e | ⟨G, n, h1, h2, _⟩
       · exact n1 e
       ·
        rw [e1] at h1
        have := some_addr h1
        omega
      have hSO := hSa.more (ys := [⟨syncO, none, 0⟩, ⟨⟨false, (s : Int), hb⟩, oh, ch⟩, ⟨syncO, none, 0⟩]) (fun y hy => by
       simp only [List.mem_cons, List.not_mem_nil, or_false] at hy
       rcases hy with rfl | rfl | rfl
       · exact Or.inl rfl
       · exact hM.growO (gal (gre W) _)
       · exact Or.inl rfl) hfar (owns_le ho1 (by omega)) hg1
      have hKg := Kept.of_grown hg1
      have hBa := (gal hB (.cells #[.bool true, .int .i64 0, .slice none 0 0, .bool false, .int .i64 (s : Int), .slice oh hb.length ch, .bool true, .int .i64 0, .slice none 0 0] 101)).trans (hKg.below (B := w.heap.size) (by have := hB.size; simp; omega) (fun z hz e => by have := (hz1 z e).1; omega))
      have hKp := keptPut wa D (.deferred none)
      refine ⟨by simp, .inl ⟨_, _, rfl, run_takeDeferred hKa, ?_⟩⟩
      refine ⟨_, results_tmp rfl _ _ _, ?_⟩
      have hlm : lo.map LO.x = imgOps s im (nBlk im) := by rw [hlo'.out, preOps_range]
      have hlc : lo.length = nBlk im := by rw [← imgOps_len s im (nBlk im), ← hlm, List.length_map]
      refine ⟨some ⟨g1, 0, none⟩, cc1, _, ?_, ?_, hSO.kept hKp (fun z e _ => ⟨fun ⟨c, hc⟩ => (by subst e; rw [hKa] at hc; cases hc), fun ⟨c, hc⟩ => (by subst e; rw [hKa] at hc; cases hc)⟩), hBa.trans (hKp.below (B := w.heap.size) hBa.size (fun z hz e => by have := hB0.size; omega))⟩
      · rw [hLe.out, List.length_append, imgOps_len, ← hlc]; rfl
      · rw [List.map_append, hlm, hLe.out, hbe.out, hsm.out, hs.out]; simp [headO]
     case stop =>
      rintro D c pre W _ _ h _
      exact h.elim
  ·
   have hwz : (0 : Int) < (d.waiting.length : Int) := by have := List.length_pos_iff.2 hwt; omega
   have hz : d.ops im = [] := if_neg (fun h => hwt h.2.1)
   rw [hz]
   clear hok hz
   go_wp2_with (go_at_call 29; refine (implDiskOk_any d l _ hd (ha.grow hA0)).mono ?_; rintro e w1 ⟨rfl, hb1⟩; rw [hok'.out]; obtain ⟨_, y0, y1⟩ := hX0.grow hb1)
   refine ⟨_, results_tmp rfl _ _ _, ?_⟩
   exact OAns.no (gca hA0 hb1)
theorem okN_tag {n : Nat} {x : GN} (h : okN n x = true) : 0 ≤ x.tag ∧ x.tag ≤ 1000 := by
 unfold okN at h
 simp only [Bool.and_eq_true, decide_eq_true_eq, List.all_eq_true] at h
 exact ⟨h.1.1, h.1.2.1⟩
theorem wrap_nat {n : Nat} (h : n < 18446744073709551616) : IntKind.u64.wrap (n : Int) = (n : Int) := by rw [IntKind.wrap_u64]; omega
def gheadB (g : GG) : List Nat := [72, 49] ++ (numB g.nodes.length ++ valB g.root)
theorem graphB_head (g : GG) : graphB g = gheadB g ++ nodesB g.nodes := by simp [graphB, gheadB]
theorem OwnG.get {w : World} {base : Nat} {na : Option Addr} {nc : Nat} {nl : List NL} (h : OwnG w base na nc nl) {k : Nat} (hk : k < nl.length) :
  ∃ x G, Hid (x = nl[k]!) ∧ x ∈ nl ∧ na = some ⟨G, 0, none⟩ ∧ w.cell? ⟨G, k * 2, none⟩ = some (.int .i64 x.n.tag) ∧ w.cell? ⟨G, k * 2 + 1, none⟩ = some (.slice x.a x.n.vals.length x.cap) := by
 have hg : ∀ j, j < 2 → (nodeCells nl)[k * 2 + j]? = (nl[k]!.two)[j]? := fun j hj => flatMap_get NL.two_length nl k j hk hj
 obtain ⟨G, ha, _, _, c0⟩ := owns_cell h.nodes (hg 0 (by decide))
 obtain ⟨G1, ha1, _, _, c1⟩ := owns_cell h.nodes (hg 1 (by decide))
 rw [ha] at ha1
 obtain rfl := some_addr ha1
 exact ⟨nl[k]!, G, rfl, mem_at hk, ha, c0, c1⟩
theorem map_get {nl : List NL} {ns : List GN} (h : nl.map (·.n) = ns) {k : Nat} (hk : k < nl.length) : ns[k]! = (nl[k]!).n := by
 subst h
 rw [getElem!_pos _ k (by simpa using hk), getElem!_pos nl k hk]
 simp
theorem writeGraph_any (b a : Nat) (xs : List Nat) (g : GG) (na : Option Addr) (nc base : Nat) (nl : List NL) (w : World) (hW : Wr w b a xs) (hg : g.Ok) (hok : okG g = true) (hnl : Hid (nl.map (·.n) = g.nodes)) (hO : ∀ w', Kept (fun k => k = b ∨ k = a) w w' → OwnG w' base na nc nl) :
  Calls Tryz.prog 43 #[.pointer (some ⟨b, 0, none⟩), g.val na nc] w (WPost b a xs (graphB g) w) := by
 obtain ⟨hl300, hroot, hnodes⟩ := okG_parts hok
 have hF := Five.new_at w g.root (.slice na g.nodes.length nc) 32 w.heap.size rfl
 have hlt := hW.cur.lt
 have hla := hW.row.lt
 have hlen : nl.length = g.nodes.length := by rw [← hnl.out, List.length_map]
 have hgl : Hid (graphB g = gheadB g ++ nodesB g.nodes) := graphB_head g
 have hbH : bsOf ⟨#[72, 49]⟩ = [72, 49] := rfl
 have e6 := wrap_nat (n := g.nodes.length) (by omega)
 go_enter Tryz.func43, Tryz.ntmps43
 go_wp2_with (first
  | (go_at_call 81; refine (writeText_any b a xs ⟨#[72, 49]⟩ _ (hW.grow (gal (gre _) _)) (by decide)).mono ?_; rintro e w1 ⟨hK1, h1⟩; have hF1 := hF.kept hK1 (by omega); obtain ⟨fz, f0, f1, f2, f3, f4, ff⟩ := id hF1; rw [hbH] at h1; obtain ⟨hf, rfl, hW1⟩ | ⟨hno, rfl⟩ := h1)
  | (go_at_call 82; refine (writeNumber_any b a _ g.nodes.length _ _ hW1 ?_ (by omega)).mono ?_; (first | rfl | exact e6); rintro e w2 ⟨hK2, h2⟩; have hF2 := hF1.kept hK2 (by omega); obtain ⟨gz, g0, g1, g2, g3, g4, gf⟩ := id hF2; obtain ⟨hf2, rfl, hW2⟩ | ⟨hno2, rfl⟩ := h2)
  | (go_at_call 83; refine (writeVal_any b a g.nodes.length _ g.root _ hW2 hl300 hg.root hroot).mono ?_; rintro e w3 ⟨hK3, h3⟩; have hF3 := hF2.kept hK3 (by omega); obtain ⟨iz, i0, i1, i2, i3, i4, if_⟩ := id hF3; obtain ⟨hf3, rfl, hW3⟩ | ⟨hno3, rfl⟩ := h3))
 ·
  have hK30 : Kept (fun k => k = b ∨ k = a) w w3 := kt (kt (kt ((Kept.refl _ w).alloc _) hK1) hK2) hK3
  have hW3' : Wr w3 b a (xs ++ gheadB g) := by
   have e : xs ++ [72, 49] ++ numB g.nodes.length ++ valB g.root = xs ++ gheadB g := by unfold gheadB; simp only [List.append_assoc]
   rw [← e]; exact hW3
  clear hF hF1 hF2 hF3 fz f0 f1 f2 f3 f4 ff gz g0 g1 g2 g3 g4 gf iz i0 i1 i2 i3 i4 if_ hW1 hW2 hW3 hf hf2 hf3 hK1 hK2 hK3
  go_loopw [23] (fun i ws => ∃ (k : Nat), i = .int .i64 k ∧ k ≤ g.nodes.length ∧ Wr ws b a (xs ++ gheadB g ++ nodesB (g.nodes.take k)) ∧ Kept (fun k => k = b ∨ k = a) w ws) (fun i _ => g.nodes.length - (intOf i).toNat)
  case atStart => exact ⟨0, rfl, Nat.zero_le _, by rw [List.take_zero, nodesB, List.append_nil]; exact hW3', hK30⟩
  case round =>
   obtain ⟨k, rfl, hk, hWk, hKk⟩ := hrel
   by_cases hkl : k < g.nodes.length
   ·
    have hOk := hO wr hKk
    obtain ⟨⟨xn, xa, xc⟩, G, hx, hxm, rfl, c0, c1⟩ := hOk.get (k := k) (by omega)
    dsimp only at c0 c1
    have hxn : Hid (g.nodes[k]! = xn) := by show _ = _; rw [map_get hnl.out (by omega), ← hx.out]
    have hxok : okN g.nodes.length xn = true := by rw [← hxn.out]; exact hnodes _ (mem_at hkl)
    have hxg : xn.Ok := by rw [← hxn.out]; exact hg.nodes _ (mem_at hkl)
    obtain ⟨hvl, hvok⟩ := okN_parts hxok
    obtain ⟨ht0, ht1⟩ := okN_tag hxok
    obtain ⟨tg, htg⟩ : ∃ tg : Nat, xn.tag = (tg : Int) := ⟨xn.tag.toNat, by omega⟩
    have hnb : Hid (nodesB (g.nodes.take (k + 1)) = nodesB (g.nodes.take k) ++ (numB tg ++ (numB xn.vals.length ++ valsB xn.vals))) := by
     show _ = _
     rw [nodesB_take_succ _ _ hkl, hxn.out, nodeB, htg]; rfl
    have hnle : (nodesB (g.nodes.take (k + 1))).length ≤ (nodesB g.nodes).length := nodesB_take_le _ _
    rw [hnb.out] at hnle
    simp only [List.length_append] at hnle
    have hgl2 : (graphB g).length = (gheadB g).length + (nodesB g.nodes).length := by rw [hgl.out, List.length_append]
    rw [htg] at c0
    have hT := Two.new_at wr tg (.slice xa xn.vals.length xc) 37 wr.heap.size rfl
    have e7 := wrap_nat (n := tg) (by omega)
    have e8 := wrap_nat (n := xn.vals.length) (by omega)
    have hwb : b ≠ wr.heap.size := by have := hWk.cur.lt; omega
    have hwa : a ≠ wr.heap.size := by have := hWk.row.lt; omega
    have hnp : ¬ (wr.heap.size = b ∨ wr.heap.size = a) := by omega
    go_wp2_with (first
     | (go_at_call 82; refine (writeNumber_any b a _ xn.vals.length _ _ hW4 ?_ (by omega)).mono ?_; (first | rfl | exact e8); rintro e w5 ⟨hK5, h5⟩; obtain ⟨uz, u0, u1, uf, _⟩ := hT4.kept hK5 hnp; obtain ⟨hf5, rfl, hW5⟩ | ⟨hno5, rfl⟩ := h5)
     | (go_at_call 82; refine (writeNumber_any b a _ tg _ _ (hWk.grow (gal (gre _) _)) ?_ (by omega)).mono ?_; (first | rfl | exact e7); rintro e w4 ⟨hK4, h4⟩; have hT4 := hT.kept hK4 hnp; obtain ⟨tz, t0, t1, tf, _⟩ := id hT4; obtain ⟨hf4, rfl, hW4⟩ | ⟨hno4, rfl⟩ := h4))
    ·
     have hK50 : Kept (fun k => k = b ∨ k = a) w w5 := kt (kt (hKk.alloc _) hK4) hK5
     clear hT hT4 tz t0 t1 tf uz u0 u1 uf hK4 hK5 hW4 hf4 hf5
     go_loopw [41] (fun i ws => ∃ (m : Nat), i = .int .i64 m ∧ m ≤ xn.vals.length ∧ Wr ws b a (xs ++ gheadB g ++ nodesB (g.nodes.take k) ++ numB tg ++ numB xn.vals.length ++ valsB (xn.vals.take m)) ∧ Kept (fun k => k = b ∨ k = a) w ws) (fun i _ => xn.vals.length - (intOf i).toNat)
     case atStart => exact ⟨0, rfl, Nat.zero_le _, by rw [List.take_zero, valsB, List.append_nil]; exact hW5, hK50⟩
     case round =>
      obtain ⟨m, rfl, hm, hWm, hKm⟩ := hrel
      by_cases hml : m < xn.vals.length
      ·
       have hOm := hO wr hKm
       have hva := owns_vals (hOm.vals _ hxm) (Nat.le_refl _)
       obtain ⟨v, bv, ov, hvk, hvm, rfl, hbv, hvc⟩ := hva.get hml
       obtain ⟨d0, d1, d2, d3⟩ := hvc
       have hvb : Hid (valsB (xn.vals.take (m + 1)) = valsB (xn.vals.take m) ++ valB v) := by show _ = _; rw [valsB_take_succ _ _ hml, ← hvk.out]
       have hvle : (valsB (xn.vals.take (m + 1))).length ≤ (valsB xn.vals).length := valsB_take_le _ _
       rw [hvb.out, List.length_append] at hvle
       go_wp2_with (go_at_call 83; refine (writeVal_any b a g.nodes.length _ v _ (hWm.grow (gal (gre _) _)) hl300 (hxg.vals v hvm) (hvok v hvm)).mono ?_; rintro e w6 ⟨hK6, h6⟩; obtain ⟨hf6, rfl, hW6⟩ | ⟨hno6, rfl⟩ := h6)
       ·
        go_roundw
        case rel => exact ⟨m + 1, by go_num, by omega, by rw [hvb.out, ← List.append_assoc]; exact hW6, kt (hKm.alloc _) hK6⟩
        case measure => simp [intOf]; omega
       ·
        refine ⟨rfl, WPost.no (kt (hKm.alloc _) hK6) ?_⟩
        simp at hno6; omega
      ·
       obtain rfl : m = xn.vals.length := by omega
       go_wp2
       go_roundw
       case rel =>
        refine ⟨k + 1, by go_num, by omega, ?_, hKm⟩
        rw [List.take_length] at hWm
        rw [hnb.out]
        simp only [← List.append_assoc]
        exact hWm
       case measure => simp [intOf]; omega
    ·
     refine ⟨rfl, WPost.no (kt (kt (hKk.alloc _) hK4) hK5) ?_⟩
     simp at hno5; omega
    ·
     refine ⟨rfl, WPost.no (kt (hKk.alloc _) hK4) ?_⟩
     simp at hno4; omega
   ·
    obtain rfl : k = g.nodes.length := by omega
    go_wp2
    go_end0
    refine WPost.ok hKk ?_
    rw [List.take_length, List.append_assoc, ← hgl.out] at hWk
    exact hWk
 ·
  refine ⟨rfl, WPost.no (kt (kt (kt ((Kept.refl _ w).alloc _) hK1) hK2) hK3) ?_⟩
  rw [hgl.out]; simp [gheadB] at hno3 ⊢; omega
 ·
  refine ⟨rfl, WPost.no (kt (kt ((Kept.refl _ w).alloc _) hK1) hK2) ?_⟩
  rw [hgl.out]; simp [gheadB] at hno2 ⊢; omega
 ·
  refine ⟨rfl, WPost.no (kt ((Kept.refl _ w).alloc _) hK1) ?_⟩
  rw [hgl.out]; simp [gheadB] at hno ⊢; omega
def CanonNew (g : GG) (w : World) (e : Ending) (w' : World) : Prop :=
 ∃ na ncap, e = .returned ((canon g).val na ncap) ∧ (∀ p w'', Kept p w' w'' → (∀ b, p b → b < w.heap.size) → NodesAt w''.heap.size w'' na (canon g).nodes) ∧ Below w.heap.size w w'
theorem specCanon_new (a : Option Addr) (cap : Nat) (g : GG) (w : World) (hok : okG g = true) (ha : NodesAt w.heap.size w a g.nodes) :
  Calls Tryz.prog 61 #[g.val a cap] w (CanonNew g w) := by
 obtain ⟨hn, hroot, hnodes⟩ := okG_parts hok
 obtain ⟨i0, hi, hz0, hz1, hz2⟩ := info_parts info_int
 obtain ⟨j0, hj, hy0, hy1, hy2⟩ := info_parts info_implVal
 obtain ⟨m0, hm, hx0, hx1, hx2⟩ := info_parts info_implNode
 have hmk := fun u => run_make_row' (P := Tryz.prog) 165 3 (.int .i64 0) 8 Tryz.underlying165 info_int rfl .i64 .i64 g.nodes.length (by omega) (by omega) u
 go_enter Tryz.func61, Tryz.ntmps61
 go_wp2
 go_loopw [19] (fun i wr => ∃ k : Nat, k ≤ g.nodes.length ∧ i = .int .i64 k ∧ CStart g a cap w wr (fun i => if i < k then .int .i64 (-1) else .int .i64 0)) (fun i _ => g.nodes.length - (intOf i).toNat)
 case atStart =>
  refine ⟨0, Nat.zero_le _, rfl, ?_, ?_, ?_, ?_, ?_, ?_⟩
  · exact gal (gal (gal (gal (gre _) _) _) _) _
  · simp
  · exact (GBox.new w g a cap _).grow (gal (gal (gal (gre _) _) _) _)
  · exact (Five.new_at _ ⟨0, 0, .empty, 0⟩ _ _ _ (by simp)).kept (Kept.of_below (gal (gal (gre _) _) _) (fun _ => False)) (fun h => h)
  · exact (Five.new_at _ ⟨0, 0, .empty, 0⟩ _ _ _ (by simp)).kept (Kept.of_below (gal (gre _) _) (fun _ => False)) (fun h => h)
  · exact ⟨_, blk_new_at _ _ _ (by simp), size_madeCells _ _, fun i hi => by simp [madeCells, hi, Nat.mod_one]⟩
 case round =>
  obtain ⟨k, hk, rfl, hst⟩ := hrel
  by_cases hlt : k < g.nodes.length
  ·
   have d0 := hst.wher.cell hlt
   have df := hst.wher.frozen k
   rw [if_neg (by omega)] at d0
   go_wp2
   go_roundw
   case rel =>
    have h := hst.set k (.int .i64 (-1))
    refine ⟨k + 1, by omega, by go_num, h.low, h.base, h.box, h.res, h.out, h.wher.congr fun i _ => ?_⟩
    by_cases e : i = k
    · rw [if_pos e, if_pos (by omega)]
    ·
     rw [if_neg e]
     by_cases e2 : i < k
     · rw [if_pos e2, if_pos (by omega)]
     · rw [if_neg e2, if_neg (by omega)]
   case measure => simp [intOf]; omega
  ·
   have e : k = g.nodes.length := by omega
   subst e
   have hw0 := hst.wher.congr (g := fun i => .int .i64 (whereOf [] i)) (fun i hi => by rw [if_pos hi, whereOf_neg (by simp)])
   have b0 := hst.box.kind
   have b1 := hst.box.num
   have b2 := hst.box.text
   have b3 := hst.box.node
   go_wp2_with (go_at_call 100; refine (l1renamed_any (w.heap.size + 1 + 1 + 1 + 1) g.nodes.length [] g.root (w.heap.size + 1 + 1 + 1) none 0 _ hroot (InvO.nil _) hn (by omega) hst.base hw0 (World.ownsRow_nil _ _ _ _)).mono ?_; rintro e w1 ⟨oa, ocap, rfl, hw1, ho1, hoa, hK1⟩; obtain ⟨zo, o0, o1, o2, o3, o4, of⟩ := hst.out.kept hK1 (by simp))
   have hS := CState.start hst hw1 ho1 hK1
   clear hst hw0 b0 b1 b2 b3 hw1 ho1 hK1 zo o0 o1 o2 o3 o4 of hoa
   go_loopw [6, 7] (fun o i ws => ∃ (k : Nat) (ord : List Nat) (oa : Option Addr) (ocap : Nat) (na : Option Addr) (ncap : Nat) (nl : List NL), Hid (ord = canonO g.nodes (renOrd [] g.root) k) ∧ Hid (nl.map (·.n) = canonN g.nodes (renOrd [] g.root) k) ∧ Hid (nl.length = k) ∧ k ≤ ord.length ∧ i = .int .i64 k ∧ o = .slice oa ord.length ocap ∧ CState g a cap w ws ord oa ocap na ncap nl) (fun _ i _ => g.nodes.length - (intOf i).toNat)
   case atStart => exact ⟨0, _, oa, ocap, none, 0, [], by unfold canonO; rfl, by unfold canonN; rfl, rfl, Nat.zero_le _, rfl, rfl, hS⟩
   case round =>
    clear hS
    rename World => wo
    obtain ⟨k, ord, oa, ocap, na, ncap, nl, hord, hnl, hnk, hkl, rfl, rfl, hS⟩ := hrel
    have hinv : InvO g.nodes.length ord := by rw [hord.out]; exact canonO_inv ((InvO.nil _).ren hroot) hnodes k
    have hol := hinv.le
    by_cases hlt : k < ord.length
    ·
     obtain ⟨x, hx⟩ : ∃ x, Hid (x = ord[k]!) := ⟨_, rfl⟩
     have hxn : x < g.nodes.length := by rw [hx.out]; exact hinv.2 _ (mem_at hlt)
     obtain ⟨og, rfl, hog1, hog2, hoc⟩ := owns_cell hS.ordr (ints_get hlt)
     rw [← hx.out] at hoc
     obtain ⟨n, b, off, av, cv, hnx, hnm, rfl, hbs, hva⟩ := ha.get hxn
     have hva := hva.below hS.low hbs
     have c0 := hva.tag
     have c1 := hva.sl
     have hv1 : ValsAt w.heap.size wo av n.vals := hva.vals
     have hwo := hS.low.size
     have hbx := hS.box.sl
     have hbl := hS.box.lt
     have hbb : b < wo.heap.size := Nat.lt_of_lt_of_le hbs hS.low.size
     have i0' : (0 : Int) ≤ (k : Int) := by omega
     have i1' : (k : Int) < (ord.length : Int) := by omega
     have i2' : (0 : Int) ≤ (x : Int) := by omega
     have i3' : (x : Int) < (g.nodes.length : Int) := by omega
     have ne1 := World.new_ne wo _ hoc
     have ne2 := World.new_ne wo _ c0
     have ne3 := World.new_ne wo _ c1
     have ne4 := World.new_ne wo _ hbx
     go_wp2
     go_region_held3 (fun u => u.cell? ⟨w.heap.size, 4, none⟩ = some (.slice (some ⟨b, off, none⟩) g.nodes.length cap) ∧ u.cell? ⟨og, k, none⟩ = some (.int .i64 (x : Int)) ∧ u.cell? ⟨b, off + x * 2, none⟩ = some (.int .i64 n.tag) ∧ u.cell? ⟨b, off + x * 2 + 1, none⟩ = some (.slice av n.vals.length cv)) (go_keep) (fail)
     go_wp2_with fail
     have hD := DState.start hS n (.slice av n.vals.length cv)
     have hnok := okN_parts (hnodes n hnm)
     have hvl := hnok.1
     clear ne1 ne2 ne3 ne4 hoc c0 c1 hbx
     go_loopw [6, 55] (fun o i ws => ∃ (j : Nat) (ord' : List Nat) (oa' : Option Addr) (ocap' : Nat) (xa : Option Addr) (xcap : Nat) (vs : List GV), Hid (ord' = renOrds ord (n.vals.take j)) ∧ Hid (vs = renVals ord (n.vals.take j)) ∧ Hid (vs.length = j) ∧ j ≤ n.vals.length ∧ i = .int .i64 j ∧ o = .slice oa' ord'.length ocap' ∧ DState g w wo ws n ord' (some ⟨og, 0, none⟩) oa' ocap' xa xcap vs) (fun _ i _ => n.vals.length - (intOf i).toNat)
     case atStart => exact ⟨0, ord, _, ocap, none, 0, [], rfl, rfl, rfl, Nat.zero_le _, rfl, rfl, hD⟩
     case round =>
      clear hD
      obtain ⟨j, ord', oa', ocap', xa, xcap, vs, hord', hvs, hvsl, hjle, rfl, rfl, hD⟩ := hrel
      have hz := hD.size
      have hb2 : Below w.heap.size wo wr := hD.kept.below hwo (fun k hk hp => by
       rcases hp with hp | hp
       · omega
       ·
        have e := congrArg (fun q => q.map Addr.block) hp
        simp only [Option.map_some, Option.some.injEq] at e
        omega)
      by_cases hjl : j < n.vals.length
      ·
       obtain ⟨v, bb, oo, hvj, hvm, rfl, hbs2, hva2⟩ := (hv1.below hb2).get hjl
       have q0 := hva2.kind
       have q1 := hva2.num
       have q2 := hva2.text
       have q3 := hva2.node
       have hb3 : w.heap.size ≤ wr.heap.size := Nat.le_trans hwo hb2.size
       have hbl2 : bb < wr.heap.size := by omega
       have hinv' : InvO g.nodes.length ord' := by rw [hord'.out]; exact hinv.rens (fun v hv => hnok.2 v (List.mem_of_mem_take hv))
       have hvok := hnok.2 v hvm
       have hbase : w.heap.size + 1 + 1 + 1 + 1 ≤ wr.heap.size := by have := hS.base; omega
       have hog0 : ∀ b, (some (⟨og, 0, none⟩ : Addr)) = some ⟨b, 0, none⟩ → b < wo.heap.size := fun b hb => by
        have e := congrArg (fun q => q.map Addr.block) hb
        simp only [Option.map_some, Option.some.injEq] at e
        omega
       have hlo := hS.base
       go_wp2_with (first
        | (go_at_call 100; refine (l1renamed_any (w.heap.size + 1 + 1 + 1 + 1) g.nodes.length ord' v (w.heap.size + 1 + 1 + 1) oa' ocap' _ hvok hinv' hn (by omega) (by simp; omega) ((hD.wher.alloc _).alloc _) ((hD.ordr.alloc _).alloc _)).mono ?_; rintro e w2 ⟨oa2, ocap2, rfl, hw2, ho2, hoa2, hK2⟩; obtain ⟨hy, hx2, hv2⟩ := hD.mid hlo hog0 hK2; obtain ⟨yz, y0, y1, y2, y3, yf⟩ := hy; obtain ⟨xz, x0, x1, xf⟩ := id hx2)
        | (at_builtin; go_must (refine wpList_append_lies _ rfl (.tmp 67) (.tmp 69) 35 rfl (wo.heap.size + 1 + 1) 29 j0 _ 4 40 Tryz.underlying35 hj hy0 hy1 hy2 rfl (by decide) (.slice xa vs.length xcap) vs.length (valCells vs) rfl (((Kept.put4 w2 (wr.heap.size + 1) (renVal ord' v)).owns hv2 (fun k hk hp => by have h9 := hv2.lt k hk; have h8 := (hD.far hlo hog0).2 k (owns_addr hv2 hk); omega)).alloc _) ⟨w2.heap.size, 0, none⟩ 1 1 (renVal ord' v).four rfl rfl (World.news_of_block (cs := #[.int .i64 (renVal ord' v).kind, .int .i64 (renVal ord' v).num, .string (renVal ord' v).text, .int .i64 (renVal ord' v).node]) (t := 29) (fr := (0, 0)) (blk_new_at _ _ _ (by simp))) (by simp [GV.four, Value.oneCell']) (by decide) (by have h7 := hvsl.out; unfold maxLen; omega) (by have h7 := hvsl.out; omega) (by simp; omega) (w2.heap.size + 1) (by simp) ?_); intro gg cc w3 hown3 hgrow3 hat3 hlt3; obtain ⟨tz, t0, t1, tf⟩ := (hx2.kept ((Kept.put4 w2 (wr.heap.size + 1) (renVal ord' v)).alloc _) (by omega)).kept (Kept.of_grown hgrow3) (fun hp => by have h8 := (hD.far hlo hog0).2 _ (owns_addr hv2 hp); omega)))
       have hfin := hD.step hlo hog0 v hw2 ho2 hoa2 hK2 hown3 hgrow3 hat3
       have hs1 : Hid (renOrds ord (n.vals.take (j + 1)) = renOrd ord' v) := by rw [renOrds_take_succ _ _ _ hjl, ← hvj.out, ← hord'.out]; rfl
       have hs2 : Hid (renVals ord (n.vals.take (j + 1)) = vs ++ [renVal ord' v]) := by rw [renVals_take_succ _ _ _ hjl, ← hvj.out, ← hord'.out, ← hvs.out]; rfl
       go_roundw
       case rel => exact ⟨j + 1, renOrd ord' v, oa2, ocap2, some ⟨gg, 0, none⟩, cc, vs ++ [renVal ord' v], hs1.out.symm, hs2.out.symm, by have := hvsl.out; show (vs ++ [renVal ord' v]).length = j + 1; simp [this], by omega, by go_num, rfl, hfin⟩
       case measure => simp [intOf]; omega
      ·
       have e : j = n.vals.length := by omega
       have hf1 : Hid (canonO g.nodes (renOrd [] g.root) (k + 1) = ord') := by
        rw [canonO_succ, ← hord.out, if_pos hlt, ← hx.out, ← hnx.out]
        rw [hord'.out, e, List.take_length]; rfl
       have hf2 : Hid (canonN g.nodes (renOrd [] g.root) (k + 1) = nl.map (·.n) ++ [⟨n.tag, vs⟩]) := by
        rw [canonN_succ, ← hord.out, if_pos hlt, ← hx.out, ← hnx.out, ← hnl.out]
        rw [hvs.out, e, List.take_length]; rfl
       have hf3 : ord.length ≤ ord'.length := by
        rw [hord'.out]; exact renOrds_le ord _
       obtain ⟨hout, hnr⟩ := hS.seen hD
       obtain ⟨oz, o0, o1, o2, o3, o4, ofr⟩ := id hout
       obtain ⟨xz, x0, x1, xf⟩ := hD.x
       have hlo := hS.base
       go_wp2_with (at_builtin; go_must (refine wpList_append_lies _ rfl (.tmp 74) (.tmp 76) 30 rfl (w.heap.size + 1 + 1 + 1 + 1) 37 m0 _ 2 32 Tryz.underlying30 hm hx0 hx1 hx2 rfl (by decide) (.slice na nl.length ncap) nl.length (nodeCells nl) rfl (hnr.alloc _) ⟨wr.heap.size, 0, none⟩ 1 1 [.int .i64 n.tag, .slice xa vs.length xcap] rfl rfl (World.news_of_block (cs := #[.int .i64 n.tag, .slice xa vs.length xcap]) (t := 37) (fr := (0, 0)) (blk_new_at _ _ _ (by simp))) (by simp [Value.oneCell']) (by decide) (by have h7 := hnk.out; unfold maxLen; omega) (by have h7 := hnk.out; omega) (by simp; omega) (wr.heap.size + 1) (by simp) ?_); intro gg cc w3 hown3 hgrow3 hat3 hlt3; obtain ⟨tz, t0, t1, t2, t3, t4, tf⟩ := (hout.kept ((Kept.refl (fun _ => False) wr).alloc _) (fun e => e)).kept (Kept.of_grown hgrow3) (fun hp => by have h8 := (hnr.lt _ hp).1; omega))
       have hfin := hS.next hD hown3 hgrow3 hat3
       go_roundw
       case rel => exact ⟨k + 1, ord', oa', ocap', some ⟨gg, 0, none⟩, cc, nl ++ [⟨⟨n.tag, vs⟩, xa, xcap⟩], hf1.out.symm, by rw [hf2.out]; simp [Hid], by have := hnk.out; show (nl ++ [_]).length = k + 1; simp [this], by omega, by go_num, rfl, hfin⟩
       case measure => simp [intOf]; omega
    ·
     have e : ord.length = k := by omega
     have hc : Hid (canon g = ⟨renVal [] g.root, nl.map (·.n)⟩) := by
      rw [hnl.out]
      exact canon_at (by omega) (by rw [← hord.out]; omega)
     obtain ⟨oz, o0, o1, o2, o3, o4, ofr⟩ := hS.out
     obtain ⟨rz, r0, r1, r2, r3, r4, rfr⟩ := hS.res
     have hlow := hS.low
     have hC : Kept (fun k => k = w.heap.size + 1) wo (((((wo.setCell ⟨w.heap.size + 1, 0, none⟩ (.int .i64 (renVal [] g.root).kind)).setCell ⟨w.heap.size + 1, 1, none⟩ (.int .i64 (renVal [] g.root).num)).setCell ⟨w.heap.size + 1, 2, none⟩ (.string (renVal [] g.root).text)).setCell ⟨w.heap.size + 1, 3, none⟩ (.int .i64 (renVal [] g.root).node)).setCell ⟨w.heap.size + 1, 4, none⟩ (.slice na nl.length ncap)) :=
      (Kept.put4 wo (w.heap.size + 1) (renVal [] g.root)).set (fun _ => rfl) _
     have hN : ∀ p w'', Kept p (((((wo.setCell ⟨w.heap.size + 1, 0, none⟩ (.int .i64 (renVal [] g.root).kind)).setCell ⟨w.heap.size + 1, 1, none⟩ (.int .i64 (renVal [] g.root).num)).setCell ⟨w.heap.size + 1, 2, none⟩ (.string (renVal [] g.root).text)).setCell ⟨w.heap.size + 1, 3, none⟩ (.int .i64 (renVal [] g.root).node)).setCell ⟨w.heap.size + 1, 4, none⟩ (.slice na nl.length ncap)) w'' → (∀ b, p b → b < w.heap.size) → NodesAt w''.heap.size w'' na (nl.map (·.n)) := fun p w'' hk hp => owns_nodes (hk.owns (hC.owns hS.nodes (fun k hk hp => by have := (hS.nodes.lt k hk).1; omega)) (fun k hk hpk => by have h8 := hp k hpk; have := (hS.nodes.lt k hk).1; omega)) (fun x hx => owns_vals (hk.owns (hC.owns (hS.vals x hx) (fun k hk hp => by have := ((hS.vals x hx).lt k hk).1; omega)) (fun k hk hpk => by have h8 := hp k hpk; have := ((hS.vals x hx).lt k hk).1; omega)) (Nat.le_refl _))
     have hlow2 := hlow.trans (hC.below hlow.size (fun k hk hp => by omega))
     have hlen : Hid ((canon g).val na ncap = .agg #[.int .i64 (renVal [] g.root).kind, .int .i64 (renVal [] g.root).num, .string (renVal [] g.root).text, .int .i64 (renVal [] g.root).node, .slice na nl.length ncap]) := by
      rw [hc.out]; simp [Hid]
     have hN2 : Hid (canon g = ⟨renVal [] g.root, nl.map (·.n)⟩) := hc
     clear e
     go_wp2
     exact bodyPost_ret (v := .agg #[.int .i64 (renVal [] g.root).kind, .int .i64 (renVal [] g.root).num, .string (renVal [] g.root).text, .int .i64 (renVal [] g.root).node, .slice na nl.length ncap]) (by simp [results, Tryz.results61, go_sem, r0, r1, r2, r3, r4]) rfl
      ⟨na, ncap, by rw [hlen.out], by rw [hN2.out]; exact hN, hlow2⟩
theorem specCanon_any (a : Option Addr) (cap : Nat) (g : GG) (w : World) (hok : okG g = true) (ha : NodesAt w.heap.size w a g.nodes) :
  Calls Tryz.prog 61 #[g.val a cap] w (CanonPost g w) := by
 refine (specCanon_new a cap g w hok ha).mono ?_
 rintro e w' ⟨na, nc, rfl, hn, hb⟩
 exact ⟨na, nc, rfl, hn (fun _ => False) w' (Kept.refl _ _) (fun _ e => e.elim), hb⟩
end Go.Proofs.YtmdpmdmilgbfiaaGreatDoor
