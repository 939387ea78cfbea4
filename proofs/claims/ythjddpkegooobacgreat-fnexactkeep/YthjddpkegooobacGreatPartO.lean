import Derived.Deep.Cut
import Derived.Test.YthjddpkegooobacGreatPartN

/-
  SOPS: the specification's ops. Own work.
-/
namespace Go.Proofs.YthjddpkegooobacGreat
open Go.RowKit

set_option maxHeartbeats 8000000 in
set_option maxRecDepth 100000 in
theorem l4ops_any (d : DD) (l : DL) (ia : Option Addr) (im : List Nat) (ic : Nat) (w : World) (hf : d.Fit) (ho : d.Ok) (ha : DAt w l d) (hia : BytesAt w ia im) (hib : ∀ x, x ∈ im → x < 256) (hil : im.length ≤ 4096) :
    Calls Tryz.prog 44 #[d.val l, .slice ia im.length ic] w (OAns (d.lay im) w) := by
  have hX0 := DBox.new w d l 35
  have hA0 := gal (gre w) (.cells #[.slice l.ba d.blocks.length l.bc, .slice l.wa d.waiting.length l.wc] 35)
  obtain ⟨k, hk⟩ := hid_ex d.newestOf
  have hr : k.Rng := by rw [hk.out]; exact newest_rng hf
  obtain ⟨hg0, hg1⟩ := hr.g
  obtain ⟨s, hs⟩ := hid_ex k.other
  have hs2 : s < 2 := by rw [hs.out]; exact k.other_lt
  obtain ⟨i0, hi, hz0, hz1, hz2⟩ := info_parts info_u8
  obtain ⟨M, hM⟩ := hid_ex (madeCells #[Value.int .u8 0] 64)
  have hmk : ∀ u : World, (Instr.makeSlice 52 (.int .i64 64) (.int .i64 64)).run Tryz.prog u = .ok (.slice (some ⟨u.heap.size, 0, none⟩) 64 64) (u.alloc (.cells M 5)) := fun u => by
    have h := run_make (P := Tryz.prog) u 52 5 i0 _ Tryz.underlying52 hi hz0 .i64 .i64 64 64 (by omega) (Int.le_refl _) (by rw [hz2]; omega) (by omega)
    rw [hM.out]
    simpa [hz1, Value.cells] using h
  have hways : (k.ok = false ∧ s = 0) ∨ (k.ok = true ∧ k.slot = 0 ∧ s = 1) ∨ (k.ok = true ∧ k.slot = 1 ∧ s = 0) := by
    rw [hs.out]
    cases e : k.ok with
    | false => exact Or.inl ⟨rfl, if_neg (fun h => by rw [e] at h; cases h.1)⟩
    | true =>
      rcases hr.s e with h | h
      · exact Or.inr (Or.inl ⟨rfl, h, if_pos ⟨e, h⟩⟩)
      · exact Or.inr (Or.inr ⟨rfl, h, if_neg (fun h2 => by rw [h] at h2; cases h2.2)⟩)
  obtain ⟨L, hL⟩ := hid_ex (d.lay im)
  rw [← hL.out]
  have hlay : Hid (L = if k.gen = 1000000000000 then [] else imgOps s im (nBlk im) ++ [syncO, headO k im, syncO]) := by show _ = _; rw [hL.out, hs.out, hk.out]; rfl
  go_enter Tryz.func44, Tryz.ntmps44
  go_upto_region 3 with (go_at_call 79; refine (l4newest_any d l _ hf ho (ha.grow hA0)).mono ?_; rw [← hk.out]; rintro e w1 ⟨oa1, c1, rfl, hB1, hn1, hb1⟩)
  have hV := V4.new_at w1 (.bool k.ok) (.int .i64 k.gen) (.int .i64 k.slot) (.slice oa1 k.bytes.length c1) 87 w1.heap.size rfl
  have hBV := gal (gca hA0 hb1) (.cells #[.bool k.ok, .int .i64 k.gen, .int .i64 k.slot, .slice oa1 k.bytes.length c1] 87)
  generalize w1.alloc (.cells #[.bool k.ok, .int .i64 k.gen, .int .i64 k.slot, .slice oa1 k.bytes.length c1] 87) = wV at hV hBV ⊢
  generalize w1.heap.size = R at hV ⊢
  clear hB1 hn1 hb1 hX0 hA0
  obtain ⟨_, q0, q1, q2, q3, qf⟩ := id hV
  obtain ⟨tb, htb⟩ := hid_ex (decide (s = 1))
  go_cut [20] from 14 (fun t wc => t = .bool tb ∧ wc = wV)
  case first =>
    rcases hways with ⟨k1, e1⟩ | ⟨k1, k2, e1⟩ | ⟨k1, k2, e1⟩
    · rw [k1] at q0
      go_wp2
      go_meet
      case rel => exact ⟨by rw [htb.out, e1]; rfl, rfl⟩
    · rw [k1] at q0
      rw [k2] at q2
      go_wp2
      go_meet
      case rel => exact ⟨by rw [htb.out, e1]; rfl, rfl⟩
    · rw [k1] at q0
      rw [k2] at q2
      go_wp2
      go_meet
      case rel => exact ⟨by rw [htb.out, e1]; rfl, rfl⟩
  case rest =>
    obtain ⟨rfl, hwc⟩ := hcut; obtain rfl := hwc.symm
    go_upto_if 20 with fail
    go_cut [6] from 14 (fun v wc => v = .int .i64 (s : Int) ∧ wc = wV)
    case first =>
      cases tb with
      | true =>
        have e1 : s = 1 := by simpa using htb.out.symm
        go_wp2
        go_meet
        case rel => exact ⟨by rw [e1]; rfl, rfl⟩
      | false =>
        have e1 : s = 0 := by have : s ≠ 1 := by simpa using htb.out.symm
                              omega
        go_wp2
        go_meet
        case rel => exact ⟨by rw [e1]; rfl, rfl⟩
    case rest =>
      obtain ⟨rfl, hwc⟩ := hcut; obtain rfl := hwc.symm
      clear hways htb
      by_cases hmax : k.gen = 1000000000000
      · have hLn : L = [] := by rw [hlay.out, if_pos hmax]
        have hmx : (k.gen == 1000000000000) = true := by rw [hmax]; rfl
        subst hLn
        go_wp2
        go_ret
        exact OAns.no hBV
      · have hLe : Hid (L = imgOps s im (nBlk im) ++ [syncO, headO k im, syncO]) := by show _ = _; rw [hlay.out, if_neg hmax]
        have hmx : (k.gen == 1000000000000) = false := by simp [hmax]
        clear hL hlay
        obtain ⟨j0, hj, hy0, hy1, hy2⟩ := info_parts info_implOp
        obtain ⟨bV, hbV⟩ := hid_ex wV.heap.size
        have hRV : R < bV := by rw [hbV.out]; exact hV.lt
        have hwV : w.heap.size ≤ bV := by rw [hbV.out]; exact hBV.size
        have hbV0 : bV ≤ wV.heap.size := by rw [hbV.out]; exact Nat.le_refl _
        go_wp2
        go_loopw [7, 8] (fun o a wr => ∃ (j : Nat) (oa : Option Addr) (oc : Nat) (lo : List LO), j ≤ nBlk im ∧ a = .int .i64 ((64 * j : Nat) : Int) ∧ o = .slice oa lo.length oc ∧ Hid (lo.map LO.x = imgOps s im j) ∧ SO bV wr oa oc lo ∧ V4 wr R (.bool k.ok) (.int .i64 k.gen) (.int .i64 k.slot) (.slice oa1 k.bytes.length c1) ∧ Below w.heap.size w wr ∧ bV ≤ wr.heap.size) (fun _ a _ => im.length + 64 - (intOf a).toNat)
        case atStart => exact ⟨0, none, 0, [], Nat.zero_le _, rfl, rfl, rfl, SO.nil _ _, hV, hBV, hbV0⟩
        case round =>
          obtain ⟨j, oa, oc, lo, hjn, rfl, rfl, hlo, hSO, hVr, hBr, hbr⟩ := hrel
          have hll : Hid (lo.length = j) := by show _ = _; have := congrArg List.length hlo.out; rw [List.length_map, imgOps_len] at this; exact this
          obtain ⟨p, hp⟩ := hid_ex (64 * j)
          rw [← hp.out]
          by_cases hlt : j < nBlk im
          · have hpl : (p : Int) < (im.length : Int) := by have := nBlk_lt.1 hlt; have := hp.out; omega
            have hZ0 := zrow_made wr M hM.out
            have hBm := gal (gre wr) (.cells M 5)
            obtain ⟨cu, hcu⟩ := hid_ex (cutOf im j)
            have hcl : Hid (cu.length = min 64 (im.length - p)) := by show _ = _; rw [hcu.out, hp.out]; exact cut_len im j
            go_wp2
            generalize wr.alloc (.cells M 5) = wB at hZ0 hBm ⊢
            obtain ⟨Bb, hBb⟩ := hid_ex wr.heap.size
            rw [← hBb.out] at hZ0 ⊢
            go_loopw [10] (fun i wi => ∃ t : Nat, t ≤ cu.length ∧ i = .int .i64 ((p + t : Nat) : Int) ∧ ZRow wi Bb 64 (cu.take t) ∧ Kept (fun z => z = Bb) wB wi) (fun i _ => p + 64 - (intOf i).toNat)
            case atStart => exact ⟨0, Nat.zero_le _, rfl, hZ0, Kept.refl _ _⟩
            case round =>
              obtain ⟨t, ht, rfl, hZ, hK⟩ := hrel
              obtain ⟨q, hq⟩ := hid_ex (p + t)
              rw [← hq.out]
              have hBi : Below w.heap.size w wr := (gca hBr hBm).trans (hK.below (B := w.heap.size) (gca hBr hBm).size (fun z hz e => by have := hBb.out; have := hBr.size; omega))
              have htl : Hid ((cu.take t).length = t) := by show _ = _; rw [List.length_take]; omega
              by_cases hlt2 : t < cu.length
              · have hc1 := hcl.out
                have hq1 := hq.out
                have w1' : (q : Int) < (im.length : Int) := by omega
                have w2' : (q : Int) < (p : Int) + 64 := by omega
                have w3' : (0 : Int) ≤ (q : Int) := by omega
                have hsub : (q : Int) - (p : Int) = (t : Int) := by omega
                have w4' : (0 : Int) ≤ (t : Int) := by omega
                have w5' : (t : Int) < 64 := by omega
                obtain ⟨x, b, off, hxk, hxm, hie, hc⟩ := (hia.grow hBi).get (k := q) (by omega)
                have d0 := hZ.2.cell (i := t) (by omega)
                have fz := hZ.2.frozen
                rw [hie]
                have hst : cu.take (t + 1) = cu.take t ++ [x] := by rw [take_snoc _ _ hlt2, hxk.out, hq.out, hcu.out, hp.out]; rw [hcu.out] at hlt2; rw [(cut_get hlt2).2.2]
                have hZp := hZ.push (by rw [htl.out]; omega) x
                rw [htl.out, ← hst] at hZp
                clear hc1 hq1
                go_wp2
                go_roundw
                case rel => exact ⟨t + 1, by omega, by rw [show p + (t + 1) = q + 1 by have := hq.out; omega]; go_num, hZp, hK.set (fun _ => rfl) _⟩
                case measure => simp [intOf]; have := hq.out; omega
              · have hte : t = cu.length := by omega
                subst hte
                rw [List.take_length] at hZ
                obtain ⟨bl, hbl⟩ := hid_ex (blkOf im j)
                have hble : cu ++ List.replicate (64 - cu.length) 0 = bl := by rw [hbl.out, hcu.out]; rfl
                have hcu64 : cu.length ≤ 64 := by rw [hcu.out]; exact cutOf_len im j
                have hfull : BRow wr Bb 64 bl := by rw [← hble]; exact hZ.full (n := 64 - cu.length) (Nat.add_sub_cancel' hcu64)
                have hbll : Hid (bl.length = 64) := by show _ = _; rw [hbl.out]; exact blkOf_len im j
                have hBoi := hBm.trans (hK.below (B := _) hBm.size (fun z hz e => by have := hBb.out; omega))
                have hSi := hSO.grow hBoi
                have hVi := hVr.grow hBoi
                have hq64 : (p : Int) / 64 = (j : Int) := by have := hp.out; omega
                obtain ⟨F, hF⟩ := hid_ex (firstOf s + j)
                have hF' : ((firstOf s : Nat) : Int) + (j : Int) = (F : Int) := by rw [hF.out]; omega
                have hFl : F ≤ 200 := by rw [hF.out]; exact first_le hs2 (Nat.le_of_lt (Nat.lt_of_lt_of_le hlt (nBlk_le hil)))
                have hFw := wrapV hFl
                have hends : ¬ ((q : Int) < (im.length : Int)) ∨ ((q : Int) < (im.length : Int) ∧ ¬ ((q : Int) < (p : Int) + 64)) := by have := hcl.out; have := hq.out; omega
                have hbri : bV ≤ wr.heap.size := by have := hK.size; have := hBm.size; omega
                have hlj : lo.length ≤ 64 := by rw [hll.out]; exact Nat.le_of_lt (Nat.lt_of_lt_of_le hlt (nBlk_le hil))
                rcases hends with w1' | ⟨w1', w2'⟩
                · go_wp2_with (first
                    | (go_at_call 80; refine (l4first_any s _ hs2).mono ?_; rintro e wl ⟨rfl, hbl1⟩; have hSl := hSi.grow hbl1; have hsl := hbl1.size)
                    | (at_builtin; refine wpList_append_lies _ rfl (.tmp 53) (.tmp 61) 54 rfl bV 98 j0 _ 3 40 Tryz.underlying54 hj hy0 hy1 hy2 rfl (by decide) _ _ _ rfl (hSl.own.alloc _) ⟨wl.heap.size, 0, none⟩ 1 1 [.bool false, .int .i64 (F : Int), .slice (some ⟨Bb, 0, none⟩) 64 64] rfl rfl (World.news_of_block (cs := #[.bool false, .int .i64 (F : Int), .slice (some ⟨Bb, 0, none⟩) 64 64]) (t := 98) (fr := (0, 0)) (blk_new_at _ _ _ (by simp))) (by simp [Value.oneCell']) (by decide) (by unfold maxLen; omega) (by omega) (by simp; omega) (wl.heap.size + 1) (by simp) ?_; intro g1 cc1 wa ho1 hg1 _ _))
                  have hSm := hSl.grow (gal (gre wl) (.cells #[.bool false, .int .i64 (F : Int), .slice (some ⟨Bb, 0, none⟩) 64 64] 98))
                  have hfu := hfull.kept (Kept.of_below (gca hbl1 (gal (gre wl) (.cells #[.bool false, .int .i64 (F : Int), .slice (some ⟨Bb, 0, none⟩) 64 64] 98))) (fun _ => False)) (fun e => e)
                  have hSO1 := hSm.more (ys := [⟨⟨false, (F : Int), bl⟩, some ⟨Bb, 0, none⟩, 64⟩]) (fun y hy => by rw [List.mem_singleton.1 hy]; exact Or.inr ⟨Bb, 64, rfl, by have := hBb.out; omega, hfu⟩) (hSO.far1 (fun b _ e => by have := some_addr e; have := hBb.out; omega)) (by simp only [oCells, LO.three, List.flatMap_cons, List.flatMap_nil, List.append_nil, hbll.out]; exact ho1) hg1
                  have hz1' : ∀ z, (Value.slice oa lo.length oc).ownBlock = some z → bV ≤ z := fun z e => (owns_isO hSm.own e).2
                  have hKa := Kept.of_grown hg1
                  have hVa := (hVi.grow (gca hbl1 (gal (gre wl) (.cells #[.bool false, .int .i64 (F : Int), .slice (some ⟨Bb, 0, none⟩) 64 64] 98)))).kept hKa (fun e => by have := hz1' _ e; omega)
                  have hBa := (gal (gca hBi hbl1) (.cells #[.bool false, .int .i64 (F : Int), .slice (some ⟨Bb, 0, none⟩) 64 64] 98)).trans (hKa.below (B := w.heap.size) (by have := hBi.size; simp; omega) (fun z hz e => by have := hz1' z e; omega))
                  have hsa : bV ≤ wa.heap.size := by have := hKa.size; simp at this; omega
                  go_roundw
                  case rel => exact ⟨j + 1, _, _, _, by omega, by have := hp.out; rw [show 64 * (j + 1) = p + 64 by omega]; go_num, by rw [List.length_append]; rfl, by show _ = _; rw [List.map_append, hlo.out, imgOps_succ, hF.out, hbl.out]; rfl, hSO1, hVa, hBa, hsa⟩
                  case measure => simp [intOf]; omega
                · go_wp2_with (first
                    | (go_at_call 80; refine (l4first_any s _ hs2).mono ?_; rintro e wl ⟨rfl, hbl1⟩; have hSl := hSi.grow hbl1; have hsl := hbl1.size)
                    | (at_builtin; refine wpList_append_lies _ rfl (.tmp 53) (.tmp 61) 54 rfl bV 98 j0 _ 3 40 Tryz.underlying54 hj hy0 hy1 hy2 rfl (by decide) _ _ _ rfl (hSl.own.alloc _) ⟨wl.heap.size, 0, none⟩ 1 1 [.bool false, .int .i64 (F : Int), .slice (some ⟨Bb, 0, none⟩) 64 64] rfl rfl (World.news_of_block (cs := #[.bool false, .int .i64 (F : Int), .slice (some ⟨Bb, 0, none⟩) 64 64]) (t := 98) (fr := (0, 0)) (blk_new_at _ _ _ (by simp))) (by simp [Value.oneCell']) (by decide) (by unfold maxLen; omega) (by omega) (by simp; omega) (wl.heap.size + 1) (by simp) ?_; intro g1 cc1 wa ho1 hg1 _ _))
                  have hSm := hSl.grow (gal (gre wl) (.cells #[.bool false, .int .i64 (F : Int), .slice (some ⟨Bb, 0, none⟩) 64 64] 98))
                  have hfu := hfull.kept (Kept.of_below (gca hbl1 (gal (gre wl) (.cells #[.bool false, .int .i64 (F : Int), .slice (some ⟨Bb, 0, none⟩) 64 64] 98))) (fun _ => False)) (fun e => e)
                  have hSO1 := hSm.more (ys := [⟨⟨false, (F : Int), bl⟩, some ⟨Bb, 0, none⟩, 64⟩]) (fun y hy => by rw [List.mem_singleton.1 hy]; exact Or.inr ⟨Bb, 64, rfl, by have := hBb.out; omega, hfu⟩) (hSO.far1 (fun b _ e => by have := some_addr e; have := hBb.out; omega)) (by simp only [oCells, LO.three, List.flatMap_cons, List.flatMap_nil, List.append_nil, hbll.out]; exact ho1) hg1
                  have hz1' : ∀ z, (Value.slice oa lo.length oc).ownBlock = some z → bV ≤ z := fun z e => (owns_isO hSm.own e).2
                  have hKa := Kept.of_grown hg1
                  have hVa := (hVi.grow (gca hbl1 (gal (gre wl) (.cells #[.bool false, .int .i64 (F : Int), .slice (some ⟨Bb, 0, none⟩) 64 64] 98)))).kept hKa (fun e => by have := hz1' _ e; omega)
                  have hBa := (gal (gca hBi hbl1) (.cells #[.bool false, .int .i64 (F : Int), .slice (some ⟨Bb, 0, none⟩) 64 64] 98)).trans (hKa.below (B := w.heap.size) (by have := hBi.size; simp; omega) (fun z hz e => by have := hz1' z e; omega))
                  have hsa : bV ≤ wa.heap.size := by have := hKa.size; simp at this; omega
                  go_roundw
                  case rel => exact ⟨j + 1, _, _, _, by omega, by have := hp.out; rw [show 64 * (j + 1) = p + 64 by omega]; go_num, by rw [List.length_append]; rfl, by show _ = _; rw [List.map_append, hlo.out, imgOps_succ, hF.out, hbl.out]; rfl, hSO1, hVa, hBa, hsa⟩
                  case measure => simp [intOf]; omega
          · have hpl : ¬ ((p : Int) < (im.length : Int)) := by have : ¬ 64 * j < im.length := fun e => hlt (nBlk_lt.2 e)
                                                               have := hp.out; omega
            obtain rfl : j = nBlk im := by omega
            have hn : nBlk im ≤ 64 := nBlk_le hil
            have hls : lo.length ≤ 64 := by rw [hll.out]; exact hn
            have hszr := hBr.size
            go_upto_region 18 with (at_builtin; refine wpList_append_lies _ rfl (.tmp 63) (.tmp 65) 54 rfl bV 98 j0 _ 3 40 Tryz.underlying54 hj hy0 hy1 hy2 rfl (by decide) _ _ _ rfl (hSO.own.alloc _) ⟨wr.heap.size, 0, none⟩ 1 1 [.bool true, .int .i64 0, .slice none 0 0] rfl rfl (World.news_of_block (cs := #[.bool true, .int .i64 0, .slice none 0 0]) (t := 98) (fr := (0, 0)) (blk_new_at _ _ _ (by simp))) (by simp [Value.oneCell']) (by decide) (by unfold maxLen; omega) (by omega) (by simp; omega) (wr.heap.size + 1) (by simp) ?_; intro g1 cc1 wa ho1 hg1 _ _)
            have hSa := hSO.grow (gal (gre wr) (.cells #[.bool true, .int .i64 0, .slice none 0 0] 98))
            have hSO1 := hSa.more (ys := [⟨syncO, none, 0⟩]) (fun y hy => Or.inl (by rw [List.mem_singleton.1 hy]; rfl)) (hSa.far1 (fun b hb => absurd rfl hb)) ho1 hg1
            have hz1' : ∀ z, (Value.slice oa lo.length oc).ownBlock = some z → bV ≤ z := fun z e => (owns_isO hSa.own e).2
            have hKa := Kept.of_grown hg1
            have hVa := (hVr.grow (gal (gre wr) (.cells #[.bool true, .int .i64 0, .slice none 0 0] 98))).kept hKa (fun e => by have := hz1' _ e; omega)
            have hBa := (gal hBr (.cells #[.bool true, .int .i64 0, .slice none 0 0] 98)).trans (hKa.below (B := w.heap.size) (by simp; omega) (fun z hz e => by have := hz1' z e; omega))
            have hsa : bV ≤ wa.heap.size := by have := hKa.size; simp at this; omega
            clear hg1 ho1 hSa hz1' hKa hSO
            obtain ⟨sm, hsm⟩ := hid_ex (sumN im)
            have ew1 : IntKind.i64.wrap (k.gen + 1) = k.gen + 1 := by rw [IntKind.wrap_i64]; omega
            have ew2 : IntKind.i64.wrap (sm : Int) = wrap64 (sm : Int) := by first | rfl | (rw [IntKind.wrap_i64]; unfold wrap64; omega)
            have hB : Below wa.heap.size wa wa.drew := gdr (gre _)
            have hSd := hVa.grow hB
            go_cut [11] from 67 (fun v wc => ∃ H, v = .pointer (some ⟨H, 0, none⟩) ∧ HBox wc H true (k.gen + 1) (im.length : Int) (wrap64 (sm : Int)) ∧ Below wa.heap.size wa wc)
            case first =>
              refine wp_regionU (fun u => V4 u R (.bool k.ok) (.int .i64 k.gen) (.int .i64 k.slot) (.slice oa1 k.bytes.length c1)) 99 (by kernel_rfl) hSd (fun _ => ?_)
              generalize wa.drew = wq at hB hSd ⊢
              refine anyU_take (i := 0) (v := ?_) rfl (by kernel_rfl) (by kernel_rfl) (by kernel_rfl) (by kernel_rfl) (fun _ _ _ h => h) (Or.inl ⟨by rfl, ?_⟩) hSd ?_
              rotate_left
              · intro u hSu; obtain ⟨_, s0, s1, s2, s3, sf⟩ := hSu; go_simp <;> with_reducible rfl
              simp only [Act.put, List.getElem_toArray, List.getElem_cons_zero, List.setIfInBounds_toArray, List.set_cons_zero, List.set_cons_succ]
              refine anyU_take (i := 1) (v := ?_) rfl (by kernel_rfl) (by kernel_rfl) (by kernel_rfl) (by kernel_rfl) (fun _ _ _ h => h) (Or.inl ⟨by rfl, ?_⟩) hSd ?_
              rotate_left
              · intro u hSu; obtain ⟨_, s0, s1, s2, s3, sf⟩ := hSu; go_simp <;> with_reducible rfl
              simp only [Act.put, List.getElem_toArray, List.getElem_cons_zero, List.getElem_cons_succ, List.setIfInBounds_toArray, List.set_cons_zero, List.set_cons_succ]
              refine anyU_take (i := 2) (v := ?_) rfl (by kernel_rfl) (by kernel_rfl) (by kernel_rfl) (by kernel_rfl) (fun _ _ _ h => h) (Or.inl ⟨by rfl, ?_⟩) hSd ?_
              rotate_left
              · intro u hSu; obtain ⟨_, s0, s1, s2, s3, sf⟩ := hSu; go_simp <;> with_reducible rfl
              simp only [Act.put, List.getElem_toArray, List.getElem_cons_zero, List.getElem_cons_succ, List.setIfInBounds_toArray, List.set_cons_zero, List.set_cons_succ]
              refine anyU_take (i := 3) (v := ?_) rfl (by kernel_rfl) (by kernel_rfl) (by kernel_rfl) (by kernel_rfl) (fun _ _ _ h => h) (Or.inl ⟨by rfl, ?_⟩) hSd ?_
              rotate_left
              · intro u hSu; obtain ⟨_, s0, s1, s2, s3, sf⟩ := hSu; go_simp <;> with_reducible rfl
              simp only [Act.put, List.getElem_toArray, List.getElem_cons_zero, List.getElem_cons_succ, List.setIfInBounds_toArray, List.set_cons_zero, List.set_cons_succ]
              refine anyU_take (i := 4) (v := ?_) rfl (by kernel_rfl) (by kernel_rfl) (by kernel_rfl) (by kernel_rfl) (fun _ _ _ h => h) (Or.inl ⟨by rfl, ?_⟩) hSd ?_
              rotate_left
              · intro u hSu; obtain ⟨_, s0, s1, s2, s3, sf⟩ := hSu; go_simp <;> with_reducible rfl
              simp only [Act.put, List.getElem_toArray, List.getElem_cons_zero, List.getElem_cons_succ, List.setIfInBounds_toArray, List.set_cons_zero, List.set_cons_succ]
              refine anyU_take (i := 5) (v := ?_) rfl (by kernel_rfl) (by kernel_rfl) (by kernel_rfl) (by kernel_rfl) (fun _ _ _ h => h) (Or.inl ⟨by rfl, ?_⟩) hSd ?_
              rotate_left
              · intro u hSu; obtain ⟨_, s0, s1, s2, s3, sf⟩ := hSu; go_simp <;> with_reducible rfl
              simp only [Act.put, List.getElem_toArray, List.getElem_cons_zero, List.getElem_cons_succ, List.setIfInBounds_toArray, List.set_cons_zero, List.set_cons_succ]
              refine anyU_pair (i := 6) (j := 9) (by kernel_rfl) rfl rfl (fun K hK => ?_) (fun K hK => ?_)
              · go_simp
                refine (l2sum_any ia im ic _ (hia.grow (gca hBa hB)) (by unfold maxLen; omega) hib).mono ?_
                rw [← hsm.out]
                rintro e w6 ⟨rfl, hb6⟩
                have hS6 := hSd.grow hb6
                refine hK.out _ _ hS6 ?_
                clear hK
                refine anyU_take (i := 7) (v := ?_) rfl (by kernel_rfl) (by kernel_rfl) (by kernel_rfl) (by kernel_rfl) (fun _ _ _ h => h) (Or.inl ⟨by rfl, ?_⟩) hS6 ?_
                rotate_left
                · intro u hSu; obtain ⟨_, s0, s1, s2, s3, sf⟩ := hSu; go_simp <;> with_reducible rfl
                simp only [Act.put, List.getElem_toArray, List.getElem_cons_zero, List.getElem_cons_succ, List.setIfInBounds_toArray, List.set_cons_zero, List.set_cons_succ]
                refine anyU_take (i := 8) (v := ?_) rfl (by kernel_rfl) (by kernel_rfl) (by kernel_rfl) (by kernel_rfl) (fun _ _ _ h => h) (Or.inl ⟨by rfl, ?_⟩) hS6 ?_
                rotate_left
                · intro u hSu; obtain ⟨_, s0, s1, s2, s3, sf⟩ := hSu; go_simp <;> with_reducible rfl
                simp only [Act.put, List.getElem_toArray, List.getElem_cons_zero, List.getElem_cons_succ, List.setIfInBounds_toArray, List.set_cons_zero, List.set_cons_succ]
                have hS7 := hS6.grow (gal (gre w6) (.cells #[.bool false, .int .i64 0, .int .i64 0, .int .i64 0] 92))
                refine anyU_one (i := 9) (by kernel_rfl) rfl (fun K hK => ?_)
                go_simp
                refine hK.out _ _ hS7 ?_
                clear hK
                refine anyU_one (i := 10) (by kernel_rfl) rfl (fun K hK => ?_)
                go_simp
                have hS8 := hS6.grow (gal (gre w6) (.cells #[.bool true, .int .i64 (k.gen + 1), .int .i64 (im.length : Int), .int .i64 (wrap64 (sm : Int))] 92))
                refine hK.out _ _ hS8 ?_
                clear hK
                refine anyU_done (by kernel_rfl) ?_
                go_wp2
                go_meet
                case rel => exact ⟨w6.heap.size, rfl, HBox.new w6 _ _ _ _ _, gal (gca hB hb6) _⟩
              · go_simp
                have hS6 := hSd.grow (gal (gre _) (.cells #[.bool false, .int .i64 0, .int .i64 0, .int .i64 0] 92))
                refine hK.out _ _ hS6 ?_
                clear hK
                have hHz := HV.new_at wq noH 92 wq.heap.size rfl
                have hbz := gal hB (.cells #[.bool false, .int .i64 0, .int .i64 0, .int .i64 0] 92)
                have hdz := hB.size
                have hRq := hSd.lt
                generalize wq.alloc (.cells #[.bool false, .int .i64 0, .int .i64 0, .int .i64 0] 92) = wz at hS6 hHz hbz ⊢
                generalize wq.heap.size = H at hHz hdz hRq ⊢
                refine anyU_one (i := 6) (by kernel_rfl) rfl (fun K hK => ?_)
                go_simp
                refine (l2sum_any ia im ic _ (hia.grow (gca hBa hbz)) (by unfold maxLen; omega) hib).mono ?_
                rw [← hsm.out]
                rintro e w6 ⟨rfl, hb6⟩
                have hS7 := hS6.grow hb6
                have hH7 := hHz.grow hb6
                refine hK.out _ _ hS7 ?_
                clear hK
                refine anyU_one (i := 7) (by kernel_rfl) rfl (fun K hK => ?_)
                go_simp
                refine hK.out _ _ hS7 ?_
                clear hK
                refine anyU_one (i := 8) (by kernel_rfl) rfl (fun K hK => ?_)
                go_simp
                refine hK.out _ _ hS7 ?_
                clear hK
                obtain ⟨⟨_, y0, y1, y2, y3⟩, yf⟩ := id hH7
                refine anyU_one (i := 10) (by kernel_rfl) rfl (fun K hK => ?_)
                go_simp
                obtain ⟨r0, r1, r2, r3, KR⟩ := ret4 hH7 (.bool true) (.int .i64 (k.gen + 1)) (.int .i64 (im.length : Int)) (.int .i64 (wrap64 (sm : Int)))
                have hS8 := hS7.kept KR (by omega)
                refine hK.out _ _ hS8 ?_
                clear hK
                refine anyU_done (by kernel_rfl) ?_
                go_wp2
                go_meet
                case rel => exact ⟨H, rfl, ⟨by have := KR.size; have := hH7.box.lt; omega, (World.cell?_setCell_other _ _ _ _ (by simp)).trans ((World.cell?_setCell_other _ _ _ _ (by simp)).trans ((World.cell?_setCell_other _ _ _ _ (by simp)).trans r0)), (World.cell?_setCell_other _ _ _ _ (by simp)).trans ((World.cell?_setCell_other _ _ _ _ (by simp)).trans r1), (World.cell?_setCell_other _ _ _ _ (by simp)).trans r2, r3⟩, (gca hbz hb6).trans (KR.below (B := wa.heap.size) (gca hbz hb6).size (fun z hz e => by omega))⟩
            case rest =>
              obtain ⟨H, rfl, hH, hbc⟩ := hcut
              obtain ⟨lo1, hlo1⟩ := hid_ex (lo ++ [⟨syncO, none, 0⟩])
              rw [← hlo1.out] at hSO1
              have hl1 : Hid (lo1.length = lo.length + 1) := by show _ = _; rw [hlo1.out, List.length_append]; rfl
              have hSc := hSO1.grow hbc
              have hBc := gca hBa hbc
              have hsc : bV ≤ wc.heap.size := by have := hbc.size; omega
              clear hSO1 hVa hB hSd hBa hsa hbc ew1 ew2
              obtain ⟨_, n0, n1, n2, n3⟩ := id hH
              obtain ⟨hb, hhb⟩ := hid_ex (headB (k.gen + 1) (im.length : Int) (wrap64 (sm : Int)))
              have hbl : hb.length ≤ 64 := by rw [hhb.out, headB_length]; omega
              go_upto_region 20 with (first
                | (go_at_call 81; refine (l4block_any true (k.gen + 1) (im.length : Int) (wrap64 (sm : Int)) _).mono ?_; rw [← hhb.out]; rintro e wd ⟨ob, cb, rfl, hOb, hbd⟩; have hSD := hSc.grow hbd; have hsd := hbd.size)
                | (at_builtin; refine wpList_append_lies _ rfl (.tmp 76) (.tmp 81) 54 rfl bV 98 j0 _ 3 40 Tryz.underlying54 hj hy0 hy1 hy2 rfl (by decide) _ _ _ rfl ((hSD.own_at hl1.out).alloc _) ⟨wd.heap.size, 0, none⟩ 1 1 [.bool false, .int .i64 (s : Int), .slice ob hb.length cb] rfl rfl (World.news_of_block (cs := #[.bool false, .int .i64 (s : Int), .slice ob hb.length cb]) (t := 98) (fr := (0, 0)) (blk_new_at _ _ _ (by simp))) (by simp [Value.oneCell']) (by decide) (by unfold maxLen; omega) (by omega) (by simp; omega) (wd.heap.size + 1) (by simp) ?_; intro g2 cc2 we ho2 hg2 _ _))
              have hMb := owns_mbO hOb rfl
              have hfar2 := hSc.far1 (y := ⟨⟨false, (s : Int), hb⟩, ob, cb⟩) (fun b hne e => by rcases hMb with e0 | ⟨G, n, e1, e2, _⟩; exact absurd e0 hne; rw [e1] at e; have := some_addr e; omega)
              have hSe := hSD.grow (gal (gre wd) (.cells #[.bool false, .int .i64 (s : Int), .slice ob hb.length cb] 98))
              have hSO2 := hSe.more (ys := [⟨⟨false, (s : Int), hb⟩, ob, cb⟩]) (fun y hy => by rw [List.mem_singleton.1 hy]; exact (hMb.growO (gal (gre wd) _)).leO hsc) hfar2 (by rw [hl1.out]; exact ho2) (by rw [hl1.out]; exact hg2)
              have hz2' : ∀ z, (Value.slice (some ⟨g1, 0, none⟩) lo1.length cc1).ownBlock = some z → bV ≤ z := fun z e => (owns_isO hSe.own e).2
              rw [hl1.out] at hz2'
              have hKe := Kept.of_grown hg2
              have hBe := (gal (gca hBc hbd) (.cells #[.bool false, .int .i64 (s : Int), .slice ob hb.length cb] 98)).trans (hKe.below (B := w.heap.size) (by have := hbd.size; have := hBc.size; simp; omega) (fun z hz e => by have := hz2' z e; omega))
              have hse : bV ≤ we.heap.size := by have := hKe.size; simp at this; omega
              obtain ⟨lo2, hlo2⟩ := hid_ex (lo1 ++ [⟨⟨false, (s : Int), hb⟩, ob, cb⟩])
              rw [← hlo2.out] at hSO2
              have hl2 : Hid (lo2.length = lo.length + 1 + 1) := by show _ = _; rw [hlo2.out, List.length_append, hl1.out]; rfl
              clear ho2 hg2 hSe hz2' hKe hfar2 hMb hOb hSD hSc hBc hH n0 n1 n2 n3
              go_wp2_with (at_builtin; refine wpList_append_lies _ rfl (.tmp 83) (.tmp 85) 54 rfl bV 98 j0 _ 3 40 Tryz.underlying54 hj hy0 hy1 hy2 rfl (by decide) _ _ _ rfl ((hSO2.own_at hl2.out).alloc _) ⟨we.heap.size, 0, none⟩ 1 1 [.bool true, .int .i64 0, .slice none 0 0] rfl rfl (World.news_of_block (cs := #[.bool true, .int .i64 0, .slice none 0 0]) (t := 98) (fr := (0, 0)) (blk_new_at _ _ _ (by simp))) (by simp [Value.oneCell']) (by decide) (by unfold maxLen; omega) (by omega) (by simp; omega) (we.heap.size + 1) (by simp) ?_; intro g3 cc3 wf ho3 hg3 _ _)
              go_ret
              have hSf := hSO2.grow (gal (gre we) (.cells #[.bool true, .int .i64 0, .slice none 0 0] 98))
              have hSO3 := hSf.more (ys := [⟨syncO, none, 0⟩]) (fun y hy => Or.inl (by rw [List.mem_singleton.1 hy]; rfl)) (hSf.far1 (fun b hb => absurd rfl hb)) (by rw [hl2.out]; exact ho3) (by rw [hl2.out]; exact hg3)
              have hz3' : ∀ z, (Value.slice (some ⟨g2, 0, none⟩) lo2.length cc2).ownBlock = some z → bV ≤ z := fun z e => (owns_isO hSf.own e).2
              rw [hl2.out] at hz3'
              have hKf := Kept.of_grown hg3
              have hBf := (gal hBe (.cells #[.bool true, .int .i64 0, .slice none 0 0] 98)).trans (hKf.below (B := w.heap.size) (by have := hBe.size; simp; omega) (fun z hz e => by have := hz3' z e; omega))
              have hLl : L.length = lo.length + 1 + 1 + 1 := by rw [hLe.out, List.length_append, imgOps_len, hll.out]; rfl
              refine ⟨some ⟨g3, 0, none⟩, cc3, _, by rw [hLl]; rfl, ?_, hSO3.le hwV, hBf⟩
              rw [List.map_append, hlo2.out, List.map_append, hlo1.out, List.map_append, hlo.out, hLe.out, hhb.out, hsm.out, hs.out]
              simp [headO]

end Go.Proofs.YthjddpkegooobacGreat

/-
  SOPS2: the specification's Ops. Own work.
-/
namespace Go.Proofs.YthjddpkegooobacGreat
open Go.RowKit

theorem ops_no {d : DD} {im : List Nat} (h : d.ok = false ∨ d.waiting ≠ [] ∨ im = [] ∨ 4096 < im.length) : d.ops im = [] := if_neg (fun ⟨h1, h2, h3, h4⟩ => by
  rcases h with e | e | e | e
  · rw [h1] at e; cases e
  · exact e h2
  · exact h3 e
  · omega)

set_option maxHeartbeats 2000000 in
set_option maxRecDepth 100000 in
theorem specOps_any (d : DD) (l : DL) (ia : Option Addr) (im : List Nat) (ic : Nat) (w : World) (hd : d.Ok) (ha : DAt w l d) (hia : BytesAt w ia im) (hib : ∀ x, x ∈ im → x < 256) (hil : im.length ≤ 1048576) :
    Calls Tryz.prog 20 #[d.val l, .slice ia im.length ic] w (OAns (d.ops im) w) := by
  have hX0 := DBox.new w d l 35
  have hA0 := gal (gre w) (.cells #[.slice l.ba d.blocks.length l.bc, .slice l.wa d.waiting.length l.wc] 35)
  obtain ⟨n2, hn2⟩ := hid_ex d.waiting.length
  cases hok : d.ok with
  | false =>
    have hok' : Hid _ := hok
    rw [ops_no (Or.inl hok)]
    clear hok
    go_enter Tryz.func20, Tryz.ntmps20
    go_wp2_with (go_at_call 43; refine (calls_argsS (specDiskOk_any d l _ hd (ha.grow hA0)) rfl).mono ?_; rw [hok'.out]; rintro e w1 ⟨rfl, hb1⟩; obtain ⟨_, y0, y1⟩ := hX0.grow hb1; skip)
    go_ret
    exact OAns.no (gca hA0 hb1)
  | true =>
    have hok' : Hid _ := hok
    by_cases hw0 : n2 = 0
    · have hwn : Hid (d.waiting = []) := by show _ = _; exact List.eq_nil_of_length_eq_zero (by rw [← hn2.out]; exact hw0)
      have hwl : Hid (d.waiting.length = 0) := by show _ = _; rw [← hn2.out]; exact hw0
      rw [show d.val l = .agg #[.slice l.ba d.blocks.length l.bc, .slice l.wa 0 l.wc] by simp only [DD.val, hwl.out]]
      rw [hwl.out] at hX0 hA0
      by_cases him : im = []
      · rw [ops_no (Or.inr (Or.inr (Or.inl him)))]
        subst him
        clear hok
        go_enter Tryz.func20, Tryz.ntmps20
        go_wp2_with (go_at_call 43; refine (calls_argsS (specDiskOk_any d l _ hd (ha.grow hA0)) (by simp only [DD.val, hwl.out])).mono ?_; rw [hok'.out]; rintro e w1 ⟨rfl, hb1⟩; obtain ⟨_, y0, y1⟩ := hX0.grow hb1; rw [hwl.out] at y1)
        go_ret
        exact OAns.no (gca hA0 hb1)
      · have hm0 : im.length ≠ 0 := fun e => him (List.eq_nil_of_length_eq_zero e)
        have hm1 : ((im.length : Int) == 0) = false := by simp [him]
        by_cases hm4 : 4096 < im.length
        · have hm5 : (4096 : Int) < (im.length : Int) := by omega
          rw [ops_no (Or.inr (Or.inr (Or.inr hm4)))]
          clear hok
          go_enter Tryz.func20, Tryz.ntmps20
          go_wp2_with (go_at_call 43; refine (calls_argsS (specDiskOk_any d l _ hd (ha.grow hA0)) (by simp only [DD.val, hwl.out])).mono ?_; rw [hok'.out]; rintro e w1 ⟨rfl, hb1⟩; obtain ⟨_, y0, y1⟩ := hX0.grow hb1; rw [hwl.out] at y1)
          go_ret
          exact OAns.no (gca hA0 hb1)
        · have hm5 : ¬ ((4096 : Int) < (im.length : Int)) := by omega
          have hLe : d.ops im = d.lay im := if_pos ⟨hok, hwn.out, him, by omega⟩
          have hf := DD.fit hok
          rw [hLe]
          clear hok hLe
          go_enter Tryz.func20, Tryz.ntmps20
          go_wp2_with (first
            | (go_at_call 43; refine (calls_argsS (specDiskOk_any d l _ hd (ha.grow hA0)) (by simp only [DD.val, hwl.out])).mono ?_; rw [hok'.out]; rintro e w1 ⟨rfl, hb1⟩; obtain ⟨_, y0, y1⟩ := hX0.grow hb1; rw [hwl.out] at y1)
            | (go_at_call 44; refine (calls_argsS (l4ops_any d l ia im ic _ hf hd (ha.grow (gca hA0 hb1)) (hia.grow (gca hA0 hb1)) hib (by omega)) (by simp only [DD.val, hwl.out])).mono ?_; rintro e w9 ⟨oa, oc, lo, rfl, hlo, hSO, hb9⟩))
          go_ret
          exact ⟨oa, oc, lo, rfl, hlo, hSO.le (gca hA0 hb1).size, gca (gca hA0 hb1) hb9⟩
    · have hw1 : (0 : Int) < (n2 : Int) := by omega
      rw [ops_no (Or.inr (Or.inl (fun e => hw0 (by rw [hn2.out, e]; rfl))))]
      rw [show d.val l = .agg #[.slice l.ba d.blocks.length l.bc, .slice l.wa n2 l.wc] by simp only [DD.val, hn2.out]]
      rw [← hn2.out] at hX0 hA0
      clear hok hw0
      go_enter Tryz.func20, Tryz.ntmps20
      go_wp2_with (go_at_call 43; refine (calls_argsS (specDiskOk_any d l _ hd (ha.grow hA0)) (by simp only [DD.val, hn2.out])).mono ?_; rw [hok'.out]; rintro e w1 ⟨rfl, hb1⟩; obtain ⟨_, y0, y1⟩ := hX0.grow hb1; rw [← hn2.out] at y1)
      go_ret
      exact OAns.no (gca hA0 hb1)

end Go.Proofs.YthjddpkegooobacGreat

/-
  NODEOF: a thing made a node again. Own work.
-/
namespace Go.Proofs.YthjddpkegooobacGreat
open Go.RowKit

/-- what stands at the head of the round -/
structure VState (w : World) (tb : Nat → Nat) (M mb base : Nat) (tag : Int) (ma0 : Option Addr) (ws : World) (ord : List Nat) (ma : Option Addr) (mc : Nat) (va : Option Addr) (vc : Nat) (vs : List GV) : Prop where
  kept : Kept (fun k => k = M ∨ k = mb ∨ ma0 = some ⟨k, 0, none⟩) w ws
  size : w.heap.size + 1 + 1 ≤ ws.heap.size
  res : Two ws w.heap.size 0 (.slice none 0 0)
  x : Two ws (w.heap.size + 1) tag (.slice va vs.length vc)
  meet : Meet ws tb M mb base ord ma mc
  maor : ma = ma0 ∨ ∃ b, ma = some ⟨b, 0, none⟩ ∧ w.heap.size + 1 + 1 ≤ b
  vals : ws.ownsRow (w.heap.size + 1 + 1) 38 4 (.slice va vs.length vc) vs.length (valCells vs)
  ap : ∀ b, va = some ⟨b, 0, none⟩ → ma ≠ some ⟨b, 0, none⟩

section
variable {w : World} {tb : Nat → Nat} {M mb base : Nat} {tag : Int} {ma0 : Option Addr} {ws : World} {ord : List Nat} {ma : Option Addr} {mc : Nat} {va : Option Addr} {vc : Nat} {vs : List GV}

set_option maxRecDepth 100000 in
theorem VState.far (h : VState w tb M mb base tag ma0 ws ord ma mc va vc vs) (_hb : base ≤ w.heap.size) (h0 : ∀ b, ma0 = some ⟨b, 0, none⟩ → b < w.heap.size) :
    (∀ b, ma = some ⟨b, 0, none⟩ → base ≤ b ∧ b < ws.heap.size ∧ b ≠ w.heap.size ∧ b ≠ w.heap.size + 1) ∧ (∀ b, va = some ⟨b, 0, none⟩ → w.heap.size + 1 + 1 ≤ b ∧ b < ws.heap.size) := by
  refine ⟨fun b hb => ?_, fun b hb => h.vals.lt b (by rw [hb]; rfl)⟩
  have h1 := h.meet.met.lt b (by rw [hb]; rfl)
  refine ⟨h1.1, h1.2, ?_, ?_⟩
  · rcases h.maor with e | ⟨c, e, hc⟩
    · have := h0 b (by rw [← e, hb]); omega
    · rw [hb] at e; have := some_addr e; omega
  · rcases h.maor with e | ⟨c, e, hc⟩
    · have := h0 b (by rw [← e, hb]); omega
    · rw [hb] at e; have := some_addr e; omega

set_option maxRecDepth 100000 in
theorem VState.step (h : VState w tb M mb base tag ma0 ws ord ma mc va vc vs) (hb : base ≤ w.heap.size) (hMl : M < base ∧ mb < base) (h0 : ∀ b, ma0 = some ⟨b, 0, none⟩ → b < w.heap.size) {v : GV} {w1 w3 : World} {ma1 : Option Addr} {mc1 gg cc : Nat} {o : Obj}
    (hM1 : Meet w1 tb M mb base (renOrd ord v) ma1 mc1) (hor1 : ma1 = ma ∨ ∃ b, ma1 = some ⟨b, 0, none⟩ ∧ ws.heap.size ≤ b) (hK1 : Kept (fun k => k = M ∨ k = mb ∨ ma = some ⟨k, 0, none⟩) ws w1)
    (hown : w3.ownsRow (w.heap.size + 1 + 1) 38 4 (.slice (some ⟨gg, 0, none⟩) (vs.length + 1) cc) (vs.length + 1) (valCells vs ++ (renVal ord v).four))
    (hgrow : (w1.alloc o).grownBy w3 (Value.slice va vs.length vc).ownBlock) (hat : (Value.slice va vs.length vc).ownBlock = some gg ∨ gg = w1.heap.size + 1) :
    VState w tb M mb base tag ma0 (w3.setCell ⟨w.heap.size + 1, 1, none⟩ (.slice (some ⟨gg, 0, none⟩) (vs.length + 1) cc)) (renOrd ord v) ma1 mc1 (some ⟨gg, 0, none⟩) cc (vs ++ [renVal ord v]) := by
  obtain ⟨f1, f2⟩ := h.far hb h0
  have hz := h.size
  have hs1 := hK1.size
  have hA : Kept (fun _ => False) w1 (w1.alloc o) := (Kept.refl _ w1).alloc _
  have hG := Kept.of_grown hgrow
  have hs3 : w1.heap.size + 1 ≤ w3.heap.size := by have := hgrow.size; simpa using this
  have hC := (Kept.refl (fun b => b = w.heap.size + 1) w3).set (a := ⟨w.heap.size + 1, 1, none⟩) (fun _ => rfl) (.slice (some ⟨gg, 0, none⟩) (vs.length + 1) cc)
  have hvb : ∀ b, (Value.slice va vs.length vc).ownBlock = some b → w.heap.size + 1 + 1 ≤ b ∧ b < ws.heap.size ∧ va = some ⟨b, 0, none⟩ := fun b hb => by
    have e := owns_addr h.vals hb
    exact ⟨(f2 b e).1, (f2 b e).2, e⟩
  have hm1 : ∀ b, ma1 = some ⟨b, 0, none⟩ → base ≤ b ∧ b < w1.heap.size ∧ b ≠ w.heap.size ∧ b ≠ w.heap.size + 1 ∧ (Value.slice va vs.length vc).ownBlock ≠ some b := fun b hb => by
    have h1 := hM1.met.lt b (by rw [hb]; rfl)
    rcases hor1 with e | ⟨c, e, hc⟩
    · have h2 := f1 b (by rw [← e, hb])
      exact ⟨h1.1, h1.2, h2.2.2.1, h2.2.2.2, fun hx => h.ap b (hvb b hx).2.2 (by rw [← e, hb])⟩
    · rw [hb] at e
      have e2 := some_addr e
      refine ⟨h1.1, h1.2, by omega, by omega, fun hx => ?_⟩
      have := hvb b hx
      omega
  have hp1 : ∀ b, (b = w.heap.size ∨ b = w.heap.size + 1) → ¬ (b = M ∨ b = mb ∨ ma = some ⟨b, 0, none⟩) := fun b hb hp => by
    rcases hp with hp | hp | hp
    · omega
    · omega
    · have := f1 b hp; omega
  exact {
    kept := by
      refine (((h.kept.trans hK1 (fun k hk hp => ?_)).trans hA (fun _ _ e => e.elim)).trans hG (fun k hk hp => ?_)).trans hC (fun k hk hp => by omega)
      · rcases hp with hp | hp | hp
        · exact Or.inl hp
        · exact Or.inr (Or.inl hp)
        · rcases h.maor with e | ⟨c, e, hc⟩
          · exact Or.inr (Or.inr (by rw [← e, hp]))
          · rw [hp] at e; have := some_addr e; omega
      · have := hvb k hp; omega
    size := by have := hC.size; omega
    res := (((h.res.kept hK1 (hp1 _ (Or.inl rfl))).kept hA (fun e => e)).kept hG (fun hp => by have := hvb _ hp; omega)).kept hC (by omega)
    x := by
      have h1 := ((h.x.kept hK1 (hp1 _ (Or.inr rfl))).kept hA (fun e => e)).kept hG (fun hp => by have := hvb _ hp; omega)
      simpa using h1.set (s' := .slice (some ⟨gg, 0, none⟩) (vs.length + 1) cc)
    meet := ((hM1.kept hA (fun e => e) (fun e => e) (fun _ _ e => e)).kept hG (fun hp => by have := hvb _ hp; omega) (fun hp => by have := hvb _ hp; omega) (fun b hb hp => (hm1 b hb).2.2.2.2 hp)).kept hC (by omega) (by omega) (fun b hb hp => by have := hm1 b hb; omega)
    maor := by
      rcases hor1 with e | ⟨c, e, hc⟩
      · rw [e]; exact h.maor
      · exact Or.inr ⟨c, e, by omega⟩
    vals := by
      have h1 := hC.owns hown (fun b hb hp => by have := (hown.lt b hb).1; omega)
      simpa [valCells_snoc, GV.four] using h1
    ap := fun b hb hx => by
      have e := some_addr hb
      subst e
      have h2 := hm1 gg hx
      rcases hat with e2 | e2
      · exact h2.2.2.2.2 e2
      · omega }
end

/-- what making a node leaves -/
def NodePost (w : World) (tb : Nat → Nat) (M mb base : Nat) (n : GN) (ord : List Nat) (ma0 : Option Addr) (e : Ending) (w' : World) : Prop :=
  ∃ ma mc va vc, e = .returned (nodeVal ⟨n.tag, renVals ord n.vals⟩ va vc) ∧ Meet w' tb M mb base (renOrds ord n.vals) ma mc ∧ (ma = ma0 ∨ ∃ b, ma = some ⟨b, 0, none⟩ ∧ w.heap.size ≤ b) ∧
    w'.ownsRow w.heap.size 38 4 (.slice va (renVals ord n.vals).length vc) (renVals ord n.vals).length (valCells (renVals ord n.vals)) ∧ (∀ b, va = some ⟨b, 0, none⟩ → ma ≠ some ⟨b, 0, none⟩) ∧ Kept (fun k => k = M ∨ k = mb ∨ ma0 = some ⟨k, 0, none⟩) w w'

set_option maxHeartbeats 1000000 in
set_option maxRecDepth 100000 in
theorem nodeOf_any (N lo : Nat) (tb : Nat → Nat) (M mb base : Nat) (n : GN) (x B : Nat) (xa : Option Addr) (xc : Nat) (ord : List Nat) (ma0 : Option Addr) (mc0 : Nat) (w : World) (hok : okN N n = true) (hinv : InvO N ord) (hN : N ≤ 300) (_hx : x < N)
    (hinj : ∀ i j, i < N → j < N → tb i = tb j → i = j) (hcells : ∀ i, i < N → CellsAt w (tb i) ∧ tb i < lo) (hM : Meet w tb M mb base ord ma0 mc0) (hbase : base ≤ w.heap.size) (hlo : lo ≤ M ∧ lo ≤ mb)
    (ht : Two w (tb x) n.tag (.slice xa n.vals.length xc)) (hr : w.ownsRow B 144 1 (.slice xa n.vals.length xc) n.vals.length (n.vals.map (encV tb))) (hxa : ∀ b, xa = some ⟨b, 0, none⟩ → b < lo) :
    Calls Tryz.prog 117 #[ptr M, ptr (tb x)] w (NodePost w tb M mb base n ord ma0) := by
  obtain ⟨hvl, hvok⟩ := okN_parts hok
  obtain ⟨j0, hj, hy0, hy1, hy2⟩ := info_parts info_implVal
  obtain ⟨m1, m2, m3⟩ := hM.mlt
  have htl := ht.lt
  have t0 := ht.c0
  have t1 := ht.c1
  have hma0 : ∀ b, ma0 = some ⟨b, 0, none⟩ → base ≤ b ∧ b < w.heap.size := fun b hb => hM.met.lt b (by rw [hb]; rfl)
  go_enter Tryz.func117, Tryz.ntmps117
  go_wp2
  have hA : Kept (fun _ => False) w ((w.alloc (.cells #[.int .i64 0, .slice none 0 0] 84)).alloc (.cells #[.int .i64 n.tag, .slice none 0 0] 84)) := ((Kept.refl _ w).alloc _).alloc _
  go_loopw [18] (fun i ws => ∃ (j : Nat) (ord' : List Nat) (ma : Option Addr) (mc : Nat) (va : Option Addr) (vc : Nat) (vs : List GV), Hid (ord' = renOrds ord (n.vals.take j)) ∧ Hid (vs = renVals ord (n.vals.take j)) ∧ Hid (vs.length = j) ∧ j ≤ n.vals.length ∧ i = .int .i64 j ∧ VState w tb M mb base n.tag ma0 ws ord' ma mc va vc vs) (fun i _ => n.vals.length - (intOf i).toNat)
  case atStart =>
    refine ⟨0, ord, ma0, mc0, none, 0, [], rfl, rfl, rfl, Nat.zero_le _, rfl, hA.mono (fun _ _ e => e.elim), by simp, (Two.new_at _ _ _ _ _ rfl).kept ((Kept.refl (fun _ => False) _).alloc _) (fun e => e), Two.new_at _ _ _ _ _ (by simp), hM.kept hA (fun e => e) (fun e => e) (fun _ _ e => e), Or.inl rfl, World.ownsRow_nil _ _ _ _, fun b hb => by cases hb⟩
  case round =>
    obtain ⟨j, ord', ma, mc, va, vc, vs, hord', hvs, hvsl, hjle, rfl, hD⟩ := hrel
    have hz := hD.size
    by_cases hjl : j < n.vals.length
    · obtain ⟨v, hvj⟩ : ∃ v, Hid (v = n.vals[j]!) := ⟨_, rfl⟩
      have hvm : v ∈ n.vals := by rw [hvj.out]; exact mem_at hjl
      have hnp : ∀ b, b < lo → ¬ (b = M ∨ b = mb ∨ ma0 = some ⟨b, 0, none⟩) := fun b hb hp => by
        rcases hp with hp | hp | hp
        · omega
        · omega
        · have := hma0 b hp; omega
      have hcj : (n.vals.map (encV tb))[j]? = some (encV tb v) := by
        rw [List.getElem?_map, List.getElem?_eq_getElem hjl, hvj.out, getElem!_pos n.vals j hjl]; rfl
      obtain ⟨gx, rfl, hgx1, hgx2, hgc⟩ := owns_cell hr hcj
      have hgc2 := hD.kept.cell hgc (hnp gx (hxa gx rfl))
      have hinv' : InvO N ord' := by rw [hord'.out]; exact hinv.rens (fun v hv => hvok v (List.mem_of_mem_take hv))
      have hcells' : ∀ i, i < N → CellsAt wr.drew (tb i) := fun i hi => by
        obtain ⟨⟨c, t, hc⟩, hl⟩ := hcells i hi
        exact ⟨c, t, (hD.kept.block _ (Array.getElem?_eq_some_iff.1 hc).1 (hnp _ hl)).trans hc⟩
      obtain ⟨xz, x0, x1, xf, _⟩ := hD.x
      have hMd : Meet wr.drew tb M mb base ord' ma mc := hD.meet.kept ((Kept.refl (fun _ => False) wr).drew) (fun e => e) (fun e => e) (fun _ _ e => e)
      have hbd : base ≤ wr.drew.heap.size := by show base ≤ wr.heap.size; omega
      obtain ⟨f1, f2⟩ := hD.far hbase (fun b hb => (hma0 b hb).2)
      have hi0 : (0 : Int) ≤ (j : Int) := by omega
      have hi1 : (j : Int) < (n.vals.length : Int) := by omega
      clear hgc t0 t1
      go_wp2
      refine wp_regionU (fun u => u.cell? ⟨w.heap.size + 1, 1, none⟩ = some (.slice va vs.length vc)) 8 (by kernel_rfl) x1 (fun hS0 => ?_)
      refine anyU_take (i := 0) (v := ?_) rfl (by kernel_rfl) (by kernel_rfl) (by kernel_rfl) (by kernel_rfl) (fun _ _ _ h => h) (Or.inl ⟨by rfl, ?_⟩) hS0 ?_
      rotate_left
      · intro u hSu; (try dsimp only at hSu); go_simp <;> with_reducible rfl
      simp only [Act.put, List.getElem_toArray, List.getElem_cons_zero, List.setIfInBounds_toArray, List.set_cons_zero, List.set_cons_succ]
      refine anyU_take (i := 1) (v := ?_) rfl (by kernel_rfl) (by kernel_rfl) (by kernel_rfl) (by kernel_rfl) (fun _ _ _ h => h) (Or.inl ⟨by rfl, ?_⟩) hS0 ?_
      rotate_left
      · intro u hSu; (try dsimp only at hSu); go_simp <;> with_reducible rfl
      simp only [Act.put, List.getElem_toArray, List.getElem_cons_zero, List.getElem_cons_succ, List.setIfInBounds_toArray, List.set_cons_zero, List.set_cons_succ]
      refine anyU_take (i := 2) (v := ?_) rfl (by kernel_rfl) (by kernel_rfl) (by kernel_rfl) (by kernel_rfl) (fun _ _ _ h => h) (Or.inl ⟨by rfl, ?_⟩) hS0 ?_
      rotate_left
      · intro u hSu; (try dsimp only at hSu); go_simp <;> with_reducible rfl
      simp only [Act.put, List.getElem_toArray, List.getElem_cons_zero, List.getElem_cons_succ, List.setIfInBounds_toArray, List.set_cons_zero, List.set_cons_succ]
      refine anyU_take (i := 3) (v := ?_) rfl (by kernel_rfl) (by kernel_rfl) (by kernel_rfl) (by kernel_rfl) (fun _ _ _ h => h) (Or.inl ⟨by rfl, ?_⟩) hS0 ?_
      rotate_left
      · intro u hSu; (try dsimp only at hSu); go_simp <;> with_reducible rfl
      simp only [Act.put, List.getElem_toArray, List.getElem_cons_zero, List.getElem_cons_succ, List.setIfInBounds_toArray, List.set_cons_zero, List.set_cons_succ]
      refine anyU_one (i := 4) (by kernel_rfl) rfl (fun K hK => ?_)
      go_simp
      refine (valOf_any N tb M mb base ord' v ma mc _ (hvok v hvm) hinv' hN hinj hcells' hMd hbd).mono ?_
      rintro e w1 ⟨ma1, mc1, rfl, hM1, hor1, hK1⟩
      have hKw : Kept (fun k => k = M ∨ k = mb ∨ ma = some ⟨k, 0, none⟩) wr w1 := ((Kept.refl (fun k => k = M ∨ k = mb ∨ ma = some ⟨k, 0, none⟩) wr).drew).trans hK1 (fun _ _ e => e)
      have hN1 : ¬ (w.heap.size + 1 = M ∨ w.heap.size + 1 = mb ∨ ma = some ⟨w.heap.size + 1, 0, none⟩) := fun hp => by
        rcases hp with hp | hp | hp
        · omega
        · omega
        · have := f1 _ hp; omega
      have hS1 := hKw.cell x1 hN1
      have hX1 : Two w1 (w.heap.size + 1) n.tag (.slice va vs.length vc) := hD.x.kept hKw hN1
      have hv1 : Hid _ := hKw.owns hD.vals (fun b hb hp => by
        have h8 := f2 b (owns_addr hD.vals hb)
        rcases hp with hp | hp | hp
        · omega
        · omega
        · exact hD.ap b (owns_addr hD.vals hb) hp)
      refine hK.out _ _ hS1 ?_
      clear hK
      have hsw := hKw.size
      have hS2 : (w1.alloc (.cells #[.int .i64 (renVal ord' v).kind, .int .i64 (renVal ord' v).num, .string (renVal ord' v).text, .int .i64 (renVal ord' v).node] 38)).cell? ⟨w.heap.size + 1, 1, none⟩ = some (.slice va vs.length vc) := ((Kept.refl (fun _ => False) w1).alloc _).cell hS1 (fun e => e)
      have hS2' : Hid _ := hS2
      clear hS2
      refine anyU_one (i := 5) (by kernel_rfl) rfl (fun K hK => ?_)
      go_simp
      refine hK.out _ _ hS2'.out ?_
      clear hK
      refine anyU_one (i := 6) (by kernel_rfl) rfl (fun K hK => ?_)
      refine step_append_lies _ (by rfl) (.tmp 23) (.tmp 27) 82 rfl (w.heap.size + 1 + 1) 38 j0 _ 4 40 Tryz.underlying82 hj hy0 hy1 hy2 rfl (by decide) (.slice va vs.length vc) vs.length (valCells vs) (by rfl) (World.ownsRow.alloc hv1.out _) ⟨w1.heap.size, 0, none⟩ 1 1 (renVal ord' v).four (by rfl) rfl (World.news_of_block (cs := #[.int .i64 (renVal ord' v).kind, .int .i64 (renVal ord' v).num, .string (renVal ord' v).text, .int .i64 (renVal ord' v).node]) (t := 38) (fr := (0, 0)) (blk_new_at _ _ _ rfl)) (by simp [GV.four, Value.oneCell']) (by decide) (by have h7 := hvsl.out; unfold maxLen; omega) (by have h7 := hvsl.out; omega) (by simp; omega) (w1.heap.size + 1) (by simp) ?_
      intro gg cc w3 hown3 hgrow3 hat3 hlt3
      have hX3 := (hX1.kept ((Kept.refl (fun _ => False) w1).alloc _) (fun e => e)).kept (Kept.of_grown hgrow3) (fun hp => by have h8 := f2 _ (owns_addr hD.vals hp); omega)
      obtain ⟨yz, y0, y1, yf, _⟩ := id hX3
      refine hK.out _ _ y1 ?_
      clear hK
      simp only [Act.put, List.getElem_toArray, List.getElem_cons_zero, List.getElem_cons_succ, List.setIfInBounds_toArray, List.set_cons_zero, List.set_cons_succ]
      refine anyU_one (i := 7) (by kernel_rfl) rfl (fun K hK => ?_)
      go_simp
      refine hK.out _ _ y1 ?_
      clear hK
      refine anyU_last (by kernel_rfl) rfl (by kernel_rfl) (fun K hK => ?_)
      go_simp
      refine hK.out _ _ ?_
      clear hK
      have hfin := hD.step hbase ⟨m1, m2⟩ (fun b hb => (hma0 b hb).2) hM1 (hor1.imp id (fun ⟨b, e, h⟩ => ⟨b, e, h⟩)) hKw hown3 hgrow3 hat3
      have hs1 : Hid (renOrds ord (n.vals.take (j + 1)) = renOrd ord' v) := by rw [renOrds_take_succ _ _ _ hjl, ← hvj.out, ← hord'.out]; rfl
      have hs2 : Hid (renVals ord (n.vals.take (j + 1)) = vs ++ [renVal ord' v]) := by rw [renVals_take_succ _ _ _ hjl, ← hvj.out, ← hord'.out, ← hvs.out]; rfl
      go_wp2
      go_roundw
      case rel => exact ⟨j + 1, renOrd ord' v, ma1, mc1, some ⟨gg, 0, none⟩, cc, vs ++ [renVal ord' v], hs1.out.symm, hs2.out.symm, by have := hvsl.out; show (vs ++ [renVal ord' v]).length = j + 1; simp [this], by omega, by go_num, hfin⟩
      case measure => simp [intOf]; omega
    · have e : j = n.vals.length := by omega
      have hvs2 : Hid (renVals ord n.vals = vs) := by have h8 := hvs.out; rw [e, List.take_length] at h8; exact h8.symm
      have hord2 : Hid (renOrds ord n.vals = ord') := by have h8 := hord'.out; rw [e, List.take_length] at h8; exact h8.symm
      obtain ⟨f1, f2⟩ := hD.far hbase (fun b hb => (hma0 b hb).2)
      obtain ⟨xz, x0, x1, xf, _⟩ := hD.x
      obtain ⟨rz, r0, r1, rf, _⟩ := hD.res
      have hC : Kept (fun k => k = w.heap.size) wr ((wr.setCell ⟨w.heap.size, 0, none⟩ (.int .i64 n.tag)).setCell ⟨w.heap.size, 1, none⟩ (.slice va vs.length vc)) := ((Kept.refl (fun k => k = w.heap.size) wr).set (fun _ => rfl) _).set (fun _ => rfl) _
      have hkept := hD.kept.trans hC (fun k hk hp => by omega)
      have hmeet := hD.meet.kept hC (by omega) (by omega) (fun b hb hp => by have := f1 b hb; omega)
      have hvals := hC.owns (owns_le hD.vals (show w.heap.size ≤ w.heap.size + 1 + 1 by omega)) (fun b hb hp => by have := f2 b (owns_addr hD.vals hb); omega)
      have hmaor := hD.maor
      have hap := hD.ap
      clear t0 t1 e
      go_wp2
      refine bodyPost_ret (v := .agg #[.int .i64 n.tag, .slice va vs.length vc]) (by simp [results, Tryz.results117, go_sem, r0, r1]) rfl ⟨ma, mc, va, vc, by rw [hvs2.out], by rw [hord2.out]; exact hmeet, ?_, by rw [hvs2.out]; exact hvals, hap, hkept⟩
      rcases hmaor with e | ⟨c, e, hc⟩
      · exact Or.inl e
      · exact Or.inr ⟨c, e, by omega⟩

end Go.Proofs.YthjddpkegooobacGreat
