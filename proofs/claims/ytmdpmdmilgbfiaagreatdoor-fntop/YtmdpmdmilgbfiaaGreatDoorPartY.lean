import Derived.Deep.Cut
import Derived.Test.YtmdpmdmilgbfiaaGreatDoorPartW
namespace Go.Proofs.YtmdpmdmilgbfiaaGreatDoor
open Go.RowKit
set_option maxRecDepth 100000
set_option maxHeartbeats 8000000
theorem l4ops_any (d : DD) (l : DL) (ia : Option Addr) (im : List Nat) (ic : Nat) (w : World) (hf : d.Fit) (ho : d.Ok) (ha : DAt w l d) (hia : BytesAt w ia im) (hib : ∀ x, x ∈ im → x < 256) (hil : im.length ≤ 4096) :
    Calls Tryz.prog 69 #[d.val l, .slice ia im.length ic] w (OAns (d.lay im) w) := by
  have hX0 := DBox.new w d l 46
  have hA0 := gal (gre w) (.cells #[.slice l.ba d.blocks.length l.bc, .slice l.wa d.waiting.length l.wc] 46)
  obtain ⟨k, hk⟩ := hid_ex d.newestOf
  have hr : k.Rng := by rw [hk.out]; exact newest_rng hf
  obtain ⟨hg0, hg1⟩ := hr.g
  obtain ⟨s, hs⟩ := hid_ex k.other
  have hs2 : s < 2 := by rw [hs.out]; exact k.other_lt
  obtain ⟨i0, hi, hz0, hz1, hz2⟩ := info_parts info_u8
  obtain ⟨M, hM⟩ := hid_ex (madeCells #[Value.int .u8 0] 64)
  have hmk : ∀ u : World, (Instr.makeSlice 22 (.int .i64 64) (.int .i64 64)).run Tryz.prog u = .ok (.slice (some ⟨u.heap.size, 0, none⟩) 64 64) (u.alloc (.cells M 5)) := fun u => by
    have h := run_make (P := Tryz.prog) u 22 5 i0 _ Tryz.underlying22 hi hz0 .i64 .i64 64 64 (by omega) (Int.le_refl _) (by rw [hz2]; omega) (by omega)
    rw [hM.out]
    simpa [hz1, Value.cells] using h
  have hways : (k.ok = false ∧ s = 0) ∨ (k.ok = true ∧ k.slot = 0 ∧ s = 1) ∨ (k.ok = true ∧ k.slot = 1 ∧ s = 0) := by
    rw [hs.out]
    cases e : k.ok with
    | false => exact Or.inl ⟨rfl, if_neg (fun h => by rw [e] at h; cases h.1)⟩
    | true =>
      rcases hr.s e with h | h
      · exact Or.inr (Or.inl ⟨rfl, h, if_pos ⟨e, h⟩⟩)
      · exact Or.inr (Or.inr ⟨rfl, h, if_neg (fun h2 => by rw [h] at h2; cases h2.2)⟩)
  obtain ⟨L, hL⟩ := hid_ex (d.lay im)
  rw [← hL.out]
  have hlay : Hid (L = if k.gen = 1000000000000 then [] else imgOps s im (nBlk im) ++ [syncO, headO k im, syncO]) := by show _ = _; rw [hL.out, hs.out, hk.out]; rfl
  go_enter Tryz.func69, Tryz.ntmps69
  go_upto_region 3 with (go_at_call 62; refine (l4newest_any d l _ hf ho (ha.grow hA0)).mono ?_; rw [← hk.out]; rintro e w1 ⟨oa1, c1, rfl, _, hB1, hn1, hb1⟩)
  have hV := V4.new_at w1 (.bool k.ok) (.int .i64 k.gen) (.int .i64 k.slot) (.slice oa1 k.bytes.length c1) 62 w1.heap.size rfl
  have hBV := gal (gca hA0 hb1) (.cells #[.bool k.ok, .int .i64 k.gen, .int .i64 k.slot, .slice oa1 k.bytes.length c1] 62)
  generalize w1.alloc (.cells #[.bool k.ok, .int .i64 k.gen, .int .i64 k.slot, .slice oa1 k.bytes.length c1] 62) = wV at hV hBV ⊢
  generalize w1.heap.size = R at hV ⊢
  clear hB1 hn1 hb1 hX0 hA0
  obtain ⟨_, q0, q1, q2, q3, qf⟩ := id hV
  obtain ⟨tb, htb⟩ := hid_ex (decide (s = 1))
  go_cut [20] from 14 (fun t wc => t = .bool tb ∧ wc = wV)
  case first =>
    rcases hways with ⟨k1, e1⟩ | ⟨k1, k2, e1⟩ | ⟨k1, k2, e1⟩
    · rw [k1] at q0
      go_wp2
      go_meet
      case rel => exact ⟨by rw [htb.out, e1]; rfl, rfl⟩
    · rw [k1] at q0
      rw [k2] at q2
      go_wp2
      go_meet
      case rel => exact ⟨by rw [htb.out, e1]; rfl, rfl⟩
    · rw [k1] at q0
      rw [k2] at q2
      go_wp2
      go_meet
      case rel => exact ⟨by rw [htb.out, e1]; rfl, rfl⟩
  case rest =>
    obtain ⟨rfl, hwc⟩ := hcut; obtain rfl := hwc.symm
    go_upto_if 20 with fail
    go_cut [6] from 14 (fun v wc => v = .int .i64 (s : Int) ∧ wc = wV)
    case first =>
      cases tb with
      | true =>
        have e1 : s = 1 := by simpa using htb.out.symm
        go_wp2
        go_meet
        case rel => exact ⟨by rw [e1]; rfl, rfl⟩
      | false =>
        have e1 : s = 0 := by have : s ≠ 1 := by simpa using htb.out.symm
                              omega
        go_wp2
        go_meet
        case rel => exact ⟨by rw [e1]; rfl, rfl⟩
    case rest =>
      obtain ⟨rfl, hwc⟩ := hcut; obtain rfl := hwc.symm
      clear hways htb
      by_cases hmax : k.gen = 1000000000000
      · have hLn : L = [] := by rw [hlay.out, if_pos hmax]
        have hmx : (k.gen == 1000000000000) = true := by rw [hmax]; rfl
        subst hLn
        go_wp2
        go_ret
        exact OAns.no hBV
      · have hLe : Hid (L = imgOps s im (nBlk im) ++ [syncO, headO k im, syncO]) := by show _ = _; rw [hlay.out, if_neg hmax]
        have hmx : (k.gen == 1000000000000) = false := by simp [hmax]
        clear hL hlay
        obtain ⟨j0, hj, hy0, hy1, hy2⟩ := info_parts info_implOp
        obtain ⟨bV, hbV⟩ := hid_ex wV.heap.size
        have hRV : R < bV := by rw [hbV.out]; exact hV.lt
        have hwV : w.heap.size ≤ bV := by rw [hbV.out]; exact hBV.size
        have hbV0 : bV ≤ wV.heap.size := by rw [hbV.out]; exact Nat.le_refl _
        go_wp2
        go_loopw [7, 8] (fun o a wr => ∃ (j : Nat) (oa : Option Addr) (oc : Nat) (lo : List LO), j ≤ nBlk im ∧ a = .int .i64 ((64 * j : Nat) : Int) ∧ o = .slice oa lo.length oc ∧ Hid (lo.map LO.x = imgOps s im j) ∧ SO bV wr oa oc lo ∧ V4 wr R (.bool k.ok) (.int .i64 k.gen) (.int .i64 k.slot) (.slice oa1 k.bytes.length c1) ∧ Below w.heap.size w wr ∧ bV ≤ wr.heap.size) (fun _ a _ => im.length + 64 - (intOf a).toNat)
        case atStart => exact ⟨0, none, 0, [], Nat.zero_le _, rfl, rfl, rfl, SO.nil _ _, hV, hBV, hbV0⟩
        case round =>
          obtain ⟨j, oa, oc, lo, hjn, rfl, rfl, hlo, hSO, hVr, hBr, hbr⟩ := hrel
          have hll : Hid (lo.length = j) := by show _ = _; have := congrArg List.length hlo.out; rw [List.length_map, imgOps_len] at this; exact this
          obtain ⟨p, hp⟩ := hid_ex (64 * j)
          rw [← hp.out]
          by_cases hlt : j < nBlk im
          · have hpl : (p : Int) < (im.length : Int) := by have := nBlk_lt.1 hlt; have := hp.out; omega
            have hZ0 := zrow_made wr M hM.out
            have hBm := gal (gre wr) (.cells M 5)
            obtain ⟨cu, hcu⟩ := hid_ex (cutOf im j)
            have hcl : Hid (cu.length = min 64 (im.length - p)) := by show _ = _; rw [hcu.out, hp.out]; exact cut_len im j
            go_wp2
            generalize wr.alloc (.cells M 5) = wB at hZ0 hBm ⊢
            obtain ⟨Bb, hBb⟩ := hid_ex wr.heap.size
            rw [← hBb.out] at hZ0 ⊢
            go_loopw [10] (fun i wi => ∃ t : Nat, t ≤ cu.length ∧ i = .int .i64 ((p + t : Nat) : Int) ∧ ZRow wi Bb 64 (cu.take t) ∧ Kept (fun z => z = Bb) wB wi) (fun i _ => p + 64 - (intOf i).toNat)
            case atStart => exact ⟨0, Nat.zero_le _, rfl, hZ0, Kept.refl _ _⟩
            case round =>
              obtain ⟨t, ht, rfl, hZ, hK⟩ := hrel
              obtain ⟨q, hq⟩ := hid_ex (p + t)
              rw [← hq.out]
              have hBi : Below w.heap.size w wr := (gca hBr hBm).trans (hK.below (B := w.heap.size) (gca hBr hBm).size (fun z hz e => by have := hBb.out; have := hBr.size; omega))
              have htl : Hid ((cu.take t).length = t) := by show _ = _; rw [List.length_take]; omega
              by_cases hlt2 : t < cu.length
              · have hc1 := hcl.out
                have hq1 := hq.out
                have w1' : (q : Int) < (im.length : Int) := by omega
                have w2' : (q : Int) < (p : Int) + 64 := by omega
                have w3' : (0 : Int) ≤ (q : Int) := by omega
                have hsub : (q : Int) - (p : Int) = (t : Int) := by omega
                have w4' : (0 : Int) ≤ (t : Int) := by omega
                have w5' : (t : Int) < 64 := by omega
                obtain ⟨x, b, off, hxk, hxm, hie, hc⟩ := (hia.grow hBi).get (k := q) (by omega)
                have d0 := hZ.2.cell (i := t) (by omega)
                have fz := hZ.2.frozen
                rw [hie]
                have hst : cu.take (t + 1) = cu.take t ++ [x] := by rw [take_snoc _ _ hlt2, hxk.out, hq.out, hcu.out, hp.out]; rw [hcu.out] at hlt2; rw [(cut_get hlt2).2.2]
                have hZp := hZ.push (by rw [htl.out]; omega) x
                rw [htl.out, ← hst] at hZp
                clear hc1 hq1
                go_wp2
                go_roundw
                case rel => exact ⟨t + 1, by omega, by rw [show p + (t + 1) = q + 1 by have := hq.out; omega]; go_num, hZp, hK.set (fun _ => rfl) _⟩
                case measure => simp [intOf]; have := hq.out; omega
              · have hte : t = cu.length := by omega
                subst hte
                rw [List.take_length] at hZ
                obtain ⟨bl, hbl⟩ := hid_ex (blkOf im j)
                have hble : cu ++ List.replicate (64 - cu.length) 0 = bl := by rw [hbl.out, hcu.out]; rfl
                have hcu64 : cu.length ≤ 64 := by rw [hcu.out]; exact cutOf_len im j
                have hfull : BRow wr Bb 64 bl := by rw [← hble]; exact hZ.full (n := 64 - cu.length) (Nat.add_sub_cancel' hcu64)
                have hbll : Hid (bl.length = 64) := by show _ = _; rw [hbl.out]; exact blkOf_len im j
                have hBoi := hBm.trans (hK.below (B := _) hBm.size (fun z hz e => by have := hBb.out; omega))
                have hSi := hSO.grow hBoi
                have hVi := hVr.grow hBoi
                have hq64 : (p : Int) / 64 = (j : Int) := by have := hp.out; omega
                obtain ⟨F, hF⟩ := hid_ex (firstOf s + j)
                have hF' : ((firstOf s : Nat) : Int) + (j : Int) = (F : Int) := by rw [hF.out]; omega
                have hFl : F ≤ 200 := by rw [hF.out]; exact first_le hs2 (Nat.le_of_lt (Nat.lt_of_lt_of_le hlt (nBlk_le hil)))
                have hFw := wrapV hFl
                have hends : ¬ ((q : Int) < (im.length : Int)) ∨ ((q : Int) < (im.length : Int) ∧ ¬ ((q : Int) < (p : Int) + 64)) := by have := hcl.out; have := hq.out; omega
                have hbri : bV ≤ wr.heap.size := by have := hK.size; have := hBm.size; omega
                have hlj : lo.length ≤ 64 := by rw [hll.out]; exact Nat.le_of_lt (Nat.lt_of_lt_of_le hlt (nBlk_le hil))
                rcases hends with w1' | ⟨w1', w2'⟩
                · go_wp2_with (first
                    | (go_at_call 111; refine (l4first_any s _ hs2).mono ?_; rintro e wl ⟨rfl, hbl1⟩; have hSl := hSi.grow hbl1; have hsl := hbl1.size)
                    | (at_builtin; refine wpList_append_lies _ rfl (.tmp 53) (.tmp 61) 52 rfl bV 101 j0 _ 3 40 Tryz.underlying52 hj hy0 hy1 hy2 rfl (by decide) _ _ _ rfl (hSl.own.alloc _) ⟨wl.heap.size, 0, none⟩ 1 1 [.bool false, .int .i64 (F : Int), .slice (some ⟨Bb, 0, none⟩) 64 64] rfl rfl (World.news_of_block (cs := #[.bool false, .int .i64 (F : Int), .slice (some ⟨Bb, 0, none⟩) 64 64]) (t := 101) (fr := (0, 0)) (blk_new_at _ _ _ (by simp))) (by simp [Value.oneCell']) (by decide) (by unfold maxLen; omega) (by omega) (by simp; omega) (wl.heap.size + 1) (by simp) ?_; intro g1 cc1 wa ho1 hg1 _ _))
                  have hSm := hSl.grow (gal (gre wl) (.cells #[.bool false, .int .i64 (F : Int), .slice (some ⟨Bb, 0, none⟩) 64 64] 101))
                  have hfu := hfull.kept (Kept.of_below (gca hbl1 (gal (gre wl) (.cells #[.bool false, .int .i64 (F : Int), .slice (some ⟨Bb, 0, none⟩) 64 64] 101))) (fun _ => False)) (fun e => e)
                  have hSO1 := hSm.more (ys := [⟨⟨false, (F : Int), bl⟩, some ⟨Bb, 0, none⟩, 64⟩]) (fun y hy => by rw [List.mem_singleton.1 hy]; exact Or.inr ⟨Bb, 64, rfl, by have := hBb.out; omega, hfu⟩) (hSO.far1 (fun b _ e => by have := some_addr e; have := hBb.out; omega)) (by simp only [oCells, LO.three, List.flatMap_cons, List.flatMap_nil, List.append_nil, hbll.out]; exact ho1) hg1
                  have hz1' : ∀ z, (Value.slice oa lo.length oc).ownBlock = some z → bV ≤ z := fun z e => (owns_isO hSm.own e).2
                  have hKa := Kept.of_grown hg1
                  have hVa := (hVi.grow (gca hbl1 (gal (gre wl) (.cells #[.bool false, .int .i64 (F : Int), .slice (some ⟨Bb, 0, none⟩) 64 64] 101)))).kept hKa (fun e => by have := hz1' _ e; omega)
                  have hBa := (gal (gca hBi hbl1) (.cells #[.bool false, .int .i64 (F : Int), .slice (some ⟨Bb, 0, none⟩) 64 64] 101)).trans (hKa.below (B := w.heap.size) (by have := hBi.size; simp; omega) (fun z hz e => by have := hz1' z e; omega))
                  have hsa : bV ≤ wa.heap.size := by have := hKa.size; simp at this; omega
                  go_roundw
                  case rel => exact ⟨j + 1, _, _, _, by omega, by have := hp.out; rw [show 64 * (j + 1) = p + 64 by omega]; go_num, by rw [List.length_append]; rfl, by show _ = _; rw [List.map_append, hlo.out, imgOps_succ, hF.out, hbl.out]; rfl, hSO1, hVa, hBa, hsa⟩
                  case measure => simp [intOf]; omega
                · go_wp2_with (first
                    | (go_at_call 111; refine (l4first_any s _ hs2).mono ?_; rintro e wl ⟨rfl, hbl1⟩; have hSl := hSi.grow hbl1; have hsl := hbl1.size)
                    | (at_builtin; refine wpList_append_lies _ rfl (.tmp 53) (.tmp 61) 52 rfl bV 101 j0 _ 3 40 Tryz.underlying52 hj hy0 hy1 hy2 rfl (by decide) _ _ _ rfl (hSl.own.alloc _) ⟨wl.heap.size, 0, none⟩ 1 1 [.bool false, .int .i64 (F : Int), .slice (some ⟨Bb, 0, none⟩) 64 64] rfl rfl (World.news_of_block (cs := #[.bool false, .int .i64 (F : Int), .slice (some ⟨Bb, 0, none⟩) 64 64]) (t := 101) (fr := (0, 0)) (blk_new_at _ _ _ (by simp))) (by simp [Value.oneCell']) (by decide) (by unfold maxLen; omega) (by omega) (by simp; omega) (wl.heap.size + 1) (by simp) ?_; intro g1 cc1 wa ho1 hg1 _ _))
                  have hSm := hSl.grow (gal (gre wl) (.cells #[.bool false, .int .i64 (F : Int), .slice (some ⟨Bb, 0, none⟩) 64 64] 101))
                  have hfu := hfull.kept (Kept.of_below (gca hbl1 (gal (gre wl) (.cells #[.bool false, .int .i64 (F : Int), .slice (some ⟨Bb, 0, none⟩) 64 64] 101))) (fun _ => False)) (fun e => e)
                  have hSO1 := hSm.more (ys := [⟨⟨false, (F : Int), bl⟩, some ⟨Bb, 0, none⟩, 64⟩]) (fun y hy => by rw [List.mem_singleton.1 hy]; exact Or.inr ⟨Bb, 64, rfl, by have := hBb.out; omega, hfu⟩) (hSO.far1 (fun b _ e => by have := some_addr e; have := hBb.out; omega)) (by simp only [oCells, LO.three, List.flatMap_cons, List.flatMap_nil, List.append_nil, hbll.out]; exact ho1) hg1
                  have hz1' : ∀ z, (Value.slice oa lo.length oc).ownBlock = some z → bV ≤ z := fun z e => (owns_isO hSm.own e).2
                  have hKa := Kept.of_grown hg1
                  have hVa := (hVi.grow (gca hbl1 (gal (gre wl) (.cells #[.bool false, .int .i64 (F : Int), .slice (some ⟨Bb, 0, none⟩) 64 64] 101)))).kept hKa (fun e => by have := hz1' _ e; omega)
                  have hBa := (gal (gca hBi hbl1) (.cells #[.bool false, .int .i64 (F : Int), .slice (some ⟨Bb, 0, none⟩) 64 64] 101)).trans (hKa.below (B := w.heap.size) (by have := hBi.size; simp; omega) (fun z hz e => by have := hz1' z e; omega))
                  have hsa : bV ≤ wa.heap.size := by have := hKa.size; simp at this; omega
                  go_roundw
                  case rel => exact ⟨j + 1, _, _, _, by omega, by have := hp.out; rw [show 64 * (j + 1) = p + 64 by omega]; go_num, by rw [List.length_append]; rfl, by show _ = _; rw [List.map_append, hlo.out, imgOps_succ, hF.out, hbl.out]; rfl, hSO1, hVa, hBa, hsa⟩
                  case measure => simp [intOf]; omega
          · have hpl : ¬ ((p : Int) < (im.length : Int)) := by have : ¬ 64 * j < im.length := fun e => hlt (nBlk_lt.2 e)
                                                               have := hp.out; omega
            obtain rfl : j = nBlk im := by omega
            have hn : nBlk im ≤ 64 := nBlk_le hil
            have hls : lo.length ≤ 64 := by rw [hll.out]; exact hn
            have hszr := hBr.size
            go_upto_region 18 with (at_builtin; refine wpList_append_lies _ rfl (.tmp 63) (.tmp 65) 52 rfl bV 101 j0 _ 3 40 Tryz.underlying52 hj hy0 hy1 hy2 rfl (by decide) _ _ _ rfl (hSO.own.alloc _) ⟨wr.heap.size, 0, none⟩ 1 1 [.bool true, .int .i64 0, .slice none 0 0] rfl rfl (World.news_of_block (cs := #[.bool true, .int .i64 0, .slice none 0 0]) (t := 101) (fr := (0, 0)) (blk_new_at _ _ _ (by simp))) (by simp [Value.oneCell']) (by decide) (by unfold maxLen; omega) (by omega) (by simp; omega) (wr.heap.size + 1) (by simp) ?_; intro g1 cc1 wa ho1 hg1 _ _)
            have hSa := hSO.grow (gal (gre wr) (.cells #[.bool true, .int .i64 0, .slice none 0 0] 101))
            have hSO1 := hSa.more (ys := [⟨syncO, none, 0⟩]) (fun y hy => Or.inl (by rw [List.mem_singleton.1 hy]; rfl)) (hSa.far1 (fun b hb => absurd rfl hb)) ho1 hg1
            have hz1' : ∀ z, (Value.slice oa lo.length oc).ownBlock = some z → bV ≤ z := fun z e => (owns_isO hSa.own e).2
            have hKa := Kept.of_grown hg1
            have hVa := (hVr.grow (gal (gre wr) (.cells #[.bool true, .int .i64 0, .slice none 0 0] 101))).kept hKa (fun e => by have := hz1' _ e; omega)
            have hBa := (gal hBr (.cells #[.bool true, .int .i64 0, .slice none 0 0] 101)).trans (hKa.below (B := w.heap.size) (by simp; omega) (fun z hz e => by have := hz1' z e; omega))
            have hsa : bV ≤ wa.heap.size := by have := hKa.size; simp at this; omega
            clear hg1 ho1 hSa hz1' hKa hSO
            obtain ⟨sm, hsm⟩ := hid_ex (sumN im)
            have ew1 : IntKind.i64.wrap (k.gen + 1) = k.gen + 1 := by rw [IntKind.wrap_i64]; omega
            have ew2 : IntKind.i64.wrap (sm : Int) = wrap64 (sm : Int) := by first | rfl | (rw [IntKind.wrap_i64]; unfold wrap64; omega)
            have hB : Below wa.heap.size wa wa.drew := gdr (gre _)
            have hSd := hVa.grow hB
            go_cut [11] from 67 (fun v wc => ∃ H, v = .pointer (some ⟨H, 0, none⟩) ∧ HBox wc H true (k.gen + 1) (im.length : Int) (wrap64 (sm : Int)) ∧ Below wa.heap.size wa wc)
            case first =>
              refine wp_regionU (fun u => V4 u R (.bool k.ok) (.int .i64 k.gen) (.int .i64 k.slot) (.slice oa1 k.bytes.length c1)) 99 (by kernel_rfl) hSd (fun _ => ?_)
              generalize wa.drew = wq at hB hSd ⊢
              refine anyU_tk (i := 0) rfl hSd (fun u hSu => by obtain ⟨_, s0, s1, s2, s3, sf⟩ := hSu; go_simp <;> with_reducible rfl) ?_
              refine anyU_tk (i := 1) rfl hSd (fun u hSu => by obtain ⟨_, s0, s1, s2, s3, sf⟩ := hSu; go_simp <;> with_reducible rfl) ?_
              refine anyU_tk (i := 2) rfl hSd (fun u hSu => by obtain ⟨_, s0, s1, s2, s3, sf⟩ := hSu; go_simp <;> with_reducible rfl) ?_
              refine anyU_tk (i := 3) rfl hSd (fun u hSu => by obtain ⟨_, s0, s1, s2, s3, sf⟩ := hSu; go_simp <;> with_reducible rfl) ?_
              refine anyU_tk (i := 4) rfl hSd (fun u hSu => by obtain ⟨_, s0, s1, s2, s3, sf⟩ := hSu; go_simp <;> with_reducible rfl) ?_
              refine anyU_tk (i := 5) rfl hSd (fun u hSu => by obtain ⟨_, s0, s1, s2, s3, sf⟩ := hSu; go_simp <;> with_reducible rfl) ?_
              simp only [Act.put, List.getElem_toArray, List.getElem_cons_zero, List.getElem_cons_succ, List.setIfInBounds_toArray, List.set_cons_zero, List.set_cons_succ]
              refine anyU_pair (i := 6) (j := 9) (by kernel_rfl) rfl rfl (fun K hK => ?_) (fun K hK => ?_)
              · go_simp
                refine (l2sum_any ia im ic _ (hia.grow (gca hBa hB)) (by unfold maxLen; omega) hib).mono ?_
                rw [← hsm.out]
                rintro e w6 ⟨rfl, hb6⟩
                have hS6 := hSd.grow hb6
                refine hK.out _ _ hS6 ?_
                clear hK
                refine anyU_tk (i := 7) rfl hS6 (fun u hSu => by obtain ⟨_, s0, s1, s2, s3, sf⟩ := hSu; go_simp <;> with_reducible rfl) ?_
                refine anyU_tk (i := 8) rfl hS6 (fun u hSu => by obtain ⟨_, s0, s1, s2, s3, sf⟩ := hSu; go_simp <;> with_reducible rfl) ?_
                simp only [Act.put, List.getElem_toArray, List.getElem_cons_zero, List.getElem_cons_succ, List.setIfInBounds_toArray, List.set_cons_zero, List.set_cons_succ]
                have hS7 := hS6.grow (gal (gre w6) (.cells #[.bool false, .int .i64 0, .int .i64 0, .int .i64 0] 65))
                refine anyU_one (i := 9) (by kernel_rfl) rfl (fun K hK => ?_)
                go_simp
                refine hK.out _ _ hS7 ?_
                clear hK
                refine anyU_one (i := 10) (by kernel_rfl) rfl (fun K hK => ?_)
                go_simp
                have hS8 := hS6.grow (gal (gre w6) (.cells #[.bool true, .int .i64 (k.gen + 1), .int .i64 (im.length : Int), .int .i64 (wrap64 (sm : Int))] 65))
                refine hK.out _ _ hS8 ?_
                clear hK
                refine anyU_done (by kernel_rfl) ?_
                go_wp2
                go_meet
                case rel => exact ⟨w6.heap.size, rfl, HBox.new w6 _ _ _ _ _, gal (gca hB hb6) _⟩
              · go_simp
                have hS6 := hSd.grow (gal (gre _) (.cells #[.bool false, .int .i64 0, .int .i64 0, .int .i64 0] 65))
                refine hK.out _ _ hS6 ?_
                clear hK
                have hHz := HV.new_at wq noH 65 wq.heap.size rfl
                have hbz := gal hB (.cells #[.bool false, .int .i64 0, .int .i64 0, .int .i64 0] 65)
                have hdz := hB.size
                have hRq := hSd.lt
                generalize wq.alloc (.cells #[.bool false, .int .i64 0, .int .i64 0, .int .i64 0] 65) = wz at hS6 hHz hbz ⊢
                generalize wq.heap.size = H at hHz hdz hRq ⊢
                refine anyU_one (i := 6) (by kernel_rfl) rfl (fun K hK => ?_)
                go_simp
                refine (l2sum_any ia im ic _ (hia.grow (gca hBa hbz)) (by unfold maxLen; omega) hib).mono ?_
                rw [← hsm.out]
                rintro e w6 ⟨rfl, hb6⟩
                have hS7 := hS6.grow hb6
                have hH7 := hHz.grow hb6
                refine hK.out _ _ hS7 ?_
                clear hK
                refine anyU_one (i := 7) (by kernel_rfl) rfl (fun K hK => ?_)
                go_simp
                refine hK.out _ _ hS7 ?_
                clear hK
                refine anyU_one (i := 8) (by kernel_rfl) rfl (fun K hK => ?_)
                go_simp
                refine hK.out _ _ hS7 ?_
                clear hK
                obtain ⟨⟨_, y0, y1, y2, y3⟩, yf⟩ := id hH7
                refine anyU_one (i := 10) (by kernel_rfl) rfl (fun K hK => ?_)
                go_simp
                obtain ⟨r0, r1, r2, r3, KR⟩ := ret4 hH7 (.bool true) (.int .i64 (k.gen + 1)) (.int .i64 (im.length : Int)) (.int .i64 (wrap64 (sm : Int)))
                have hS8 := hS7.kept KR (by omega)
                refine hK.out _ _ hS8 ?_
                clear hK
                refine anyU_done (by kernel_rfl) ?_
                go_wp2
                go_meet
                case rel => exact ⟨H, rfl, ⟨by have := KR.size; have := hH7.box.lt; omega, (World.cell?_setCell_other _ _ _ _ (by simp)).trans ((World.cell?_setCell_other _ _ _ _ (by simp)).trans ((World.cell?_setCell_other _ _ _ _ (by simp)).trans r0)), (World.cell?_setCell_other _ _ _ _ (by simp)).trans ((World.cell?_setCell_other _ _ _ _ (by simp)).trans r1), (World.cell?_setCell_other _ _ _ _ (by simp)).trans r2, r3⟩, (gca hbz hb6).trans (KR.below (B := wa.heap.size) (gca hbz hb6).size (fun z hz e => by omega))⟩
            case rest =>
              obtain ⟨H, rfl, hH, hbc⟩ := hcut
              obtain ⟨lo1, hlo1⟩ := hid_ex (lo ++ [⟨syncO, none, 0⟩])
              rw [← hlo1.out] at hSO1
              have hl1 : Hid (lo1.length = lo.length + 1) := by show _ = _; rw [hlo1.out, List.length_append]; rfl
              have hSc := hSO1.grow hbc
              have hBc := gca hBa hbc
              have hsc : bV ≤ wc.heap.size := by have := hbc.size; omega
              clear hSO1 hVa hB hSd hBa hsa hbc ew1 ew2
              obtain ⟨_, n0, n1, n2, n3⟩ := id hH
              obtain ⟨hb, hhb⟩ := hid_ex (headB (k.gen + 1) (im.length : Int) (wrap64 (sm : Int)))
              have hbl : hb.length ≤ 64 := by rw [hhb.out, headB_length]; omega
              go_upto_region 20 with (first
                | (go_at_call 112; refine (l4block_any true (k.gen + 1) (im.length : Int) (wrap64 (sm : Int)) _).mono ?_; rw [← hhb.out]; rintro e wd ⟨ob, cb, rfl, hOb, hbd⟩; have hSD := hSc.grow hbd; have hsd := hbd.size)
                | (at_builtin; refine wpList_append_lies _ rfl (.tmp 76) (.tmp 81) 52 rfl bV 101 j0 _ 3 40 Tryz.underlying52 hj hy0 hy1 hy2 rfl (by decide) _ _ _ rfl ((hSD.own_at hl1.out).alloc _) ⟨wd.heap.size, 0, none⟩ 1 1 [.bool false, .int .i64 (s : Int), .slice ob hb.length cb] rfl rfl (World.news_of_block (cs := #[.bool false, .int .i64 (s : Int), .slice ob hb.length cb]) (t := 101) (fr := (0, 0)) (blk_new_at _ _ _ (by simp))) (by simp [Value.oneCell']) (by decide) (by unfold maxLen; omega) (by omega) (by simp; omega) (wd.heap.size + 1) (by simp) ?_; intro g2 cc2 we ho2 hg2 _ _))
              have hMb := owns_mbO hOb rfl
              have hfar2 := hSc.far1 (y := ⟨⟨false, (s : Int), hb⟩, ob, cb⟩) (fun b hne e => by rcases hMb with e0 | ⟨G, n, e1, e2, _⟩; exact absurd e0 hne; rw [e1] at e; have := some_addr e; omega)
              have hSe := hSD.grow (gal (gre wd) (.cells #[.bool false, .int .i64 (s : Int), .slice ob hb.length cb] 101))
              have hSO2 := hSe.more (ys := [⟨⟨false, (s : Int), hb⟩, ob, cb⟩]) (fun y hy => by rw [List.mem_singleton.1 hy]; exact (hMb.growO (gal (gre wd) _)).leO hsc) hfar2 (by rw [hl1.out]; exact ho2) (by rw [hl1.out]; exact hg2)
              have hz2' : ∀ z, (Value.slice (some ⟨g1, 0, none⟩) lo1.length cc1).ownBlock = some z → bV ≤ z := fun z e => (owns_isO hSe.own e).2
              rw [hl1.out] at hz2'
              have hKe := Kept.of_grown hg2
              have hBe := (gal (gca hBc hbd) (.cells #[.bool false, .int .i64 (s : Int), .slice ob hb.length cb] 101)).trans (hKe.below (B := w.heap.size) (by have := hbd.size; have := hBc.size; simp; omega) (fun z hz e => by have := hz2' z e; omega))
              have hse : bV ≤ we.heap.size := by have := hKe.size; simp at this; omega
              obtain ⟨lo2, hlo2⟩ := hid_ex (lo1 ++ [⟨⟨false, (s : Int), hb⟩, ob, cb⟩])
              rw [← hlo2.out] at hSO2
              have hl2 : Hid (lo2.length = lo.length + 1 + 1) := by show _ = _; rw [hlo2.out, List.length_append, hl1.out]; rfl
              clear ho2 hg2 hSe hz2' hKe hfar2 hMb hOb hSD hSc hBc hH n0 n1 n2 n3
              go_wp2_with (at_builtin; refine wpList_append_lies _ rfl (.tmp 83) (.tmp 85) 52 rfl bV 101 j0 _ 3 40 Tryz.underlying52 hj hy0 hy1 hy2 rfl (by decide) _ _ _ rfl ((hSO2.own_at hl2.out).alloc _) ⟨we.heap.size, 0, none⟩ 1 1 [.bool true, .int .i64 0, .slice none 0 0] rfl rfl (World.news_of_block (cs := #[.bool true, .int .i64 0, .slice none 0 0]) (t := 101) (fr := (0, 0)) (blk_new_at _ _ _ (by simp))) (by simp [Value.oneCell']) (by decide) (by unfold maxLen; omega) (by omega) (by simp; omega) (we.heap.size + 1) (by simp) ?_; intro g3 cc3 wf ho3 hg3 _ _)
              go_ret
              have hSf := hSO2.grow (gal (gre we) (.cells #[.bool true, .int .i64 0, .slice none 0 0] 101))
              have hSO3 := hSf.more (ys := [⟨syncO, none, 0⟩]) (fun y hy => Or.inl (by rw [List.mem_singleton.1 hy]; rfl)) (hSf.far1 (fun b hb => absurd rfl hb)) (by rw [hl2.out]; exact ho3) (by rw [hl2.out]; exact hg3)
              have hz3' : ∀ z, (Value.slice (some ⟨g2, 0, none⟩) lo2.length cc2).ownBlock = some z → bV ≤ z := fun z e => (owns_isO hSf.own e).2
              rw [hl2.out] at hz3'
              have hKf := Kept.of_grown hg3
              have hBf := (gal hBe (.cells #[.bool true, .int .i64 0, .slice none 0 0] 101)).trans (hKf.below (B := w.heap.size) (by have := hBe.size; simp; omega) (fun z hz e => by have := hz3' z e; omega))
              have hLl : L.length = lo.length + 1 + 1 + 1 := by rw [hLe.out, List.length_append, imgOps_len, hll.out]; rfl
              refine ⟨some ⟨g3, 0, none⟩, cc3, _, by rw [hLl]; rfl, ?_, hSO3.le hwV, hBf⟩
              rw [List.map_append, hlo2.out, List.map_append, hlo1.out, List.map_append, hlo.out, hLe.out, hhb.out, hsm.out, hs.out]
              simp [headO]
theorem do_lay1 (base : Nat) (d : DD) (l : DL) (lb : List LB) (lw : List LW) (x : AC) (ga : Option Addr) (gc : Nat) (ka : Option Addr) (kc : Nat) (w : World) (hbw : base ≤ w.heap.size) (hG : GoodD d) (hS : SD base w l d lb lw) (hg : x.graph.Ok) (hga : NodesAt w.heap.size w ga x.graph.nodes) (_hka : BoolsAt w ka x.kept) (_hkl : x.kept.length ≤ maxLen) (hok : x.okA = true) (ho : Hid (x.op = 1)) (hp0 : Hid (packB x.graph ≠ [])) : Calls Tryz.prog 33 #[d.val l, x.val ga gc ka kc] w (SDo base (d.laidC x, ⟨0, (d.laidC x).newestOf.gen, zeroG⟩) w) := by
 have hf := DD.fit hG.ok
 have hr := newest_rng hf
 obtain ⟨f0, hf1, hf2, hf3, hf4⟩ := laid_some hG x
 have hCG := laidC_good hG x
 obtain ⟨c, hc⟩ := hid_ex (d.laidC x)
 rw [← hc.out] at hCG ⊢
 obtain ⟨p, hp⟩ := hid_ex (packB x.graph)
 have hpl : p.length ≤ 4096 := by rw [hp.out]; exact packB_lenK x.graph
 have hpb : ∀ z, z ∈ p → z < 256 := by rw [hp.out]; exact packB_bytesK x.graph
 have hpne : ((p.length : Int) == 0) = false := by
  rw [beq_eq_false_iff_ne]
  intro e
  exact hp0.out (by rw [← hp.out]; exact List.eq_nil_of_length_eq_zero (by omega))
 have hoo := lay_opsOk d ⟨hr.g.2, hr.g.1⟩ hpb hpl
 rw [← hp.out] at hf1
 obtain ⟨ops, hops⟩ := hid_ex (d.lay p)
 rw [← hops.out] at hoo hf1
 obtain ⟨n, hn⟩ := hid_ex (x.cutN ops.length)
 have hnl : n ≤ ops.length := by rw [hn.out]; exact x.cutN_le _
 rw [← hn.out] at hf1
 have hf1' : Hid _ := hf1
 have hce : Hid (c = f0) := by show _ = _; rw [hc.out]; unfold DD.laidC; rw [hf2, if_neg (by rw [ho.out]; decide)]
 clear hf1 hf2
 have hok' : Hid _ := hok
 clear hok
 have hB := do_boxes d l x ga gc ka kc w
 go_enter Tryz.func33, Tryz.ntmps33
 go_upto_region 1 with fail
 generalize (((w.alloc (.cells #[.slice l.ba d.blocks.length l.bc, .slice l.wa d.waiting.length l.wc] 46)).alloc (.cells #[.int .i64 x.op, .int .i64 x.graph.root.kind, .int .i64 x.graph.root.num, .string x.graph.root.text, .int .i64 x.graph.root.node, .slice ga x.graph.nodes.length gc, .int .i64 x.steps, .slice ka x.kept.length kc, .int .i64 x.block, .int .i64 x.byte, .int .i64 x.xor] 41)).alloc (.cells #[.slice none 0 0, .slice none 0 0] 46)).alloc (.cells #[.int .i64 0, .int .i64 0, .int .i64 0, .int .i64 0, .string ⟨#[]⟩, .int .i64 0, .slice none 0 0] 34) = w1 at hB ⊢
 obtain ⟨hX, hY, hR, hT, hRd, hTd, hA, hs1⟩ := hB
 obtain ⟨p0, p1, p2, p3, p4, p5, p6, p7, p8, p9, p10⟩ := id hY
 simp only [Nat.zero_add] at p1 p2 p3 p4 p5 p6 p7 p8 p9 p10
 go_upto_region 3 with (go_at_call 67; refine (l5actOk_any x ga gc ka kc _).mono ?_; rintro e w2 ⟨rfl, hb2⟩; rw [hok'.out])
 have hX2 := hX.grow hb2
 have hY2 := hY.grow hb2
 have hR2 := hR.grow hb2
 have hT2 := hT.grow hb2
 have hRd2 := hRd.grow hb2
 have hTd2 := hTd.grow hb2
 have hA2 := gca hA hb2
 have hs2 := hb2.size
 clear p0 p1 p2 p3 p4 p5 p6 p7 p8 p9 p10 hX hY hR hT hRd hTd hA hb2
 obtain ⟨_, x0, x1⟩ := id hX2
 obtain ⟨p0, p1, p2, p3, p4, p5, p6, p7, p8, p9, p10⟩ := id hY2
 simp only [Nat.zero_add] at p1 p2 p3 p4 p5 p6 p7 p8 p9 p10
 have b3 : (x.op == 3) = false := by rw [ho.out]; rfl
 have b4 : (x.op == 4) = false := by rw [ho.out]; rfl
 have b2 : (x.op == 2) = false := by rw [ho.out]; rfl
 go_upto_region 14 with (first
  | (go_at_call 16; refine (specPack_any ga gc x.graph _ hg (hga.grow hA2)).mono ?_; rw [← hp.out]; rintro e w3 ⟨oa, oc, rfl, hM3, hb3⟩; obtain ⟨_, x0, x1⟩ := hX2.grow hb3)
  | (go_at_call 69; refine (l4ops_any d l oa p oc _ hf hG.o (hS.grow (gca hA2 hb3)).at_ (owns_bytesO hM3) hpb hpl).mono ?_; rw [← hops.out]; rintro e w4 ⟨pa, pc, lo, rfl, hlo, hSO, hb4⟩))
 have hB4 := gca hb3 hb4
 have hoat := hSO.at_
 rw [hlo] at hoat
 clear p0 p1 p2 p3 p4 p5 p6 p7 p8 p9 p10 x0 x1 hM3 hSO
 obtain ⟨p0, p1, p2, p3, p4, p5, p6, p7, p8, p9, p10⟩ := hY2.grow hB4
 simp only [Nat.zero_add] at p1 p2 p3 p4 p5 p6 p7 p8 p9 p10
 have hno : n = ops.length := by rw [hn.out]; exact if_neg (fun h => by have := h.1; rw [ho.out] at this; cases this)
 obtain ⟨_, x0, x1⟩ := hX2.grow hB4
 go_upto_region 17 with (go_at_call 70; refine (l4apply_any d l pa ops pc n _ _ (by rw [hno]) hG.ok hG.o (hS.grow (gca hA2 hB4)).at_ hoo hoat hnl).mono ?_; rintro e w5 ⟨lb5, lw5, ba5, bc5, wa5, wc5, f, b, rfl, hap, hfo, hmb, hmw, hsb, hsw, hb5⟩)
 have hbf : b = true ∧ f = f0 := by
  have h1 := hap.out
  rw [hf1'.out] at h1
  cases b with
  | true => exact ⟨rfl, (Option.some.inj h1).symm⟩
  | false => cases h1
 obtain ⟨rfl, rfl⟩ := hbf
 have hs4 := hB4.size
 have hSD5 : SD w2.heap.size w5 ⟨ba5, bc5, wa5, wc5⟩ f lb5 lw5 := ⟨hmb, hmw, hsb.le hs4, hsw.le hs4⟩
 have hV6 := VB.new w5 (.slice ba5 f.blocks.length bc5) (.slice wa5 f.waiting.length wc5) 46
 have hVd6 : IsD (w5.alloc (.cells #[.slice ba5 f.blocks.length bc5, .slice wa5 f.waiting.length wc5] 46)) w5.heap.size := ⟨_, blk_new_at _ _ _ rfl⟩
 have hSD6 := hSD5.grow (gal (gre w5) (.cells #[.slice ba5 f.blocks.length bc5, .slice wa5 f.waiting.length wc5] 46))
 have hB6 := gal (gca hB4 hb5) (.cells #[.slice ba5 f.blocks.length bc5, .slice wa5 f.waiting.length wc5] 46)
 have hV2 : w2.heap.size ≤ w5.heap.size := (gca hB4 hb5).size
 generalize w5.alloc (.cells #[.slice ba5 f.blocks.length bc5, .slice wa5 f.waiting.length wc5] 46) = w6 at hV6 hVd6 hSD6 hB6 ⊢
 generalize w5.heap.size = V at hV6 hVd6 hV2 ⊢
 clear hSD5 hmb hmw hsb hsw hb5 x0 x1 hap hfo hB4 hoat hb3 hb4 p0 p1 p2 p3 p4 p5 p6 p7 p8 p9 p10
 obtain ⟨p0, p1, p2, p3, p4, p5, p6, p7, p8, p9, p10⟩ := hY2.grow hB6
 simp only [Nat.zero_add] at p1 p2 p3 p4 p5 p6 p7 p8 p9 p10
 obtain ⟨v0, v1, vf⟩ := id hV6
 obtain rfl : c = f := hce.out
 go_upto_region 19 with fail
 have hV8 := hV6
 have hSD8 := hSD6
 have hB8 := hB6
 clear hV6 hVd6 hSD6 hB6 v0 v1 vf p0 p1 p2 p3 p4 p5 p6 p7 p8 p9 p10
 obtain ⟨k, hk⟩ := hid_ex c.newestOf
 rw [← hk.out]
 obtain ⟨v0, v1, vf⟩ := id hV8
 go_upto_region 20 with (go_at_call 62; refine (l4newest_any c ⟨ba5, bc5, wa5, wc5⟩ _ (DD.fit hCG.ok) hCG.o hSD8.at_).mono ?_; rw [← hk.out]; rintro e w9 ⟨oa9, oc9, rfl, hcp9, hbt9, hlo9, hb9⟩)
 have hQ := V4.new_at w9 (.bool k.ok) (.int .i64 k.gen) (.int .i64 k.slot) (.slice oa9 k.bytes.length oc9) 62 w9.heap.size rfl
 have hbA := gal hb9 (.cells #[.bool k.ok, .int .i64 k.gen, .int .i64 k.slot, .slice oa9 k.bytes.length oc9] 62)
 have hQs := (gca hB8 hb9).size
 generalize w9.alloc (.cells #[.bool k.ok, .int .i64 k.gen, .int .i64 k.slot, .slice oa9 k.bytes.length oc9] 62) = wA at hQ hbA ⊢
 generalize w9.heap.size = Q at hQ hQs ⊢
 have hdr : Below wA.heap.size wA wA.drew := gdr (gre _)
 have hBA := gdr (gca hB8 hbA)
 have hVA := (hV8.grow hbA).grow hdr
 have hQA := hQ.grow hdr
 have hSDA := (hSD8.grow hbA).grow hdr
 have hRA := hR2.grow hBA
 have hTA := hT2.grow hBA
 have hRdA := hRd2.grow hBA
 have hTdA := hTd2.grow hBA
 have hAA := gca hA2 hBA
 have hQV : w.heap.size + 1 + 1 < Q ∧ w.heap.size + 1 + 1 + 1 < Q := by omega
 clear v0 v1 vf
 refine wp_regionU (fun u => u.cell? ⟨V, 0, none⟩ = some (.slice ba5 c.blocks.length bc5) ∧ u.cell? ⟨V, 1, none⟩ = some (.slice wa5 c.waiting.length wc5) ∧ u.cell? ⟨Q, 1, none⟩ = some (.int .i64 k.gen)) 99 (by kernel_rfl) ⟨hVA.v0, hVA.v1, hQA.c1⟩ (fun hS0 => ?_)
 generalize wA.drew = wD at hBA hVA hQA hSDA hRA hTA hRdA hTdA hAA hS0 ⊢
 refine anyU_tk (i := 0) rfl hS0 (fun u hSu => by obtain ⟨s0, s1, s2⟩ := hSu; go_simp <;> with_reducible rfl) ?_
 refine anyU_tk (i := 1) rfl hS0 (fun u hSu => by obtain ⟨s0, s1, s2⟩ := hSu; go_simp <;> with_reducible rfl) ?_
 refine anyU_tk (i := 2) rfl hS0 (fun u hSu => by obtain ⟨s0, s1, s2⟩ := hSu; go_simp <;> with_reducible rfl) ?_
 refine anyU_tk (i := 3) rfl hS0 (fun u hSu => by obtain ⟨s0, s1, s2⟩ := hSu; go_simp <;> with_reducible rfl) ?_
 simp only [Act.put, List.getElem_toArray, List.getElem_cons_zero, List.getElem_cons_succ, List.setIfInBounds_toArray, List.set_cons_zero, List.set_cons_succ]
 obtain ⟨z0, z1, zf⟩ := id hRA
 obtain ⟨_, _, K2⟩ := ret2 (A := .slice ba5 c.blocks.length bc5) (B := .slice wa5 c.waiting.length wc5) z0 z1
 refine anyU_one (i := 4) (by kernel_rfl) rfl (fun K hK => ?_)
 go_simp
 refine hK.out _ _ ⟨K2.cell hS0.1 (by omega), K2.cell hS0.2.1 (by omega), K2.cell hS0.2.2 (by omega)⟩ ?_
 clear hK
 obtain ⟨c0, c1, hV9, hK9⟩ := do_ret hRA hTA (by omega) (.slice ba5 c.blocks.length bc5) (.slice wa5 c.waiting.length wc5) (.int .i64 0) (.int .i64 k.gen) (.int .i64 0) (.int .i64 0) (.string ⟨#[]⟩) (.int .i64 0) (.slice none 0 0)
 have hT4 := hTA.kept K2 (by omega)
 obtain ⟨_, u0, u1, u2, u3, u4, u5, u6, uf_⟩ := id hT4
 refine anyU_one (i := 5) (by kernel_rfl) rfl (fun K hK => ?_)
 go_simp
 refine hK.out _ _ ⟨hK9.cell hS0.1 (by omega), hK9.cell hS0.2.1 (by omega), hK9.cell hS0.2.2 (by omega)⟩ ?_
 clear hK u0 u1 u2 u3 u4 u5 u6 hT4 K2
 generalize (((((((((wD.setCell ⟨w.heap.size + 1 + 1, 0, none⟩ (.slice ba5 c.blocks.length bc5)).setCell ⟨w.heap.size + 1 + 1, 1, none⟩ (.slice wa5 c.waiting.length wc5)).setCell ⟨w.heap.size + 1 + 1 + 1, 0, none⟩ (.int .i64 0)).setCell ⟨w.heap.size + 1 + 1 + 1, 1, none⟩ (.int .i64 k.gen)).setCell ⟨w.heap.size + 1 + 1 + 1, 2, none⟩ (.int .i64 0)).setCell ⟨w.heap.size + 1 + 1 + 1, 3, none⟩ (.int .i64 0)).setCell ⟨w.heap.size + 1 + 1 + 1, 4, none⟩ (.string ⟨#[]⟩)).setCell ⟨w.heap.size + 1 + 1 + 1, 5, none⟩ (.int .i64 0)).setCell ⟨w.heap.size + 1 + 1 + 1, 6, none⟩ (.slice none 0 0)) = wE at c0 c1 hV9 hK9 ⊢
 refine anyU_done (by kernel_rfl) ?_
 go_wp2
 obtain ⟨_, q0, q1, q2, q3, q4, q5, q6, _⟩ := id hV9
 exact bodyPost_ret (v := .tuple #[c.val ⟨ba5, bc5, wa5, wc5⟩, (TK.mk 0 k.gen zeroG).val none 0]) (by simp [results, Tryz.results33, go_sem, c0, c1, q0, q1, q2, q3, q4, q5, q6, zeroG]) rfl ⟨lb5, lw5, ⟨ba5, bc5, wa5, wc5⟩, none, 0, by rw [hk.out], do_after (hSDA.le (by have := hA2.size; omega)) hK9 hRdA hTdA, fun _ _ i hi => absurd hi (Nat.not_lt_zero _), hAA.trans (hK9.below hAA.size (fun z hz e => by omega))⟩
theorem do_lay2 (base : Nat) (d : DD) (l : DL) (lb : List LB) (lw : List LW) (x : AC) (ga : Option Addr) (gc : Nat) (ka : Option Addr) (kc : Nat) (w : World) (hbw : base ≤ w.heap.size) (hG : GoodD d) (hS : SD base w l d lb lw) (hg : x.graph.Ok) (hga : NodesAt w.heap.size w ga x.graph.nodes) (hka : BoolsAt w ka x.kept) (hkl : x.kept.length ≤ maxLen) (hok : x.okA = true) (ho : Hid (x.op = 2)) (hp0 : Hid (packB x.graph ≠ [])) : Calls Tryz.prog 33 #[d.val l, x.val ga gc ka kc] w (SDo base (d.laidC x, ⟨0, (d.laidC x).newestOf.gen, zeroG⟩) w) := by
 have hf := DD.fit hG.ok
 have hr := newest_rng hf
 obtain ⟨f0, hf1, hf2, hf3, hf4⟩ := laid_some hG x
 have hCG := laidC_good hG x
 obtain ⟨c, hc⟩ := hid_ex (d.laidC x)
 rw [← hc.out] at hCG ⊢
 obtain ⟨p, hp⟩ := hid_ex (packB x.graph)
 have hpl : p.length ≤ 4096 := by rw [hp.out]; exact packB_lenK x.graph
 have hpb : ∀ z, z ∈ p → z < 256 := by rw [hp.out]; exact packB_bytesK x.graph
 have hpne : ((p.length : Int) == 0) = false := by
  rw [beq_eq_false_iff_ne]
  intro e
  exact hp0.out (by rw [← hp.out]; exact List.eq_nil_of_length_eq_zero (by omega))
 have hoo := lay_opsOk d ⟨hr.g.2, hr.g.1⟩ hpb hpl
 rw [← hp.out] at hf1
 obtain ⟨ops, hops⟩ := hid_ex (d.lay p)
 rw [← hops.out] at hoo hf1
 obtain ⟨n, hn⟩ := hid_ex (x.cutN ops.length)
 have hnl : n ≤ ops.length := by rw [hn.out]; exact x.cutN_le _
 rw [← hn.out] at hf1
 have hf1' : Hid _ := hf1
 have hce : Hid (c = f0.settle (keepOf x.kept)) := by show _ = _; rw [hc.out]; unfold DD.laidC; rw [hf2, if_pos ho.out]
 clear hf1 hf2
 have hok' : Hid _ := hok
 clear hok
 have hB := do_boxes d l x ga gc ka kc w
 go_enter Tryz.func33, Tryz.ntmps33
 go_upto_region 1 with fail
 generalize (((w.alloc (.cells #[.slice l.ba d.blocks.length l.bc, .slice l.wa d.waiting.length l.wc] 46)).alloc (.cells #[.int .i64 x.op, .int .i64 x.graph.root.kind, .int .i64 x.graph.root.num, .string x.graph.root.text, .int .i64 x.graph.root.node, .slice ga x.graph.nodes.length gc, .int .i64 x.steps, .slice ka x.kept.length kc, .int .i64 x.block, .int .i64 x.byte, .int .i64 x.xor] 41)).alloc (.cells #[.slice none 0 0, .slice none 0 0] 46)).alloc (.cells #[.int .i64 0, .int .i64 0, .int .i64 0, .int .i64 0, .string ⟨#[]⟩, .int .i64 0, .slice none 0 0] 34) = w1 at hB ⊢
 obtain ⟨hX, hY, hR, hT, hRd, hTd, hA, hs1⟩ := hB
 obtain ⟨p0, p1, p2, p3, p4, p5, p6, p7, p8, p9, p10⟩ := id hY
 simp only [Nat.zero_add] at p1 p2 p3 p4 p5 p6 p7 p8 p9 p10
 go_upto_region 3 with (go_at_call 67; refine (l5actOk_any x ga gc ka kc _).mono ?_; rintro e w2 ⟨rfl, hb2⟩; rw [hok'.out])
 have hX2 := hX.grow hb2
 have hY2 := hY.grow hb2
 have hR2 := hR.grow hb2
 have hT2 := hT.grow hb2
 have hRd2 := hRd.grow hb2
 have hTd2 := hTd.grow hb2
 have hA2 := gca hA hb2
 have hs2 := hb2.size
 clear p0 p1 p2 p3 p4 p5 p6 p7 p8 p9 p10 hX hY hR hT hRd hTd hA hb2
 obtain ⟨_, x0, x1⟩ := id hX2
 obtain ⟨p0, p1, p2, p3, p4, p5, p6, p7, p8, p9, p10⟩ := id hY2
 simp only [Nat.zero_add] at p1 p2 p3 p4 p5 p6 p7 p8 p9 p10
 have b3 : (x.op == 3) = false := by rw [ho.out]; rfl
 have b4 : (x.op == 4) = false := by rw [ho.out]; rfl
 have b2 : (x.op == 2) = true := by rw [ho.out]; rfl
 go_upto_region 14 with (first
  | (go_at_call 16; refine (specPack_any ga gc x.graph _ hg (hga.grow hA2)).mono ?_; rw [← hp.out]; rintro e w3 ⟨oa, oc, rfl, hM3, hb3⟩; obtain ⟨_, x0, x1⟩ := hX2.grow hb3)
  | (go_at_call 69; refine (l4ops_any d l oa p oc _ hf hG.o (hS.grow (gca hA2 hb3)).at_ (owns_bytesO hM3) hpb hpl).mono ?_; rw [← hops.out]; rintro e w4 ⟨pa, pc, lo, rfl, hlo, hSO, hb4⟩))
 have hB4 := gca hb3 hb4
 have hoat := hSO.at_
 rw [hlo] at hoat
 clear p0 p1 p2 p3 p4 p5 p6 p7 p8 p9 p10 x0 x1 hM3 hSO
 obtain ⟨p0, p1, p2, p3, p4, p5, p6, p7, p8, p9, p10⟩ := hY2.grow hB4
 simp only [Nat.zero_add] at p1 p2 p3 p4 p5 p6 p7 p8 p9 p10
 go_upto_if 75 with fail
 go_cut [9] from 67 (fun v wc => v = .int .i64 (n : Int) ∧ wc = w4)
 case first =>
  by_cases e3 : x.steps < (ops.length : Int)
  ·
   go_wp2
   go_meet
   case rel => exact ⟨by rw [hn.out]; unfold AC.cutN; rw [if_pos ⟨ho.out, e3⟩, Int.toNat_of_nonneg (okA_op2 hok'.out ho.out).1], rfl⟩
  ·
   go_wp2
   go_meet
   case rel => exact ⟨by rw [hn.out]; unfold AC.cutN; rw [if_neg (fun h => by have := h.2; omega)], rfl⟩
 case rest =>
  obtain ⟨rfl, rfl⟩ := hcut
  clear p0 p1 p2 p3 p4 p5 p6 p7 p8 p9 p10
  obtain ⟨_, x0, x1⟩ := hX2.grow hB4
  go_upto_region 17 with (go_at_call 70; refine (l4apply_any d l pa ops pc n _ _ (rfl) hG.ok hG.o (hS.grow (gca hA2 hB4)).at_ hoo hoat hnl).mono ?_; rintro e w5 ⟨lb5, lw5, ba5, bc5, wa5, wc5, f, b, rfl, hap, hfo, hmb, hmw, hsb, hsw, hb5⟩)
  have hbf : b = true ∧ f = f0 := by
   have h1 := hap.out
   rw [hf1'.out] at h1
   cases b with
   | true => exact ⟨rfl, (Option.some.inj h1).symm⟩
   | false => cases h1
  obtain ⟨rfl, rfl⟩ := hbf
  have hs4 := hB4.size
  have hSD5 : SD w2.heap.size w5 ⟨ba5, bc5, wa5, wc5⟩ f lb5 lw5 := ⟨hmb, hmw, hsb.le hs4, hsw.le hs4⟩
  have hV6 := VB.new w5 (.slice ba5 f.blocks.length bc5) (.slice wa5 f.waiting.length wc5) 46
  have hVd6 : IsD (w5.alloc (.cells #[.slice ba5 f.blocks.length bc5, .slice wa5 f.waiting.length wc5] 46)) w5.heap.size := ⟨_, blk_new_at _ _ _ rfl⟩
  have hSD6 := hSD5.grow (gal (gre w5) (.cells #[.slice ba5 f.blocks.length bc5, .slice wa5 f.waiting.length wc5] 46))
  have hB6 := gal (gca hB4 hb5) (.cells #[.slice ba5 f.blocks.length bc5, .slice wa5 f.waiting.length wc5] 46)
  have hV2 : w2.heap.size ≤ w5.heap.size := (gca hB4 hb5).size
  generalize w5.alloc (.cells #[.slice ba5 f.blocks.length bc5, .slice wa5 f.waiting.length wc5] 46) = w6 at hV6 hVd6 hSD6 hB6 ⊢
  generalize w5.heap.size = V at hV6 hVd6 hV2 ⊢
  clear hSD5 hmb hmw hsb hsw hb5 x0 x1 hap hfo hB4 hoat hb3 hb4
  obtain ⟨p0, p1, p2, p3, p4, p5, p6, p7, p8, p9, p10⟩ := hY2.grow hB6
  simp only [Nat.zero_add] at p1 p2 p3 p4 p5 p6 p7 p8 p9 p10
  obtain ⟨v0, v1, vf⟩ := id hV6
  have hcs : Hid (c = ⟨settleN (keepOf x.kept) f.blocks f.waiting f.waiting.length, []⟩) := by show _ = _; rw [hce.out, settle_yes hf3]
  go_upto_region 19 with (go_at_call 71; refine (l3settle_any f ⟨ba5, bc5, wa5, wc5⟩ ka x.kept kc _ (DD.fit hf3) hSD6.at_ hkl (hka.grow (gca hA2 hB6))).mono ?_; rw [← hcs.out]; rintro e w7 ⟨lb7, lw7, ba7, bc7, wa7, wc7, rfl, mb7, mw7, sb7, sw7, hb7⟩; obtain ⟨v0, v1, vf⟩ := hV6.grow hb7)
  have hs6 := hB6.size
  have hSD7 : SD w2.heap.size w7 ⟨ba7, bc7, wa7, wc7⟩ c lb7 lw7 := ⟨mb7, mw7, sb7.le hs6, sw7.le hs6⟩
  have hVd7 := hVd6.grow hb7
  have K7 := (Kept.one w7 V 0 (.slice ba7 c.blocks.length bc7)).trans (Kept.one _ V 1 (.slice wa7 c.waiting.length wc7)) (fun _ _ e => e)
  have hB7 := gca hB6 hb7
  have hV8 := ((hV6.grow hb7).set0 (.slice ba7 c.blocks.length bc7)).set1 (.slice wa7 c.waiting.length wc7)
  have hSD8 := hSD7.kept K7 (fun z e _ => by rw [e]; exact hVd7.noDisk)
  have hB8 := hB7.trans (K7.below hB7.size (fun z hz e => by omega))
  generalize (w7.setCell ⟨V, 0, none⟩ (.slice ba7 c.blocks.length bc7)).setCell ⟨V, 1, none⟩ (.slice wa7 c.waiting.length wc7) = w8 at hV8 hSD8 hB8 ⊢
  clear hSD6 hSD7 hB6 hB7 hb7 K7 hV6 hVd6 hVd7 sb7 sw7 v0 v1 vf p0 p1 p2 p3 p4 p5 p6 p7 p8 p9 p10
  obtain ⟨k, hk⟩ := hid_ex c.newestOf
  rw [← hk.out]
  obtain ⟨v0, v1, vf⟩ := id hV8
  go_upto_region 20 with (go_at_call 62; refine (l4newest_any c ⟨ba7, bc7, wa7, wc7⟩ _ (DD.fit hCG.ok) hCG.o hSD8.at_).mono ?_; rw [← hk.out]; rintro e w9 ⟨oa9, oc9, rfl, hcp9, hbt9, hlo9, hb9⟩)
  have hQ := V4.new_at w9 (.bool k.ok) (.int .i64 k.gen) (.int .i64 k.slot) (.slice oa9 k.bytes.length oc9) 62 w9.heap.size rfl
  have hbA := gal hb9 (.cells #[.bool k.ok, .int .i64 k.gen, .int .i64 k.slot, .slice oa9 k.bytes.length oc9] 62)
  have hQs := (gca hB8 hb9).size
  generalize w9.alloc (.cells #[.bool k.ok, .int .i64 k.gen, .int .i64 k.slot, .slice oa9 k.bytes.length oc9] 62) = wA at hQ hbA ⊢
  generalize w9.heap.size = Q at hQ hQs ⊢
  have hdr : Below wA.heap.size wA wA.drew := gdr (gre _)
  have hBA := gdr (gca hB8 hbA)
  have hVA := (hV8.grow hbA).grow hdr
  have hQA := hQ.grow hdr
  have hSDA := (hSD8.grow hbA).grow hdr
  have hRA := hR2.grow hBA
  have hTA := hT2.grow hBA
  have hRdA := hRd2.grow hBA
  have hTdA := hTd2.grow hBA
  have hAA := gca hA2 hBA
  have hQV : w.heap.size + 1 + 1 < Q ∧ w.heap.size + 1 + 1 + 1 < Q := by omega
  clear v0 v1 vf
  refine wp_regionU (fun u => u.cell? ⟨V, 0, none⟩ = some (.slice ba7 c.blocks.length bc7) ∧ u.cell? ⟨V, 1, none⟩ = some (.slice wa7 c.waiting.length wc7) ∧ u.cell? ⟨Q, 1, none⟩ = some (.int .i64 k.gen)) 99 (by kernel_rfl) ⟨hVA.v0, hVA.v1, hQA.c1⟩ (fun hS0 => ?_)
  generalize wA.drew = wD at hBA hVA hQA hSDA hRA hTA hRdA hTdA hAA hS0 ⊢
  refine anyU_tk (i := 0) rfl hS0 (fun u hSu => by obtain ⟨s0, s1, s2⟩ := hSu; go_simp <;> with_reducible rfl) ?_
  refine anyU_tk (i := 1) rfl hS0 (fun u hSu => by obtain ⟨s0, s1, s2⟩ := hSu; go_simp <;> with_reducible rfl) ?_
  refine anyU_tk (i := 2) rfl hS0 (fun u hSu => by obtain ⟨s0, s1, s2⟩ := hSu; go_simp <;> with_reducible rfl) ?_
  refine anyU_tk (i := 3) rfl hS0 (fun u hSu => by obtain ⟨s0, s1, s2⟩ := hSu; go_simp <;> with_reducible rfl) ?_
  simp only [Act.put, List.getElem_toArray, List.getElem_cons_zero, List.getElem_cons_succ, List.setIfInBounds_toArray, List.set_cons_zero, List.set_cons_succ]
  obtain ⟨z0, z1, zf⟩ := id hRA
  obtain ⟨_, _, K2⟩ := ret2 (A := .slice ba7 c.blocks.length bc7) (B := .slice wa7 c.waiting.length wc7) z0 z1
  refine anyU_one (i := 4) (by kernel_rfl) rfl (fun K hK => ?_)
  go_simp
  refine hK.out _ _ ⟨K2.cell hS0.1 (by omega), K2.cell hS0.2.1 (by omega), K2.cell hS0.2.2 (by omega)⟩ ?_
  clear hK
  obtain ⟨c0, c1, hV9, hK9⟩ := do_ret hRA hTA (by omega) (.slice ba7 c.blocks.length bc7) (.slice wa7 c.waiting.length wc7) (.int .i64 0) (.int .i64 k.gen) (.int .i64 0) (.int .i64 0) (.string ⟨#[]⟩) (.int .i64 0) (.slice none 0 0)
  have hT4 := hTA.kept K2 (by omega)
  obtain ⟨_, u0, u1, u2, u3, u4, u5, u6, uf_⟩ := id hT4
  refine anyU_one (i := 5) (by kernel_rfl) rfl (fun K hK => ?_)
  go_simp
  refine hK.out _ _ ⟨hK9.cell hS0.1 (by omega), hK9.cell hS0.2.1 (by omega), hK9.cell hS0.2.2 (by omega)⟩ ?_
  clear hK u0 u1 u2 u3 u4 u5 u6 hT4 K2
  generalize (((((((((wD.setCell ⟨w.heap.size + 1 + 1, 0, none⟩ (.slice ba7 c.blocks.length bc7)).setCell ⟨w.heap.size + 1 + 1, 1, none⟩ (.slice wa7 c.waiting.length wc7)).setCell ⟨w.heap.size + 1 + 1 + 1, 0, none⟩ (.int .i64 0)).setCell ⟨w.heap.size + 1 + 1 + 1, 1, none⟩ (.int .i64 k.gen)).setCell ⟨w.heap.size + 1 + 1 + 1, 2, none⟩ (.int .i64 0)).setCell ⟨w.heap.size + 1 + 1 + 1, 3, none⟩ (.int .i64 0)).setCell ⟨w.heap.size + 1 + 1 + 1, 4, none⟩ (.string ⟨#[]⟩)).setCell ⟨w.heap.size + 1 + 1 + 1, 5, none⟩ (.int .i64 0)).setCell ⟨w.heap.size + 1 + 1 + 1, 6, none⟩ (.slice none 0 0)) = wE at c0 c1 hV9 hK9 ⊢
  refine anyU_done (by kernel_rfl) ?_
  go_wp2
  obtain ⟨_, q0, q1, q2, q3, q4, q5, q6, _⟩ := id hV9
  exact bodyPost_ret (v := .tuple #[c.val ⟨ba7, bc7, wa7, wc7⟩, (TK.mk 0 k.gen zeroG).val none 0]) (by simp [results, Tryz.results33, go_sem, c0, c1, q0, q1, q2, q3, q4, q5, q6, zeroG]) rfl ⟨lb7, lw7, ⟨ba7, bc7, wa7, wc7⟩, none, 0, by rw [hk.out], do_after (hSDA.le (by have := hA2.size; omega)) hK9 hRdA hTdA, fun _ _ i hi => absurd hi (Nat.not_lt_zero _), hAA.trans (hK9.below hAA.size (fun z hz e => by omega))⟩
theorem l5do_any (base : Nat) (d : DD) (l : DL) (lb : List LB) (lw : List LW) (x : AC) (ga : Option Addr) (gc : Nat) (ka : Option Addr) (kc : Nat) (w : World) (hbw : base ≤ w.heap.size) (hG : GoodD d) (hS : SD base w l d lb lw) (hx : x.Ok) (hga : NodesAt w.heap.size w ga x.graph.nodes) (hka : BoolsAt w ka x.kept) : Calls Tryz.prog 33 #[d.val l, x.val ga gc ka kc] w (SDo base (d.doA x) w) := by
 unfold DD.doA
 cases hok : x.okA with
 | false =>
  rw [if_pos rfl]
  exact do_no base d l lb lw x ga gc ka kc w hbw hG hS hok
 | true =>
  rw [if_neg (by decide)]
  by_cases o3 : x.op = 3
  ·
   rw [if_pos o3]
   exact do_take base d l lb lw x ga gc ka kc w hbw hG hS hok o3
  ·
   rw [if_neg o3]
   by_cases o4 : x.op = 4
   ·
    rw [if_pos o4]
    exact do_spoil base d l lb lw x ga gc ka kc w hbw hG hS hok o4
   ·
    rw [if_neg o4]
    by_cases hp : packB x.graph = []
    ·
     rw [if_pos hp]
     exact do_none base d l lb lw x ga gc ka kc w hbw hG hS hx.graph hga hok o3 o4 hp
    ·
     rw [if_neg hp]
     rcases okA_op12 hok o3 o4 with o | o
     · exact do_lay1 base d l lb lw x ga gc ka kc w hbw hG hS hx.graph hga hka hx.kept hok o hp
     · exact do_lay2 base d l lb lw x ga gc ka kc w hbw hG hS hx.graph hga hka hx.kept hok o hp
theorem specBlank_own (w : World) : Calls Tryz.prog 32 #[] w (BOwn w) := by
 obtain ⟨i0, hi, hz0, hz1, hz2⟩ := info_parts info_u8
 obtain ⟨j0, hj, hy0, hy1, hy2'⟩ := info_parts info_bytes
 obtain ⟨M, hM⟩ := hid_ex (madeCells #[Value.int .u8 0] 64)
 have : ∀ u : World, (Instr.makeSlice 22 (.int .i64 64) (.int .i64 64)).run Tryz.prog u =
   .ok (.slice (some ⟨u.heap.size, 0, none⟩) 64 64) (u.alloc (.cells M 5)) := fun u => by
  have h := run_make (P := Tryz.prog) u 22 5 i0 _ Tryz.underlying22 hi hz0 .i64 .i64 (64 : Int) (64 : Int) (by omega) (Int.le_refl _) (by rw [hz2]; omega) (by omega)
  rw [hM.out]
  simpa [hz1, Value.cells] using h
 have hmo : ∀ {base : Nat} (u : World), base ≤ u.heap.size → (u.alloc (.cells M 5)).ownsRow base 5 1 (.slice (some ⟨u.heap.size, 0, none⟩) (List.replicate 64 0).length 64) (List.replicate 64 0).length (bcells (List.replicate 64 0)) := fun u hb => by
  have := owns_made (n := 64) hb (by unfold maxLen; omega)
  rw [← hM.out] at this
  simpa using this
 go_enter Tryz.func32, Tryz.ntmps32
 go_upto_region 2 with fail
 have hw1 := gal (gal (gre w) (.cells #[.slice none 0 0, .slice none 0 0] 46)) (.cells #[.slice none 0 0, .slice none 0 0] 46)
 have hR := (VB.new w (.slice none 0 0) (.slice none 0 0) 46).grow (gal (gre _) (.cells #[.slice none 0 0, .slice none 0 0] 46))
 have hV := VB.new_at (w.alloc (.cells #[.slice none 0 0, .slice none 0 0] 46)) (.slice none 0 0) (.slice none 0 0) 46 (w.heap.size + 1) (by simp)
 generalize (w.alloc (.cells #[.slice none 0 0, .slice none 0 0] 46)).alloc (.cells #[.slice none 0 0, .slice none 0 0] 46) = wA at hw1 hR hV ⊢
 obtain ⟨R, hRe⟩ := hid_ex w.heap.size
 obtain ⟨V, hVe⟩ := hid_ex (w.heap.size + 1)
 rw [← hVe.out] at hV ⊢
 rw [← hRe.out] at hR ⊢
 have hI0 : BInv w wA R V 0 := ⟨[], none, 0, rfl, rfl, SB.nil _ _, hV, hR, hw1⟩
 clear hw1 hR hV
 go_wp2
 go_loopw [2] (fun i wr => ∃ k : Nat, k ≤ 130 ∧ i = .int .i64 k ∧ BInv w wr R V k) (fun i _ => 130 - (intOf i).toNat)
 case atStart => exact ⟨0, Nat.zero_le _, rfl, hI0⟩
 case round =>
  obtain ⟨k, hk, rfl, lb, ba, bc, hll, hlm, hL, hV, hR, hb⟩ := hrel
  by_cases hlt : k < 130
  ·
   have i1 : (k : Int) < 130 := by omega
   clear hI0
   go_wp2
   refine wp_regionU (fun u => u.cell? ⟨V, 0, none⟩ = some (.slice ba lb.length bc)) 6 (by kernel_rfl) (hV.grow (gdr (gre wr))).v0 (fun hS0 => ?_)
   have hLd := hL.grow (gdr (gre wr))
   have hVd := hV.grow (gdr (gre wr))
   have hRd := hR.grow (gdr (gre wr))
   have hbd := gdr hb
   generalize wr.drew = wd at hLd hVd hRd hbd hS0 ⊢
   refine anyU_tk (i := 0) rfl hS0 (fun u hSu => by (try dsimp only at hSu); go_simp <;> with_reducible rfl) ?_
   refine anyU_tk (i := 1) rfl hS0 (fun u hSu => by (try dsimp only at hSu); go_simp <;> with_reducible rfl) ?_
   simp only [Act.put, List.getElem_toArray, List.getElem_cons_zero, List.getElem_cons_succ, List.setIfInBounds_toArray, List.set_cons_zero, List.set_cons_succ]
   have hB1 := gal (gre wd) (.cells M 5)
   have hS1 := cell_later hB1 hS0
   have hS1' : Hid _ := hS1
   clear hS1
   refine anyU_one (i := 2) (by kernel_rfl) rfl (fun K hK => ?_)
   go_simp
   refine hK.out _ _ hS1'.out ?_
   clear hK
   have hy : (wd.alloc (.cells M 5)).ownsRow (V + 1) 5 1 (.slice (some ⟨wd.heap.size, 0, none⟩) (List.replicate 64 0).length 64) (List.replicate 64 0).length (bcells (List.replicate 64 0)) := hmo wd (by have := hVd.lt; omega)
   have hL1 := hLd.grow hB1
   have hV1 := hVd.grow hB1
   have hs1 : (wd.alloc (.cells M 5)).heap.size = wd.heap.size + 1 := by simp
   have hbel1 := gca hbd hB1
   generalize wd.alloc (.cells M 5) = w1 at hB1 hS1' hy hL1 hV1 hs1 hbel1 ⊢
   have hB2 := gal (gre w1) (.cells #[.slice (some ⟨wd.heap.size, 0, none⟩) 64 64] 22)
   have hS2 := cell_later hB2 hS1'.out
   have hS2' : Hid _ := hS2
   clear hS2
   refine anyU_one (i := 3) (by kernel_rfl) rfl (fun K hK => ?_)
   go_simp
   refine hK.out _ _ hS2'.out ?_
   clear hK
   have hL2 := hL1.grow hB2
   have hV2 := hV1.grow hB2
   have hbel2 := gca hbel1 hB2
   have hy2 := (Kept.of_below hB2 (fun _ => False)).owns hy (fun _ _ e => e)
   have hnew := World.news_of_block (cs := #[.slice (some ⟨wd.heap.size, 0, none⟩) 64 64]) (t := 22) (fr := (0, 0)) (blk_new_at w1 (.cells #[.slice (some ⟨wd.heap.size, 0, none⟩) 64 64] 22) (wd.heap.size + 1) hs1.symm)
   have hs2 : (w1.alloc (.cells #[.slice (some ⟨wd.heap.size, 0, none⟩) 64 64] 22)).heap.size = wd.heap.size + 1 + 1 := by simp [hs1]
   generalize w1.alloc (.cells #[.slice (some ⟨wd.heap.size, 0, none⟩) 64 64] 22) = w2 at hB2 hS2' hL2 hV2 hbel2 hy2 hnew hs2 ⊢
   have hlw := hll.out
   refine anyU_one (i := 4) (by kernel_rfl) rfl (fun K hK => ?_)
   refine step_append_lies _ (by rfl) (.tmp 8) (.tmp 10) 43 rfl (V + 1) 22 j0 _ 1 24 Tryz.underlying43 hj hy0 hy1 hy2' rfl (by decide) (.slice ba lb.length bc) lb.length (lb.map LB.v) (by rfl) hL2.own ⟨wd.heap.size + 1, 0, none⟩ 1 1 [.slice (some ⟨wd.heap.size, 0, none⟩) 64 64] (by rfl) rfl hnew (by simp [Value.oneCell']) (by decide) (by unfold maxLen; omega) (by omega) (by have := hV2.lt; omega) (wd.heap.size + 1 + 1) hs2 ?_
   intro gg cc w5 hown5 hgrow5 hat5 hlt5
   have K5 := Kept.of_grown hgrow5
   have hL5 := hL2.push (y := ⟨List.replicate 64 0, some ⟨wd.heap.size, 0, none⟩, 64⟩) hy2 hown5 hgrow5
   have hV5 := hV2.kept K5 (fun e => by have := (owns_isS hL2.own e).2; omega)
   refine hK.out _ _ hV5.v0 ?_
   clear hK
   simp only [Act.put, List.getElem_toArray, List.getElem_cons_zero, List.getElem_cons_succ, List.setIfInBounds_toArray, List.set_cons_zero, List.set_cons_succ]
   refine anyU_one (i := 5) (by kernel_rfl) rfl (fun K hK => ?_)
   go_simp
   refine hK.out _ _ hV5.v0 ?_
   clear hK
   have fz := hV5.vf
   have c8 := hV5.v0
   refine anyU_last (by kernel_rfl) rfl (by kernel_rfl) (fun K hK => ?_)
   go_simp
   refine hK.out _ _ ?_
   clear hK
   have hbel5 := hbel2.trans (K5.below (B := w.heap.size) hbel2.size (fun z hz e => by have := (owns_isS hL2.own e).2; have := hVe.out; omega))
   have hfin : SB (V + 1) (w5.setCell ⟨V, 0, none⟩ (.slice (some ⟨gg, 0, none⟩) (lb.length + 1) cc)) (some ⟨gg, 0, none⟩) cc (lb ++ [⟨List.replicate 64 0, some ⟨wd.heap.size, 0, none⟩, 64⟩]) := hL5.set (by omega) _ _
   have hfV := hV5.set0 (.slice (some ⟨gg, 0, none⟩) (lb.length + 1) cc)
   have hfR := (((hRd.grow hB1).grow hB2).kept K5 (fun e => by have := (owns_isS hL2.own e).2; have := hVe.out; have := hRe.out; omega)).kept (Kept.one w5 V 0 (.slice (some ⟨gg, 0, none⟩) (lb.length + 1) cc)) (by have := hVe.out; have := hRe.out; omega)
   rw [hlw] at hfin hfV hfR
   go_wp2
   go_roundw
   case rel => exact ⟨k + 1, by omega, by go_num, lb ++ [⟨List.replicate 64 0, some ⟨wd.heap.size, 0, none⟩, 64⟩], some ⟨gg, 0, none⟩, cc, by show _ = _; rw [List.length_append, hlw]; rfl, by show _ = _; rw [List.map_append, hlm.out]; exact (List.replicate_succ' (n := k)).symm, hfin, by rw [List.length_append, hlw]; exact hfV, hfR, gse hbel5 (by have := hVe.out; show w.heap.size ≤ V; omega) _⟩
   case measure => simp [intOf]; omega
  ·
   obtain rfl : k = 130 := by omega
   have y0 := hV.v0
   have y1 := hV.v1
   have z0 := hR.v0
   have z1 := hR.v1
   have zf := hR.vf
   obtain ⟨c0, c1, K⟩ := ret2 (A := .slice ba lb.length bc) (B := .slice none 0 0) z0 z1
   go_wp2
   refine bodyPost_ret (v := .agg #[.slice ba lb.length bc, .slice none 0 0]) (by simp [results, Tryz.results32, go_sem, c0, c1]) rfl ⟨lb, ba, bc, by rw [hll.out]; simp [DD.val, blankD], hlm.out, ?_, ?_⟩
   · exact ((hL.set (V := R) (by have := hVe.out; have := hRe.out; omega) 0 (.slice ba lb.length bc)).set (V := R) (by have := hVe.out; have := hRe.out; omega) 1 (.slice none 0 0)).leB (by have := hVe.out; omega)
   · exact hb.trans (K.below hb.size (fun z hz e => by have := hRe.out; omega))
end Go.Proofs.YtmdpmdmilgbfiaaGreatDoor
