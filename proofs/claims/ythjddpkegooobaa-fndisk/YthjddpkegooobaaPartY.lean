import Derived.Deep.Cut
import Derived.Test.YthjddpkegooobaaPartX

/-
  SOPS: the specification's ops. Own work.
-/
namespace Go.Proofs.Ythjddpkegooobaa
open Go.RowKit

set_option maxHeartbeats 8000000 in
set_option maxRecDepth 100000 in
theorem l4ops_any (d : DD) (l : DL) (ia : Option Addr) (im : List Nat) (ic : Nat) (w : World) (hf : d.Fit) (ho : d.Ok) (ha : DAt w l d) (hia : BytesAt w ia im) (hib : ∀ x, x ∈ im → x < 256) (hil : im.length ≤ 4096) :
    Calls Try.prog 160 #[d.val l, .slice ia im.length ic] w (OAns (d.lay im) w) := by
  have hX0 := DBox.new w d l 44
  have hA0 := gal (gre w) (.cells #[.slice l.ba d.blocks.length l.bc, .slice l.wa d.waiting.length l.wc] 44)
  obtain ⟨k, hk⟩ := hid_ex d.newestOf
  have hr : k.Rng := by rw [hk.out]; exact newest_rng hf
  obtain ⟨hg0, hg1⟩ := hr.g
  obtain ⟨s, hs⟩ := hid_ex k.other
  have hs2 : s < 2 := by rw [hs.out]; exact k.other_lt
  obtain ⟨i0, hi, hz0, hz1, hz2⟩ := info_parts info_u8
  obtain ⟨M, hM⟩ := hid_ex (madeCells #[Value.int .u8 0] 64)
  have hmk : ∀ u : World, (Instr.makeSlice 22 (.int .i64 64) (.int .i64 64)).run Try.prog u = .ok (.slice (some ⟨u.heap.size, 0, none⟩) 64 64) (u.alloc (.cells M 5)) := fun u => by
    have h := run_make (P := Try.prog) u 22 5 i0 _ Try.underlying22 hi hz0 .i64 .i64 64 64 (by omega) (Int.le_refl _) (by rw [hz2]; omega) (by omega)
    rw [hM.out]
    simpa [hz1, Value.cells] using h
  have hways : (k.ok = false ∧ s = 0) ∨ (k.ok = true ∧ k.slot = 0 ∧ s = 1) ∨ (k.ok = true ∧ k.slot = 1 ∧ s = 0) := by
    rw [hs.out]
    cases e : k.ok with
    | false => exact Or.inl ⟨rfl, if_neg (fun h => by rw [e] at h; cases h.1)⟩
    | true =>
      rcases hr.s e with h | h
      · exact Or.inr (Or.inl ⟨rfl, h, if_pos ⟨e, h⟩⟩)
      · exact Or.inr (Or.inr ⟨rfl, h, if_neg (fun h2 => by rw [h] at h2; cases h2.2)⟩)
  obtain ⟨L, hL⟩ := hid_ex (d.lay im)
  rw [← hL.out]
  have hlay : Hid (L = if k.gen = 1000000000000 then [] else imgOps s im (nBlk im) ++ [syncO, headO k im, syncO]) := by show _ = _; rw [hL.out, hs.out, hk.out]; rfl
  go_enter Try.func160, Try.ntmps160
  go_upto_region 3 with (go_at_call 164; refine (l4newest_any d l _ hf ho (ha.grow hA0)).mono ?_; rw [← hk.out]; rintro e w1 ⟨oa1, c1, rfl, _, hB1, hn1, hb1⟩)
  have hV := V4.new_at w1 (.bool k.ok) (.int .i64 k.gen) (.int .i64 k.slot) (.slice oa1 k.bytes.length c1) 196 w1.heap.size rfl
  have hBV := gal (gca hA0 hb1) (.cells #[.bool k.ok, .int .i64 k.gen, .int .i64 k.slot, .slice oa1 k.bytes.length c1] 196)
  generalize w1.alloc (.cells #[.bool k.ok, .int .i64 k.gen, .int .i64 k.slot, .slice oa1 k.bytes.length c1] 196) = wV at hV hBV ⊢
  generalize w1.heap.size = R at hV ⊢
  clear hB1 hn1 hb1 hX0 hA0
  obtain ⟨_, q0, q1, q2, q3, qf⟩ := id hV
  obtain ⟨tb, htb⟩ := hid_ex (decide (s = 1))
  go_cut [20] from 14 (fun t wc => t = .bool tb ∧ wc = wV)
  case first =>
    rcases hways with ⟨k1, e1⟩ | ⟨k1, k2, e1⟩ | ⟨k1, k2, e1⟩
    · rw [k1] at q0
      go_wp2
      go_meet
      case rel => exact ⟨by rw [htb.out, e1]; rfl, rfl⟩
    · rw [k1] at q0
      rw [k2] at q2
      go_wp2
      go_meet
      case rel => exact ⟨by rw [htb.out, e1]; rfl, rfl⟩
    · rw [k1] at q0
      rw [k2] at q2
      go_wp2
      go_meet
      case rel => exact ⟨by rw [htb.out, e1]; rfl, rfl⟩
  case rest =>
    obtain ⟨rfl, hwc⟩ := hcut; obtain rfl := hwc.symm
    go_upto_if 20 with fail
    go_cut [6] from 14 (fun v wc => v = .int .i64 (s : Int) ∧ wc = wV)
    case first =>
      cases tb with
      | true =>
        have e1 : s = 1 := by simpa using htb.out.symm
        go_wp2
        go_meet
        case rel => exact ⟨by rw [e1]; rfl, rfl⟩
      | false =>
        have e1 : s = 0 := by have : s ≠ 1 := by simpa using htb.out.symm
                              omega
        go_wp2
        go_meet
        case rel => exact ⟨by rw [e1]; rfl, rfl⟩
    case rest =>
      obtain ⟨rfl, hwc⟩ := hcut; obtain rfl := hwc.symm
      clear hways htb
      by_cases hmax : k.gen = 1000000000000
      · have hLn : L = [] := by rw [hlay.out, if_pos hmax]
        have hmx : (k.gen == 1000000000000) = true := by rw [hmax]; rfl
        subst hLn
        go_wp2
        go_ret
        exact OAns.no hBV
      · have hLe : Hid (L = imgOps s im (nBlk im) ++ [syncO, headO k im, syncO]) := by show _ = _; rw [hlay.out, if_neg hmax]
        have hmx : (k.gen == 1000000000000) = false := by simp [hmax]
        clear hL hlay
        obtain ⟨j0, hj, hy0, hy1, hy2⟩ := info_parts info_implOp
        obtain ⟨bV, hbV⟩ := hid_ex wV.heap.size
        have hRV : R < bV := by rw [hbV.out]; exact hV.lt
        have hwV : w.heap.size ≤ bV := by rw [hbV.out]; exact hBV.size
        have hbV0 : bV ≤ wV.heap.size := by rw [hbV.out]; exact Nat.le_refl _
        go_wp2
        go_loopw [7, 8] (fun o a wr => ∃ (j : Nat) (oa : Option Addr) (oc : Nat) (lo : List LO), j ≤ nBlk im ∧ a = .int .i64 ((64 * j : Nat) : Int) ∧ o = .slice oa lo.length oc ∧ Hid (lo.map LO.x = imgOps s im j) ∧ SO bV wr oa oc lo ∧ V4 wr R (.bool k.ok) (.int .i64 k.gen) (.int .i64 k.slot) (.slice oa1 k.bytes.length c1) ∧ Below w.heap.size w wr ∧ bV ≤ wr.heap.size) (fun _ a _ => im.length + 64 - (intOf a).toNat)
        case atStart => exact ⟨0, none, 0, [], Nat.zero_le _, rfl, rfl, rfl, SO.nil _ _, hV, hBV, hbV0⟩
        case round =>
          obtain ⟨j, oa, oc, lo, hjn, rfl, rfl, hlo, hSO, hVr, hBr, hbr⟩ := hrel
          have hll : Hid (lo.length = j) := by show _ = _; have := congrArg List.length hlo.out; rw [List.length_map, imgOps_len] at this; exact this
          obtain ⟨p, hp⟩ := hid_ex (64 * j)
          rw [← hp.out]
          by_cases hlt : j < nBlk im
          · have hpl : (p : Int) < (im.length : Int) := by have := nBlk_lt.1 hlt; have := hp.out; omega
            have hZ0 := zrow_made wr M hM.out
            have hBm := gal (gre wr) (.cells M 5)
            obtain ⟨cu, hcu⟩ := hid_ex (cutOf im j)
            have hcl : Hid (cu.length = min 64 (im.length - p)) := by show _ = _; rw [hcu.out, hp.out]; exact cut_len im j
            go_wp2
            generalize wr.alloc (.cells M 5) = wB at hZ0 hBm ⊢
            obtain ⟨Bb, hBb⟩ := hid_ex wr.heap.size
            rw [← hBb.out] at hZ0 ⊢
            go_loopw [10] (fun i wi => ∃ t : Nat, t ≤ cu.length ∧ i = .int .i64 ((p + t : Nat) : Int) ∧ ZRow wi Bb 64 (cu.take t) ∧ Kept (fun z => z = Bb) wB wi) (fun i _ => p + 64 - (intOf i).toNat)
            case atStart => exact ⟨0, Nat.zero_le _, rfl, hZ0, Kept.refl _ _⟩
            case round =>
              obtain ⟨t, ht, rfl, hZ, hK⟩ := hrel
              obtain ⟨q, hq⟩ := hid_ex (p + t)
              rw [← hq.out]
              have hBi : Below w.heap.size w wr := (gca hBr hBm).trans (hK.below (B := w.heap.size) (gca hBr hBm).size (fun z hz e => by have := hBb.out; have := hBr.size; omega))
              have htl : Hid ((cu.take t).length = t) := by show _ = _; rw [List.length_take]; omega
              by_cases hlt2 : t < cu.length
              · have hc1 := hcl.out
                have hq1 := hq.out
                have w1' : (q : Int) < (im.length : Int) := by omega
                have w2' : (q : Int) < (p : Int) + 64 := by omega
                have w3' : (0 : Int) ≤ (q : Int) := by omega
                have hsub : (q : Int) - (p : Int) = (t : Int) := by omega
                have w4' : (0 : Int) ≤ (t : Int) := by omega
                have w5' : (t : Int) < 64 := by omega
                obtain ⟨x, b, off, hxk, hxm, hie, hc⟩ := (hia.grow hBi).get (k := q) (by omega)
                have d0 := hZ.2.cell (i := t) (by omega)
                have fz := hZ.2.frozen
                rw [hie]
                have hst : cu.take (t + 1) = cu.take t ++ [x] := by rw [take_snoc _ _ hlt2, hxk.out, hq.out, hcu.out, hp.out]; rw [hcu.out] at hlt2; rw [(cut_get hlt2).2.2]
                have hZp := hZ.push (by rw [htl.out]; omega) x
                rw [htl.out, ← hst] at hZp
                clear hc1 hq1
                go_wp2
                go_roundw
                case rel => exact ⟨t + 1, by omega, by rw [show p + (t + 1) = q + 1 by have := hq.out; omega]; go_num, hZp, hK.set (fun _ => rfl) _⟩
                case measure => simp [intOf]; have := hq.out; omega
              · have hte : t = cu.length := by omega
                subst hte
                rw [List.take_length] at hZ
                obtain ⟨bl, hbl⟩ := hid_ex (blkOf im j)
                have hble : cu ++ List.replicate (64 - cu.length) 0 = bl := by rw [hbl.out, hcu.out]; rfl
                have hcu64 : cu.length ≤ 64 := by rw [hcu.out]; exact cutOf_len im j
                have hfull : BRow wr Bb 64 bl := by rw [← hble]; exact hZ.full (n := 64 - cu.length) (Nat.add_sub_cancel' hcu64)
                have hbll : Hid (bl.length = 64) := by show _ = _; rw [hbl.out]; exact blkOf_len im j
                have hBoi := hBm.trans (hK.below (B := _) hBm.size (fun z hz e => by have := hBb.out; omega))
                have hSi := hSO.grow hBoi
                have hVi := hVr.grow hBoi
                have hq64 : (p : Int) / 64 = (j : Int) := by have := hp.out; omega
                obtain ⟨F, hF⟩ := hid_ex (firstOf s + j)
                have hF' : ((firstOf s : Nat) : Int) + (j : Int) = (F : Int) := by rw [hF.out]; omega
                have hFl : F ≤ 200 := by rw [hF.out]; exact first_le hs2 (Nat.le_of_lt (Nat.lt_of_lt_of_le hlt (nBlk_le hil)))
                have hFw := wrapV hFl
                have hends : ¬ ((q : Int) < (im.length : Int)) ∨ ((q : Int) < (im.length : Int) ∧ ¬ ((q : Int) < (p : Int) + 64)) := by have := hcl.out; have := hq.out; omega
                have hbri : bV ≤ wr.heap.size := by have := hK.size; have := hBm.size; omega
                have hlj : lo.length ≤ 64 := by rw [hll.out]; exact Nat.le_of_lt (Nat.lt_of_lt_of_le hlt (nBlk_le hil))
                rcases hends with w1' | ⟨w1', w2'⟩
                · go_wp2_with (first
                    | (go_at_call 165; refine (l4first_any s _ hs2).mono ?_; rintro e wl ⟨rfl, hbl1⟩; have hSl := hSi.grow hbl1; have hsl := hbl1.size)
                    | (at_builtin; refine wpList_append_lies _ rfl (.tmp 53) (.tmp 61) 189 rfl bV 199 j0 _ 3 40 Try.underlying189 hj hy0 hy1 hy2 rfl (by decide) _ _ _ rfl (hSl.own.alloc _) ⟨wl.heap.size, 0, none⟩ 1 1 [.bool false, .int .i64 (F : Int), .slice (some ⟨Bb, 0, none⟩) 64 64] rfl rfl (World.news_of_block (cs := #[.bool false, .int .i64 (F : Int), .slice (some ⟨Bb, 0, none⟩) 64 64]) (t := 199) (fr := (0, 0)) (blk_new_at _ _ _ (by simp))) (by simp [Value.oneCell']) (by decide) (by unfold maxLen; omega) (by omega) (by simp; omega) (wl.heap.size + 1) (by simp) ?_; intro g1 cc1 wa ho1 hg1 _ _))
                  have hSm := hSl.grow (gal (gre wl) (.cells #[.bool false, .int .i64 (F : Int), .slice (some ⟨Bb, 0, none⟩) 64 64] 199))
                  have hfu := hfull.kept (Kept.of_below (gca hbl1 (gal (gre wl) (.cells #[.bool false, .int .i64 (F : Int), .slice (some ⟨Bb, 0, none⟩) 64 64] 199))) (fun _ => False)) (fun e => e)
                  have hSO1 := hSm.more (ys := [⟨⟨false, (F : Int), bl⟩, some ⟨Bb, 0, none⟩, 64⟩]) (fun y hy => by rw [List.mem_singleton.1 hy]; exact Or.inr ⟨Bb, 64, rfl, by have := hBb.out; omega, hfu⟩) (hSO.far1 (fun b _ e => by have := some_addr e; have := hBb.out; omega)) (by simp only [oCells, LO.three, List.flatMap_cons, List.flatMap_nil, List.append_nil, hbll.out]; exact ho1) hg1
                  have hz1' : ∀ z, (Value.slice oa lo.length oc).ownBlock = some z → bV ≤ z := fun z e => (owns_isO hSm.own e).2
                  have hKa := Kept.of_grown hg1
                  have hVa := (hVi.grow (gca hbl1 (gal (gre wl) (.cells #[.bool false, .int .i64 (F : Int), .slice (some ⟨Bb, 0, none⟩) 64 64] 199)))).kept hKa (fun e => by have := hz1' _ e; omega)
                  have hBa := (gal (gca hBi hbl1) (.cells #[.bool false, .int .i64 (F : Int), .slice (some ⟨Bb, 0, none⟩) 64 64] 199)).trans (hKa.below (B := w.heap.size) (by have := hBi.size; simp; omega) (fun z hz e => by have := hz1' z e; omega))
                  have hsa : bV ≤ wa.heap.size := by have := hKa.size; simp at this; omega
                  go_roundw
                  case rel => exact ⟨j + 1, _, _, _, by omega, by have := hp.out; rw [show 64 * (j + 1) = p + 64 by omega]; go_num, by rw [List.length_append]; rfl, by show _ = _; rw [List.map_append, hlo.out, imgOps_succ, hF.out, hbl.out]; rfl, hSO1, hVa, hBa, hsa⟩
                  case measure => simp [intOf]; omega
                · go_wp2_with (first
                    | (go_at_call 165; refine (l4first_any s _ hs2).mono ?_; rintro e wl ⟨rfl, hbl1⟩; have hSl := hSi.grow hbl1; have hsl := hbl1.size)
                    | (at_builtin; refine wpList_append_lies _ rfl (.tmp 53) (.tmp 61) 189 rfl bV 199 j0 _ 3 40 Try.underlying189 hj hy0 hy1 hy2 rfl (by decide) _ _ _ rfl (hSl.own.alloc _) ⟨wl.heap.size, 0, none⟩ 1 1 [.bool false, .int .i64 (F : Int), .slice (some ⟨Bb, 0, none⟩) 64 64] rfl rfl (World.news_of_block (cs := #[.bool false, .int .i64 (F : Int), .slice (some ⟨Bb, 0, none⟩) 64 64]) (t := 199) (fr := (0, 0)) (blk_new_at _ _ _ (by simp))) (by simp [Value.oneCell']) (by decide) (by unfold maxLen; omega) (by omega) (by simp; omega) (wl.heap.size + 1) (by simp) ?_; intro g1 cc1 wa ho1 hg1 _ _))
                  have hSm := hSl.grow (gal (gre wl) (.cells #[.bool false, .int .i64 (F : Int), .slice (some ⟨Bb, 0, none⟩) 64 64] 199))
                  have hfu := hfull.kept (Kept.of_below (gca hbl1 (gal (gre wl) (.cells #[.bool false, .int .i64 (F : Int), .slice (some ⟨Bb, 0, none⟩) 64 64] 199))) (fun _ => False)) (fun e => e)
                  have hSO1 := hSm.more (ys := [⟨⟨false, (F : Int), bl⟩, some ⟨Bb, 0, none⟩, 64⟩]) (fun y hy => by rw [List.mem_singleton.1 hy]; exact Or.inr ⟨Bb, 64, rfl, by have := hBb.out; omega, hfu⟩) (hSO.far1 (fun b _ e => by have := some_addr e; have := hBb.out; omega)) (by simp only [oCells, LO.three, List.flatMap_cons, List.flatMap_nil, List.append_nil, hbll.out]; exact ho1) hg1
                  have hz1' : ∀ z, (Value.slice oa lo.length oc).ownBlock = some z → bV ≤ z := fun z e => (owns_isO hSm.own e).2
                  have hKa := Kept.of_grown hg1
                  have hVa := (hVi.grow (gca hbl1 (gal (gre wl) (.cells #[.bool false, .int .i64 (F : Int), .slice (some ⟨Bb, 0, none⟩) 64 64] 199)))).kept hKa (fun e => by have := hz1' _ e; omega)
                  have hBa := (gal (gca hBi hbl1) (.cells #[.bool false, .int .i64 (F : Int), .slice (some ⟨Bb, 0, none⟩) 64 64] 199)).trans (hKa.below (B := w.heap.size) (by have := hBi.size; simp; omega) (fun z hz e => by have := hz1' z e; omega))
                  have hsa : bV ≤ wa.heap.size := by have := hKa.size; simp at this; omega
                  go_roundw
                  case rel => exact ⟨j + 1, _, _, _, by omega, by have := hp.out; rw [show 64 * (j + 1) = p + 64 by omega]; go_num, by rw [List.length_append]; rfl, by show _ = _; rw [List.map_append, hlo.out, imgOps_succ, hF.out, hbl.out]; rfl, hSO1, hVa, hBa, hsa⟩
                  case measure => simp [intOf]; omega
          · have hpl : ¬ ((p : Int) < (im.length : Int)) := by have : ¬ 64 * j < im.length := fun e => hlt (nBlk_lt.2 e)
                                                               have := hp.out; omega
            obtain rfl : j = nBlk im := by omega
            have hn : nBlk im ≤ 64 := nBlk_le hil
            have hls : lo.length ≤ 64 := by rw [hll.out]; exact hn
            have hszr := hBr.size
            go_upto_region 18 with (at_builtin; refine wpList_append_lies _ rfl (.tmp 63) (.tmp 65) 189 rfl bV 199 j0 _ 3 40 Try.underlying189 hj hy0 hy1 hy2 rfl (by decide) _ _ _ rfl (hSO.own.alloc _) ⟨wr.heap.size, 0, none⟩ 1 1 [.bool true, .int .i64 0, .slice none 0 0] rfl rfl (World.news_of_block (cs := #[.bool true, .int .i64 0, .slice none 0 0]) (t := 199) (fr := (0, 0)) (blk_new_at _ _ _ (by simp))) (by simp [Value.oneCell']) (by decide) (by unfold maxLen; omega) (by omega) (by simp; omega) (wr.heap.size + 1) (by simp) ?_; intro g1 cc1 wa ho1 hg1 _ _)
            have hSa := hSO.grow (gal (gre wr) (.cells #[.bool true, .int .i64 0, .slice none 0 0] 199))
            have hSO1 := hSa.more (ys := [⟨syncO, none, 0⟩]) (fun y hy => Or.inl (by rw [List.mem_singleton.1 hy]; rfl)) (hSa.far1 (fun b hb => absurd rfl hb)) ho1 hg1
            have hz1' : ∀ z, (Value.slice oa lo.length oc).ownBlock = some z → bV ≤ z := fun z e => (owns_isO hSa.own e).2
            have hKa := Kept.of_grown hg1
            have hVa := (hVr.grow (gal (gre wr) (.cells #[.bool true, .int .i64 0, .slice none 0 0] 199))).kept hKa (fun e => by have := hz1' _ e; omega)
            have hBa := (gal hBr (.cells #[.bool true, .int .i64 0, .slice none 0 0] 199)).trans (hKa.below (B := w.heap.size) (by simp; omega) (fun z hz e => by have := hz1' z e; omega))
            have hsa : bV ≤ wa.heap.size := by have := hKa.size; simp at this; omega
            clear hg1 ho1 hSa hz1' hKa hSO
            obtain ⟨sm, hsm⟩ := hid_ex (sumN im)
            have ew1 : IntKind.i64.wrap (k.gen + 1) = k.gen + 1 := by rw [IntKind.wrap_i64]; omega
            have ew2 : IntKind.i64.wrap (sm : Int) = wrap64 (sm : Int) := by first | rfl | (rw [IntKind.wrap_i64]; unfold wrap64; omega)
            have hB : Below wa.heap.size wa wa.drew := gdr (gre _)
            have hSd := hVa.grow hB
            go_cut [11] from 67 (fun v wc => ∃ H, v = .pointer (some ⟨H, 0, none⟩) ∧ HBox wc H true (k.gen + 1) (im.length : Int) (wrap64 (sm : Int)) ∧ Below wa.heap.size wa wc)
            case first =>
              refine wp_regionU (fun u => V4 u R (.bool k.ok) (.int .i64 k.gen) (.int .i64 k.slot) (.slice oa1 k.bytes.length c1)) 99 (by kernel_rfl) hSd (fun _ => ?_)
              generalize wa.drew = wq at hB hSd ⊢
              refine anyU_take (i := 0) (v := ?_) rfl (by kernel_rfl) (by kernel_rfl) (by kernel_rfl) (by kernel_rfl) (fun _ _ _ h => h) (Or.inl ⟨by rfl, ?_⟩) hSd ?_
              rotate_left
              · intro u hSu; obtain ⟨_, s0, s1, s2, s3, sf⟩ := hSu; go_simp <;> with_reducible rfl
              simp only [Act.put, List.getElem_toArray, List.getElem_cons_zero, List.setIfInBounds_toArray, List.set_cons_zero, List.set_cons_succ]
              refine anyU_take (i := 1) (v := ?_) rfl (by kernel_rfl) (by kernel_rfl) (by kernel_rfl) (by kernel_rfl) (fun _ _ _ h => h) (Or.inl ⟨by rfl, ?_⟩) hSd ?_
              rotate_left
              · intro u hSu; obtain ⟨_, s0, s1, s2, s3, sf⟩ := hSu; go_simp <;> with_reducible rfl
              simp only [Act.put, List.getElem_toArray, List.getElem_cons_zero, List.getElem_cons_succ, List.setIfInBounds_toArray, List.set_cons_zero, List.set_cons_succ]
              refine anyU_take (i := 2) (v := ?_) rfl (by kernel_rfl) (by kernel_rfl) (by kernel_rfl) (by kernel_rfl) (fun _ _ _ h => h) (Or.inl ⟨by rfl, ?_⟩) hSd ?_
              rotate_left
              · intro u hSu; obtain ⟨_, s0, s1, s2, s3, sf⟩ := hSu; go_simp <;> with_reducible rfl
              simp only [Act.put, List.getElem_toArray, List.getElem_cons_zero, List.getElem_cons_succ, List.setIfInBounds_toArray, List.set_cons_zero, List.set_cons_succ]
              refine anyU_take (i := 3) (v := ?_) rfl (by kernel_rfl) (by kernel_rfl) (by kernel_rfl) (by kernel_rfl) (fun _ _ _ h => h) (Or.inl ⟨by rfl, ?_⟩) hSd ?_
              rotate_left
              · intro u hSu; obtain ⟨_, s0, s1, s2, s3, sf⟩ := hSu; go_simp <;> with_reducible rfl
              simp only [Act.put, List.getElem_toArray, List.getElem_cons_zero, List.getElem_cons_succ, List.setIfInBounds_toArray, List.set_cons_zero, List.set_cons_succ]
              refine anyU_take (i := 4) (v := ?_) rfl (by kernel_rfl) (by kernel_rfl) (by kernel_rfl) (by kernel_rfl) (fun _ _ _ h => h) (Or.inl ⟨by rfl, ?_⟩) hSd ?_
              rotate_left
              · intro u hSu; obtain ⟨_, s0, s1, s2, s3, sf⟩ := hSu; go_simp <;> with_reducible rfl
              simp only [Act.put, List.getElem_toArray, List.getElem_cons_zero, List.getElem_cons_succ, List.setIfInBounds_toArray, List.set_cons_zero, List.set_cons_succ]
              refine anyU_take (i := 5) (v := ?_) rfl (by kernel_rfl) (by kernel_rfl) (by kernel_rfl) (by kernel_rfl) (fun _ _ _ h => h) (Or.inl ⟨by rfl, ?_⟩) hSd ?_
              rotate_left
              · intro u hSu; obtain ⟨_, s0, s1, s2, s3, sf⟩ := hSu; go_simp <;> with_reducible rfl
              simp only [Act.put, List.getElem_toArray, List.getElem_cons_zero, List.getElem_cons_succ, List.setIfInBounds_toArray, List.set_cons_zero, List.set_cons_succ]
              refine anyU_pair (i := 6) (j := 9) (by kernel_rfl) rfl rfl (fun K hK => ?_) (fun K hK => ?_)
              · go_simp
                refine (l2sum_any ia im ic _ (hia.grow (gca hBa hB)) (by unfold maxLen; omega) hib).mono ?_
                rw [← hsm.out]
                rintro e w6 ⟨rfl, hb6⟩
                have hS6 := hSd.grow hb6
                refine hK.out _ _ hS6 ?_
                clear hK
                refine anyU_take (i := 7) (v := ?_) rfl (by kernel_rfl) (by kernel_rfl) (by kernel_rfl) (by kernel_rfl) (fun _ _ _ h => h) (Or.inl ⟨by rfl, ?_⟩) hS6 ?_
                rotate_left
                · intro u hSu; obtain ⟨_, s0, s1, s2, s3, sf⟩ := hSu; go_simp <;> with_reducible rfl
                simp only [Act.put, List.getElem_toArray, List.getElem_cons_zero, List.getElem_cons_succ, List.setIfInBounds_toArray, List.set_cons_zero, List.set_cons_succ]
                refine anyU_take (i := 8) (v := ?_) rfl (by kernel_rfl) (by kernel_rfl) (by kernel_rfl) (by kernel_rfl) (fun _ _ _ h => h) (Or.inl ⟨by rfl, ?_⟩) hS6 ?_
                rotate_left
                · intro u hSu; obtain ⟨_, s0, s1, s2, s3, sf⟩ := hSu; go_simp <;> with_reducible rfl
                simp only [Act.put, List.getElem_toArray, List.getElem_cons_zero, List.getElem_cons_succ, List.setIfInBounds_toArray, List.set_cons_zero, List.set_cons_succ]
                have hS7 := hS6.grow (gal (gre w6) (.cells #[.bool false, .int .i64 0, .int .i64 0, .int .i64 0] 55))
                refine anyU_one (i := 9) (by kernel_rfl) rfl (fun K hK => ?_)
                go_simp
                refine hK.out _ _ hS7 ?_
                clear hK
                refine anyU_one (i := 10) (by kernel_rfl) rfl (fun K hK => ?_)
                go_simp
                have hS8 := hS6.grow (gal (gre w6) (.cells #[.bool true, .int .i64 (k.gen + 1), .int .i64 (im.length : Int), .int .i64 (wrap64 (sm : Int))] 55))
                refine hK.out _ _ hS8 ?_
                clear hK
                refine anyU_done (by kernel_rfl) ?_
                go_wp2
                go_meet
                case rel => exact ⟨w6.heap.size, rfl, HBox.new w6 _ _ _ _ _, gal (gca hB hb6) _⟩
              · go_simp
                have hS6 := hSd.grow (gal (gre _) (.cells #[.bool false, .int .i64 0, .int .i64 0, .int .i64 0] 55))
                refine hK.out _ _ hS6 ?_
                clear hK
                have hHz := HV.new_at wq noH 55 wq.heap.size rfl
                have hbz := gal hB (.cells #[.bool false, .int .i64 0, .int .i64 0, .int .i64 0] 55)
                have hdz := hB.size
                have hRq := hSd.lt
                generalize wq.alloc (.cells #[.bool false, .int .i64 0, .int .i64 0, .int .i64 0] 55) = wz at hS6 hHz hbz ⊢
                generalize wq.heap.size = H at hHz hdz hRq ⊢
                refine anyU_one (i := 6) (by kernel_rfl) rfl (fun K hK => ?_)
                go_simp
                refine (l2sum_any ia im ic _ (hia.grow (gca hBa hbz)) (by unfold maxLen; omega) hib).mono ?_
                rw [← hsm.out]
                rintro e w6 ⟨rfl, hb6⟩
                have hS7 := hS6.grow hb6
                have hH7 := hHz.grow hb6
                refine hK.out _ _ hS7 ?_
                clear hK
                refine anyU_one (i := 7) (by kernel_rfl) rfl (fun K hK => ?_)
                go_simp
                refine hK.out _ _ hS7 ?_
                clear hK
                refine anyU_one (i := 8) (by kernel_rfl) rfl (fun K hK => ?_)
                go_simp
                refine hK.out _ _ hS7 ?_
                clear hK
                obtain ⟨⟨_, y0, y1, y2, y3⟩, yf⟩ := id hH7
                refine anyU_one (i := 10) (by kernel_rfl) rfl (fun K hK => ?_)
                go_simp
                obtain ⟨r0, r1, r2, r3, KR⟩ := ret4 hH7 (.bool true) (.int .i64 (k.gen + 1)) (.int .i64 (im.length : Int)) (.int .i64 (wrap64 (sm : Int)))
                have hS8 := hS7.kept KR (by omega)
                refine hK.out _ _ hS8 ?_
                clear hK
                refine anyU_done (by kernel_rfl) ?_
                go_wp2
                go_meet
                case rel => exact ⟨H, rfl, ⟨by have := KR.size; have := hH7.box.lt; omega, (World.cell?_setCell_other _ _ _ _ (by simp)).trans ((World.cell?_setCell_other _ _ _ _ (by simp)).trans ((World.cell?_setCell_other _ _ _ _ (by simp)).trans r0)), (World.cell?_setCell_other _ _ _ _ (by simp)).trans ((World.cell?_setCell_other _ _ _ _ (by simp)).trans r1), (World.cell?_setCell_other _ _ _ _ (by simp)).trans r2, r3⟩, (gca hbz hb6).trans (KR.below (B := wa.heap.size) (gca hbz hb6).size (fun z hz e => by omega))⟩
            case rest =>
              obtain ⟨H, rfl, hH, hbc⟩ := hcut
              obtain ⟨lo1, hlo1⟩ := hid_ex (lo ++ [⟨syncO, none, 0⟩])
              rw [← hlo1.out] at hSO1
              have hl1 : Hid (lo1.length = lo.length + 1) := by show _ = _; rw [hlo1.out, List.length_append]; rfl
              have hSc := hSO1.grow hbc
              have hBc := gca hBa hbc
              have hsc : bV ≤ wc.heap.size := by have := hbc.size; omega
              clear hSO1 hVa hB hSd hBa hsa hbc ew1 ew2
              obtain ⟨_, n0, n1, n2, n3⟩ := id hH
              obtain ⟨hb, hhb⟩ := hid_ex (headB (k.gen + 1) (im.length : Int) (wrap64 (sm : Int)))
              have hbl : hb.length ≤ 64 := by rw [hhb.out, headB_length]; omega
              go_upto_region 20 with (first
                | (go_at_call 95; refine (l4block_any true (k.gen + 1) (im.length : Int) (wrap64 (sm : Int)) _).mono ?_; rw [← hhb.out]; rintro e wd ⟨ob, cb, rfl, hOb, hbd⟩; have hSD := hSc.grow hbd; have hsd := hbd.size)
                | (at_builtin; refine wpList_append_lies _ rfl (.tmp 76) (.tmp 81) 189 rfl bV 199 j0 _ 3 40 Try.underlying189 hj hy0 hy1 hy2 rfl (by decide) _ _ _ rfl ((hSD.own_at hl1.out).alloc _) ⟨wd.heap.size, 0, none⟩ 1 1 [.bool false, .int .i64 (s : Int), .slice ob hb.length cb] rfl rfl (World.news_of_block (cs := #[.bool false, .int .i64 (s : Int), .slice ob hb.length cb]) (t := 199) (fr := (0, 0)) (blk_new_at _ _ _ (by simp))) (by simp [Value.oneCell']) (by decide) (by unfold maxLen; omega) (by omega) (by simp; omega) (wd.heap.size + 1) (by simp) ?_; intro g2 cc2 we ho2 hg2 _ _))
              have hMb := owns_mbO hOb rfl
              have hfar2 := hSc.far1 (y := ⟨⟨false, (s : Int), hb⟩, ob, cb⟩) (fun b hne e => by rcases hMb with e0 | ⟨G, n, e1, e2, _⟩; exact absurd e0 hne; rw [e1] at e; have := some_addr e; omega)
              have hSe := hSD.grow (gal (gre wd) (.cells #[.bool false, .int .i64 (s : Int), .slice ob hb.length cb] 199))
              have hSO2 := hSe.more (ys := [⟨⟨false, (s : Int), hb⟩, ob, cb⟩]) (fun y hy => by rw [List.mem_singleton.1 hy]; exact (hMb.growO (gal (gre wd) _)).leO hsc) hfar2 (by rw [hl1.out]; exact ho2) (by rw [hl1.out]; exact hg2)
              have hz2' : ∀ z, (Value.slice (some ⟨g1, 0, none⟩) lo1.length cc1).ownBlock = some z → bV ≤ z := fun z e => (owns_isO hSe.own e).2
              rw [hl1.out] at hz2'
              have hKe := Kept.of_grown hg2
              have hBe := (gal (gca hBc hbd) (.cells #[.bool false, .int .i64 (s : Int), .slice ob hb.length cb] 199)).trans (hKe.below (B := w.heap.size) (by have := hbd.size; have := hBc.size; simp; omega) (fun z hz e => by have := hz2' z e; omega))
              have hse : bV ≤ we.heap.size := by have := hKe.size; simp at this; omega
              obtain ⟨lo2, hlo2⟩ := hid_ex (lo1 ++ [⟨⟨false, (s : Int), hb⟩, ob, cb⟩])
              rw [← hlo2.out] at hSO2
              have hl2 : Hid (lo2.length = lo.length + 1 + 1) := by show _ = _; rw [hlo2.out, List.length_append, hl1.out]; rfl
              clear ho2 hg2 hSe hz2' hKe hfar2 hMb hOb hSD hSc hBc hH n0 n1 n2 n3
              go_wp2_with (at_builtin; refine wpList_append_lies _ rfl (.tmp 83) (.tmp 85) 189 rfl bV 199 j0 _ 3 40 Try.underlying189 hj hy0 hy1 hy2 rfl (by decide) _ _ _ rfl ((hSO2.own_at hl2.out).alloc _) ⟨we.heap.size, 0, none⟩ 1 1 [.bool true, .int .i64 0, .slice none 0 0] rfl rfl (World.news_of_block (cs := #[.bool true, .int .i64 0, .slice none 0 0]) (t := 199) (fr := (0, 0)) (blk_new_at _ _ _ (by simp))) (by simp [Value.oneCell']) (by decide) (by unfold maxLen; omega) (by omega) (by simp; omega) (we.heap.size + 1) (by simp) ?_; intro g3 cc3 wf ho3 hg3 _ _)
              go_ret
              have hSf := hSO2.grow (gal (gre we) (.cells #[.bool true, .int .i64 0, .slice none 0 0] 199))
              have hSO3 := hSf.more (ys := [⟨syncO, none, 0⟩]) (fun y hy => Or.inl (by rw [List.mem_singleton.1 hy]; rfl)) (hSf.far1 (fun b hb => absurd rfl hb)) (by rw [hl2.out]; exact ho3) (by rw [hl2.out]; exact hg3)
              have hz3' : ∀ z, (Value.slice (some ⟨g2, 0, none⟩) lo2.length cc2).ownBlock = some z → bV ≤ z := fun z e => (owns_isO hSf.own e).2
              rw [hl2.out] at hz3'
              have hKf := Kept.of_grown hg3
              have hBf := (gal hBe (.cells #[.bool true, .int .i64 0, .slice none 0 0] 199)).trans (hKf.below (B := w.heap.size) (by have := hBe.size; simp; omega) (fun z hz e => by have := hz3' z e; omega))
              have hLl : L.length = lo.length + 1 + 1 + 1 := by rw [hLe.out, List.length_append, imgOps_len, hll.out]; rfl
              refine ⟨some ⟨g3, 0, none⟩, cc3, _, by rw [hLl]; rfl, ?_, hSO3.le hwV, hBf⟩
              rw [List.map_append, hlo2.out, List.map_append, hlo1.out, List.map_append, hlo.out, hLe.out, hhb.out, hsm.out, hs.out]
              simp [headO]

end Go.Proofs.Ythjddpkegooobaa

/-
  IBLANK: the program's Blank. Own work.
-/
namespace Go.Proofs.Ythjddpkegooobaa
open Go.RowKit

set_option maxRecDepth 100000 in
theorem implBlank_any (w : World) : Calls Try.prog 39 #[] w (DPost blankD w) := by
  obtain ⟨Z, hZ⟩ := hid_ex driveZ.toArray
  have hz : ∀ u, (zeroValue 115).run Try.prog u = .ok (.agg Z) u := by rw [hZ.out]; exact (zero_of_info zero_drive).1
  have hw1 := gal (gre w) (.cells #[.slice none 0 0, .slice none 0 0] 44)
  have hs1 : (w.alloc (.cells #[.slice none 0 0, .slice none 0 0] 44)).heap.size = w.heap.size + 1 := by simp
  have r0 : (w.alloc (.cells #[.slice none 0 0, .slice none 0 0] 44)).cell? ⟨w.heap.size, 0, none⟩ = some (.slice none 0 0) := by simp
  have r1 : (w.alloc (.cells #[.slice none 0 0, .slice none 0 0] 44)).cell? ⟨w.heap.size, 1, none⟩ = some (.slice none 0 0) := by simp
  have rf : ∀ o, (w.alloc (.cells #[.slice none 0 0, .slice none 0 0] 44)).frozen? ⟨w.heap.size, o, none⟩ = false := fun o => by simp
  have hN0 := Drv.new (w.alloc (.cells #[.slice none 0 0, .slice none 0 0] 44))
  rw [← hZ.out, hs1] at hN0
  have hD0 : Dr _ (w.heap.size + 1) blankD.blocks none 0 [] .nilFunc := ⟨hN0, owns_none _ _ _ _, fun x hx => by cases hx⟩
  go_enter Try.func39, Try.ntmps39
  go_wp2_with (first
    | (refine wpList_alloc_big rfl 115 rfl Z hz ?_)
    | (go_at_call 83; refine (disk_any (w.heap.size + 1) blankD.blocks none 0 [] .nilFunc _ (by decide) hD0).mono ?_; rintro e w2 ⟨l, fa, ga, fc, gc, rfl, hmd, hb2⟩; have hb3 := gca (gal (gre _) (.cells Z 115)) hb2; have z0 := cell_later hb3 r0; have z1 := cell_later hb3 r1; have zf : ∀ o, w2.frozen? ⟨w.heap.size, o, none⟩ = false := (fun o => (hb3.frozen (p := ⟨w.heap.size, o, none⟩) (by show w.heap.size < _; omega)).trans (rf o))))
  obtain ⟨c0, c1, K⟩ := ret2 (A := .slice l.ba blankD.blocks.length l.bc) (B := .slice l.wa 0 l.wc) z0 z1
  refine bodyPost_ret (v := blankD.val l) (by simp [results, Try.results39, go_sem, c0, c1]; rfl) rfl ⟨l, fa, ga, fc, gc, rfl, MD.last (d := blankD) hmd K (by simp; omega) (by simp; omega) K.size, ?_⟩
  exact (gca hw1 hb3).trans (K.below (by have := hb3.size; omega) (fun z hz e => by omega))

end Go.Proofs.Ythjddpkegooobaa
