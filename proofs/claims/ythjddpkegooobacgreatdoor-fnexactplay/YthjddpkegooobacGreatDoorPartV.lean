import Derived.Deep.Cut
import Derived.ProofKit
import Derived.OpenShut
import Derived.Deep.Slices
import Derived.Test.YthjddpkegooobacGreatDoorPartU
namespace Go.Proofs.YthjddpkegooobacGreatDoor
open Go.RowKit
set_option maxRecDepth 100000
set_option maxHeartbeats 8000000
def wE (F : Nat → List Nat) (k : Nat) : Nat → Nat
 | 0 => k
 | j + 1 => wE F k j + 1 + (F j).length
theorem MBs.step {w w' : World} {lo hi : Nat} {a : Option Addr} {n : Nat} {F : Nat → List Nat} {fa : Nat → Option Addr} {fc : Nat → Nat} (h : MBs w lo hi a n F fa fc) {j : Nat} (hj : j < n) {ys : List Nat} (hy : ys.length = (F j).length) (hB : BB w' lo hi (fa j) ys) (hK : Kept (fun b => F j ≠ [] ∧ fa j = some ⟨b, 0, none⟩) w w') :
  MBs w' lo hi a n (fun i => if i = j then ys else F i) fa fc := by
 have hp : ∀ b, F j ≠ [] ∧ fa j = some ⟨b, 0, none⟩ → IsB w b := fun b hb => (h.tb ⟨j, hj, hb.1, hb.2⟩).2.2
 refine ⟨fun h0 => ?_, fun i hi => ?_, h.far⟩
 ·
  obtain ⟨g, m, f, h1, h2, h3, h4, h5, h6⟩ := h.row h0
  refine ⟨g, m, f, h1, h2, h3, hK.rowIs h4 (fun hb => not_B_of_bs h4 (hp g hb)), h5, fun i hi => ?_⟩
  show f i = .slice (fa i) (if i = j then ys else F i).length (fc i)
  split
  · rename_i e; subst e; rw [hy]; exact h6 i hi
  · exact h6 i hi
 ·
  show BB w' lo _ (fa i) (if i = j then ys else F i)
  split
  · rename_i e; subst e; exact hB
  ·
   rename_i e
   exact (h.byt i hi).kept hK (fun b hb _ hq => h.ne hi hj e b hb hq.2)
theorem l4ops_any (d : DD) (l : DL) (ia : Option Addr) (im : List Nat) (ic : Nat) (w : World) (hf : d.Fit) (ho : d.Ok) (ha : DAt w l d) (hia : BytesAt w ia im) (hib : ∀ x, x ∈ im → x < 256) (hil : im.length ≤ 4096) :
    Calls Tryz.prog 74 #[d.val l, .slice ia im.length ic] w (OAns (d.lay im) w) := by
  have hX0 := DBox.new w d l 37
  have hA0 := gal (gre w) (.cells #[.slice l.ba d.blocks.length l.bc, .slice l.wa d.waiting.length l.wc] 37)
  obtain ⟨k, hk⟩ := hid_ex d.newestOf
  have hr : k.Rng := by rw [hk.out]; exact newest_rng hf
  obtain ⟨hg0, hg1⟩ := hr.g
  obtain ⟨s, hs⟩ := hid_ex k.other
  have hs2 : s < 2 := by rw [hs.out]; exact k.other_lt
  obtain ⟨i0, hi, hz0, hz1, hz2⟩ := info_parts info_u8
  obtain ⟨M, hM⟩ := hid_ex (madeCells #[Value.int .u8 0] 64)
  have hmk : ∀ u : World, (Instr.makeSlice 58 (.int .i64 64) (.int .i64 64)).run Tryz.prog u = .ok (.slice (some ⟨u.heap.size, 0, none⟩) 64 64) (u.alloc (.cells M 5)) := fun u => by
    have h := run_make (P := Tryz.prog) u 58 5 i0 _ Tryz.underlying58 hi hz0 .i64 .i64 64 64 (by omega) (Int.le_refl _) (by rw [hz2]; omega) (by omega)
    rw [hM.out]
    simpa [hz1, Value.cells] using h
  have hways : (k.ok = false ∧ s = 0) ∨ (k.ok = true ∧ k.slot = 0 ∧ s = 1) ∨ (k.ok = true ∧ k.slot = 1 ∧ s = 0) := by
    rw [hs.out]
    cases e : k.ok with
    | false => exact Or.inl ⟨rfl, if_neg (fun h => by rw [e] at h; cases h.1)⟩
    | true =>
      rcases hr.s e with h | h
      · exact Or.inr (Or.inl ⟨rfl, h, if_pos ⟨e, h⟩⟩)
      · exact Or.inr (Or.inr ⟨rfl, h, if_neg (fun h2 => by rw [h] at h2; cases h2.2)⟩)
  obtain ⟨L, hL⟩ := hid_ex (d.lay im)
  rw [← hL.out]
  have hlay : Hid (L = if k.gen = 1000000000000 then [] else imgOps s im (nBlk im) ++ [syncO, headO k im, syncO]) := by show _ = _; rw [hL.out, hs.out, hk.out]; rfl
  go_enter Tryz.func74, Tryz.ntmps74
  go_upto_region 3 with (go_at_call 26; refine (l4newest_any d l _ hf ho (ha.grow hA0)).mono ?_; rw [← hk.out]; rintro e w1 ⟨oa1, c1, rfl, _, hB1, hn1, hb1⟩)
  have hV := V4.new_at w1 (.bool k.ok) (.int .i64 k.gen) (.int .i64 k.slot) (.slice oa1 k.bytes.length c1) 60 w1.heap.size rfl
  have hBV := gal (gca hA0 hb1) (.cells #[.bool k.ok, .int .i64 k.gen, .int .i64 k.slot, .slice oa1 k.bytes.length c1] 60)
  generalize w1.alloc (.cells #[.bool k.ok, .int .i64 k.gen, .int .i64 k.slot, .slice oa1 k.bytes.length c1] 60) = wV at hV hBV ⊢
  generalize w1.heap.size = R at hV ⊢
  clear hB1 hn1 hb1 hX0 hA0
  obtain ⟨_, q0, q1, q2, q3, qf⟩ := id hV
  obtain ⟨tb, htb⟩ := hid_ex (decide (s = 1))
  go_cut [20] from 14 (fun t wc => t = .bool tb ∧ wc = wV)
  case first =>
    rcases hways with ⟨k1, e1⟩ | ⟨k1, k2, e1⟩ | ⟨k1, k2, e1⟩
    · rw [k1] at q0
      go_wp2
      go_meet
      case rel => exact ⟨by rw [htb.out, e1]; rfl, rfl⟩
    · rw [k1] at q0
      rw [k2] at q2
      go_wp2
      go_meet
      case rel => exact ⟨by rw [htb.out, e1]; rfl, rfl⟩
    · rw [k1] at q0
      rw [k2] at q2
      go_wp2
      go_meet
      case rel => exact ⟨by rw [htb.out, e1]; rfl, rfl⟩
  case rest =>
    obtain ⟨rfl, hwc⟩ := hcut; obtain rfl := hwc.symm
    go_upto_if 20 with fail
    go_cut [6] from 14 (fun v wc => v = .int .i64 (s : Int) ∧ wc = wV)
    case first =>
      cases tb with
      | true =>
        have e1 : s = 1 := by simpa using htb.out.symm
        go_wp2
        go_meet
        case rel => exact ⟨by rw [e1]; rfl, rfl⟩
      | false =>
        have e1 : s = 0 := by have : s ≠ 1 := by simpa using htb.out.symm
                              omega
        go_wp2
        go_meet
        case rel => exact ⟨by rw [e1]; rfl, rfl⟩
    case rest =>
      obtain ⟨rfl, hwc⟩ := hcut; obtain rfl := hwc.symm
      clear hways htb
      by_cases hmax : k.gen = 1000000000000
      · have hLn : L = [] := by rw [hlay.out, if_pos hmax]
        have hmx : (k.gen == 1000000000000) = true := by rw [hmax]; rfl
        subst hLn
        go_wp2
        go_ret
        exact OAns.no hBV
      · have hLe : Hid (L = imgOps s im (nBlk im) ++ [syncO, headO k im, syncO]) := by show _ = _; rw [hlay.out, if_neg hmax]
        have hmx : (k.gen == 1000000000000) = false := by simp [hmax]
        clear hL hlay
        obtain ⟨j0, hj, hy0, hy1, hy2⟩ := info_parts info_implOp
        obtain ⟨bV, hbV⟩ := hid_ex wV.heap.size
        have hRV : R < bV := by rw [hbV.out]; exact hV.lt
        have hwV : w.heap.size ≤ bV := by rw [hbV.out]; exact hBV.size
        have hbV0 : bV ≤ wV.heap.size := by rw [hbV.out]; exact Nat.le_refl _
        go_wp2
        go_loopw [7, 8] (fun o a wr => ∃ (j : Nat) (oa : Option Addr) (oc : Nat) (lo : List LO), j ≤ nBlk im ∧ a = .int .i64 ((64 * j : Nat) : Int) ∧ o = .slice oa lo.length oc ∧ Hid (lo.map LO.x = imgOps s im j) ∧ SO bV wr oa oc lo ∧ V4 wr R (.bool k.ok) (.int .i64 k.gen) (.int .i64 k.slot) (.slice oa1 k.bytes.length c1) ∧ Below w.heap.size w wr ∧ bV ≤ wr.heap.size) (fun _ a _ => im.length + 64 - (intOf a).toNat)
        case atStart => exact ⟨0, none, 0, [], Nat.zero_le _, rfl, rfl, rfl, SO.nil _ _, hV, hBV, hbV0⟩
        case round =>
          obtain ⟨j, oa, oc, lo, hjn, rfl, rfl, hlo, hSO, hVr, hBr, hbr⟩ := hrel
          have hll : Hid (lo.length = j) := by show _ = _; have := congrArg List.length hlo.out; rw [List.length_map, imgOps_len] at this; exact this
          obtain ⟨p, hp⟩ := hid_ex (64 * j)
          rw [← hp.out]
          by_cases hlt : j < nBlk im
          · have hpl : (p : Int) < (im.length : Int) := by have := nBlk_lt.1 hlt; have := hp.out; omega
            have hZ0 := zrow_made wr M hM.out
            have hBm := gal (gre wr) (.cells M 5)
            obtain ⟨cu, hcu⟩ := hid_ex (cutOf im j)
            have hcl : Hid (cu.length = min 64 (im.length - p)) := by show _ = _; rw [hcu.out, hp.out]; exact cut_len im j
            go_wp2
            generalize wr.alloc (.cells M 5) = wB at hZ0 hBm ⊢
            obtain ⟨Bb, hBb⟩ := hid_ex wr.heap.size
            rw [← hBb.out] at hZ0 ⊢
            go_loopw [10] (fun i wi => ∃ t : Nat, t ≤ cu.length ∧ i = .int .i64 ((p + t : Nat) : Int) ∧ ZRow wi Bb 64 (cu.take t) ∧ Kept (fun z => z = Bb) wB wi) (fun i _ => p + 64 - (intOf i).toNat)
            case atStart => exact ⟨0, Nat.zero_le _, rfl, hZ0, Kept.refl _ _⟩
            case round =>
              obtain ⟨t, ht, rfl, hZ, hK⟩ := hrel
              obtain ⟨q, hq⟩ := hid_ex (p + t)
              rw [← hq.out]
              have hBi : Below w.heap.size w wr := (gca hBr hBm).trans (hK.below (B := w.heap.size) (gca hBr hBm).size (fun z hz e => by have := hBb.out; have := hBr.size; omega))
              have htl : Hid ((cu.take t).length = t) := by show _ = _; rw [List.length_take]; omega
              by_cases hlt2 : t < cu.length
              · have hc1 := hcl.out
                have hq1 := hq.out
                have w1' : (q : Int) < (im.length : Int) := by omega
                have w2' : (q : Int) < (p : Int) + 64 := by omega
                have w3' : (0 : Int) ≤ (q : Int) := by omega
                have hsub : (q : Int) - (p : Int) = (t : Int) := by omega
                have w4' : (0 : Int) ≤ (t : Int) := by omega
                have w5' : (t : Int) < 64 := by omega
                obtain ⟨x, b, off, hxk, hxm, hie, hc⟩ := (hia.grow hBi).get (k := q) (by omega)
                have d0 := hZ.2.cell (i := t) (by omega)
                have fz := hZ.2.frozen
                rw [hie]
                have hst : cu.take (t + 1) = cu.take t ++ [x] := by rw [take_snoc _ _ hlt2, hxk.out, hq.out, hcu.out, hp.out]; rw [hcu.out] at hlt2; rw [(cut_get hlt2).2.2]
                have hZp := hZ.push (by rw [htl.out]; omega) x
                rw [htl.out, ← hst] at hZp
                clear hc1 hq1
                go_wp2
                go_roundw
                case rel => exact ⟨t + 1, by omega, by rw [show p + (t + 1) = q + 1 by have := hq.out; omega]; go_num, hZp, hK.set (fun _ => rfl) _⟩
                case measure => simp [intOf]; have := hq.out; omega
              · have hte : t = cu.length := by omega
                subst hte
                rw [List.take_length] at hZ
                obtain ⟨bl, hbl⟩ := hid_ex (blkOf im j)
                have hble : cu ++ List.replicate (64 - cu.length) 0 = bl := by rw [hbl.out, hcu.out]; rfl
                have hcu64 : cu.length ≤ 64 := by rw [hcu.out]; exact cutOf_len im j
                have hfull : BRow wr Bb 64 bl := by rw [← hble]; exact hZ.full (n := 64 - cu.length) (Nat.add_sub_cancel' hcu64)
                have hbll : Hid (bl.length = 64) := by show _ = _; rw [hbl.out]; exact blkOf_len im j
                have hBoi := hBm.trans (hK.below (B := _) hBm.size (fun z hz e => by have := hBb.out; omega))
                have hSi := hSO.grow hBoi
                have hVi := hVr.grow hBoi
                have hq64 : (p : Int) / 64 = (j : Int) := by have := hp.out; omega
                obtain ⟨F, hF⟩ := hid_ex (firstOf s + j)
                have hF' : ((firstOf s : Nat) : Int) + (j : Int) = (F : Int) := by rw [hF.out]; omega
                have hFl : F ≤ 200 := by rw [hF.out]; exact first_le hs2 (Nat.le_of_lt (Nat.lt_of_lt_of_le hlt (nBlk_le hil)))
                have hFw := wrapV hFl
                have hends : ¬ ((q : Int) < (im.length : Int)) ∨ ((q : Int) < (im.length : Int) ∧ ¬ ((q : Int) < (p : Int) + 64)) := by have := hcl.out; have := hq.out; omega
                have hbri : bV ≤ wr.heap.size := by have := hK.size; have := hBm.size; omega
                have hlj : lo.length ≤ 64 := by rw [hll.out]; exact Nat.le_of_lt (Nat.lt_of_lt_of_le hlt (nBlk_le hil))
                rcases hends with w1' | ⟨w1', w2'⟩
                · go_wp2_with (first
                    | (go_at_call 89; refine (l4first_any s _ hs2).mono ?_; rintro e wl ⟨rfl, hbl1⟩; have hSl := hSi.grow hbl1; have hsl := hbl1.size)
                    | (at_builtin; refine wpList_append_lies _ rfl (.tmp 53) (.tmp 61) 127 rfl bV 188 j0 _ 3 40 Tryz.underlying127 hj hy0 hy1 hy2 rfl (by decide) _ _ _ rfl (hSl.own.alloc _) ⟨wl.heap.size, 0, none⟩ 1 1 [.bool false, .int .i64 (F : Int), .slice (some ⟨Bb, 0, none⟩) 64 64] rfl rfl (World.news_of_block (cs := #[.bool false, .int .i64 (F : Int), .slice (some ⟨Bb, 0, none⟩) 64 64]) (t := 188) (fr := (0, 0)) (blk_new_at _ _ _ (by simp))) (by simp [Value.oneCell']) (by decide) (by unfold maxLen; omega) (by omega) (by simp; omega) (wl.heap.size + 1) (by simp) ?_; intro g1 cc1 wa ho1 hg1 _ _))
                  have hSm := hSl.grow (gal (gre wl) (.cells #[.bool false, .int .i64 (F : Int), .slice (some ⟨Bb, 0, none⟩) 64 64] 188))
                  have hfu := hfull.kept (Kept.of_below (gca hbl1 (gal (gre wl) (.cells #[.bool false, .int .i64 (F : Int), .slice (some ⟨Bb, 0, none⟩) 64 64] 188))) (fun _ => False)) (fun e => e)
                  have hSO1 := hSm.more (ys := [⟨⟨false, (F : Int), bl⟩, some ⟨Bb, 0, none⟩, 64⟩]) (fun y hy => by rw [List.mem_singleton.1 hy]; exact Or.inr ⟨Bb, 64, rfl, by have := hBb.out; omega, hfu⟩) (hSO.far1 (fun b _ e => by have := some_addr e; have := hBb.out; omega)) (by simp only [oCells, LO.three, List.flatMap_cons, List.flatMap_nil, List.append_nil, hbll.out]; exact ho1) hg1
                  have hz1' : ∀ z, (Value.slice oa lo.length oc).ownBlock = some z → bV ≤ z := fun z e => (owns_isO hSm.own e).2
                  have hKa := Kept.of_grown hg1
                  have hVa := (hVi.grow (gca hbl1 (gal (gre wl) (.cells #[.bool false, .int .i64 (F : Int), .slice (some ⟨Bb, 0, none⟩) 64 64] 188)))).kept hKa (fun e => by have := hz1' _ e; omega)
                  have hBa := (gal (gca hBi hbl1) (.cells #[.bool false, .int .i64 (F : Int), .slice (some ⟨Bb, 0, none⟩) 64 64] 188)).trans (hKa.below (B := w.heap.size) (by have := hBi.size; simp; omega) (fun z hz e => by have := hz1' z e; omega))
                  have hsa : bV ≤ wa.heap.size := by have := hKa.size; simp at this; omega
                  go_roundw
                  case rel => exact ⟨j + 1, _, _, _, by omega, by have := hp.out; rw [show 64 * (j + 1) = p + 64 by omega]; go_num, by rw [List.length_append]; rfl, by show _ = _; rw [List.map_append, hlo.out, imgOps_succ, hF.out, hbl.out]; rfl, hSO1, hVa, hBa, hsa⟩
                  case measure => simp [intOf]; omega
                · go_wp2_with (first
                    | (go_at_call 89; refine (l4first_any s _ hs2).mono ?_; rintro e wl ⟨rfl, hbl1⟩; have hSl := hSi.grow hbl1; have hsl := hbl1.size)
                    | (at_builtin; refine wpList_append_lies _ rfl (.tmp 53) (.tmp 61) 127 rfl bV 188 j0 _ 3 40 Tryz.underlying127 hj hy0 hy1 hy2 rfl (by decide) _ _ _ rfl (hSl.own.alloc _) ⟨wl.heap.size, 0, none⟩ 1 1 [.bool false, .int .i64 (F : Int), .slice (some ⟨Bb, 0, none⟩) 64 64] rfl rfl (World.news_of_block (cs := #[.bool false, .int .i64 (F : Int), .slice (some ⟨Bb, 0, none⟩) 64 64]) (t := 188) (fr := (0, 0)) (blk_new_at _ _ _ (by simp))) (by simp [Value.oneCell']) (by decide) (by unfold maxLen; omega) (by omega) (by simp; omega) (wl.heap.size + 1) (by simp) ?_; intro g1 cc1 wa ho1 hg1 _ _))
                  have hSm := hSl.grow (gal (gre wl) (.cells #[.bool false, .int .i64 (F : Int), .slice (some ⟨Bb, 0, none⟩) 64 64] 188))
                  have hfu := hfull.kept (Kept.of_below (gca hbl1 (gal (gre wl) (.cells #[.bool false, .int .i64 (F : Int), .slice (some ⟨Bb, 0, none⟩) 64 64] 188))) (fun _ => False)) (fun e => e)
                  have hSO1 := hSm.more (ys := [⟨⟨false, (F : Int), bl⟩, some ⟨Bb, 0, none⟩, 64⟩]) (fun y hy => by rw [List.mem_singleton.1 hy]; exact Or.inr ⟨Bb, 64, rfl, by have := hBb.out; omega, hfu⟩) (hSO.far1 (fun b _ e => by have := some_addr e; have := hBb.out; omega)) (by simp only [oCells, LO.three, List.flatMap_cons, List.flatMap_nil, List.append_nil, hbll.out]; exact ho1) hg1
                  have hz1' : ∀ z, (Value.slice oa lo.length oc).ownBlock = some z → bV ≤ z := fun z e => (owns_isO hSm.own e).2
                  have hKa := Kept.of_grown hg1
                  have hVa := (hVi.grow (gca hbl1 (gal (gre wl) (.cells #[.bool false, .int .i64 (F : Int), .slice (some ⟨Bb, 0, none⟩) 64 64] 188)))).kept hKa (fun e => by have := hz1' _ e; omega)
                  have hBa := (gal (gca hBi hbl1) (.cells #[.bool false, .int .i64 (F : Int), .slice (some ⟨Bb, 0, none⟩) 64 64] 188)).trans (hKa.below (B := w.heap.size) (by have := hBi.size; simp; omega) (fun z hz e => by have := hz1' z e; omega))
                  have hsa : bV ≤ wa.heap.size := by have := hKa.size; simp at this; omega
                  go_roundw
                  case rel => exact ⟨j + 1, _, _, _, by omega, by have := hp.out; rw [show 64 * (j + 1) = p + 64 by omega]; go_num, by rw [List.length_append]; rfl, by show _ = _; rw [List.map_append, hlo.out, imgOps_succ, hF.out, hbl.out]; rfl, hSO1, hVa, hBa, hsa⟩
                  case measure => simp [intOf]; omega
          · have hpl : ¬ ((p : Int) < (im.length : Int)) := by have : ¬ 64 * j < im.length := fun e => hlt (nBlk_lt.2 e)
                                                               have := hp.out; omega
            obtain rfl : j = nBlk im := by omega
            have hn : nBlk im ≤ 64 := nBlk_le hil
            have hls : lo.length ≤ 64 := by rw [hll.out]; exact hn
            have hszr := hBr.size
            go_upto_region 18 with (at_builtin; refine wpList_append_lies _ rfl (.tmp 63) (.tmp 65) 127 rfl bV 188 j0 _ 3 40 Tryz.underlying127 hj hy0 hy1 hy2 rfl (by decide) _ _ _ rfl (hSO.own.alloc _) ⟨wr.heap.size, 0, none⟩ 1 1 [.bool true, .int .i64 0, .slice none 0 0] rfl rfl (World.news_of_block (cs := #[.bool true, .int .i64 0, .slice none 0 0]) (t := 188) (fr := (0, 0)) (blk_new_at _ _ _ (by simp))) (by simp [Value.oneCell']) (by decide) (by unfold maxLen; omega) (by omega) (by simp; omega) (wr.heap.size + 1) (by simp) ?_; intro g1 cc1 wa ho1 hg1 _ _)
            have hSa := hSO.grow (gal (gre wr) (.cells #[.bool true, .int .i64 0, .slice none 0 0] 188))
            have hSO1 := hSa.more (ys := [⟨syncO, none, 0⟩]) (fun y hy => Or.inl (by rw [List.mem_singleton.1 hy]; rfl)) (hSa.far1 (fun b hb => absurd rfl hb)) ho1 hg1
            have hz1' : ∀ z, (Value.slice oa lo.length oc).ownBlock = some z → bV ≤ z := fun z e => (owns_isO hSa.own e).2
            have hKa := Kept.of_grown hg1
            have hVa := (hVr.grow (gal (gre wr) (.cells #[.bool true, .int .i64 0, .slice none 0 0] 188))).kept hKa (fun e => by have := hz1' _ e; omega)
            have hBa := (gal hBr (.cells #[.bool true, .int .i64 0, .slice none 0 0] 188)).trans (hKa.below (B := w.heap.size) (by simp; omega) (fun z hz e => by have := hz1' z e; omega))
            have hsa : bV ≤ wa.heap.size := by have := hKa.size; simp at this; omega
            clear hg1 ho1 hSa hz1' hKa hSO
            obtain ⟨sm, hsm⟩ := hid_ex (sumN im)
            have ew1 : IntKind.i64.wrap (k.gen + 1) = k.gen + 1 := by rw [IntKind.wrap_i64]; omega
            have ew2 : IntKind.i64.wrap (sm : Int) = wrap64 (sm : Int) := by first | rfl | (rw [IntKind.wrap_i64]; unfold wrap64; omega)
            have hB : Below wa.heap.size wa wa.drew := gdr (gre _)
            have hSd := hVa.grow hB
            go_cut [11] from 67 (fun v wc => ∃ H, v = .pointer (some ⟨H, 0, none⟩) ∧ HBox wc H true (k.gen + 1) (im.length : Int) (wrap64 (sm : Int)) ∧ Below wa.heap.size wa wc)
            case first =>
              refine wp_regionU (fun u => V4 u R (.bool k.ok) (.int .i64 k.gen) (.int .i64 k.slot) (.slice oa1 k.bytes.length c1)) 99 (by kernel_rfl) hSd (fun _ => ?_)
              generalize wa.drew = wq at hB hSd ⊢
              refine anyU_tk (i := 0) rfl hSd (fun u hSu => by obtain ⟨_, s0, s1, s2, s3, sf⟩ := hSu; go_simp <;> with_reducible rfl) ?_
              refine anyU_tk (i := 1) rfl hSd (fun u hSu => by obtain ⟨_, s0, s1, s2, s3, sf⟩ := hSu; go_simp <;> with_reducible rfl) ?_
              refine anyU_tk (i := 2) rfl hSd (fun u hSu => by obtain ⟨_, s0, s1, s2, s3, sf⟩ := hSu; go_simp <;> with_reducible rfl) ?_
              refine anyU_tk (i := 3) rfl hSd (fun u hSu => by obtain ⟨_, s0, s1, s2, s3, sf⟩ := hSu; go_simp <;> with_reducible rfl) ?_
              refine anyU_tk (i := 4) rfl hSd (fun u hSu => by obtain ⟨_, s0, s1, s2, s3, sf⟩ := hSu; go_simp <;> with_reducible rfl) ?_
              refine anyU_tk (i := 5) rfl hSd (fun u hSu => by obtain ⟨_, s0, s1, s2, s3, sf⟩ := hSu; go_simp <;> with_reducible rfl) ?_
              simp only [Act.put, List.getElem_toArray, List.getElem_cons_zero, List.getElem_cons_succ, List.setIfInBounds_toArray, List.set_cons_zero, List.set_cons_succ]
              refine anyU_pair (i := 6) (j := 9) (by kernel_rfl) rfl rfl (fun K hK => ?_) (fun K hK => ?_)
              · go_simp
                refine (l2sum_any ia im ic _ (hia.grow (gca hBa hB)) (by unfold maxLen; omega) hib).mono ?_
                rw [← hsm.out]
                rintro e w6 ⟨rfl, hb6⟩
                have hS6 := hSd.grow hb6
                refine hK.out _ _ hS6 ?_
                clear hK
                refine anyU_tk (i := 7) rfl hS6 (fun u hSu => by obtain ⟨_, s0, s1, s2, s3, sf⟩ := hSu; go_simp <;> with_reducible rfl) ?_
                refine anyU_tk (i := 8) rfl hS6 (fun u hSu => by obtain ⟨_, s0, s1, s2, s3, sf⟩ := hSu; go_simp <;> with_reducible rfl) ?_
                simp only [Act.put, List.getElem_toArray, List.getElem_cons_zero, List.getElem_cons_succ, List.setIfInBounds_toArray, List.set_cons_zero, List.set_cons_succ]
                have hS7 := hS6.grow (gal (gre w6) (.cells #[.bool false, .int .i64 0, .int .i64 0, .int .i64 0] 148))
                refine anyU_one (i := 9) (by kernel_rfl) rfl (fun K hK => ?_)
                go_simp
                refine hK.out _ _ hS7 ?_
                clear hK
                refine anyU_one (i := 10) (by kernel_rfl) rfl (fun K hK => ?_)
                go_simp
                have hS8 := hS6.grow (gal (gre w6) (.cells #[.bool true, .int .i64 (k.gen + 1), .int .i64 (im.length : Int), .int .i64 (wrap64 (sm : Int))] 148))
                refine hK.out _ _ hS8 ?_
                clear hK
                refine anyU_done (by kernel_rfl) ?_
                go_wp2
                go_meet
                case rel => exact ⟨w6.heap.size, rfl, HBox.new w6 _ _ _ _ _, gal (gca hB hb6) _⟩
              · go_simp
                have hS6 := hSd.grow (gal (gre _) (.cells #[.bool false, .int .i64 0, .int .i64 0, .int .i64 0] 148))
                refine hK.out _ _ hS6 ?_
                clear hK
                have hHz := HV.new_at wq noH 148 wq.heap.size rfl
                have hbz := gal hB (.cells #[.bool false, .int .i64 0, .int .i64 0, .int .i64 0] 148)
                have hdz := hB.size
                have hRq := hSd.lt
                generalize wq.alloc (.cells #[.bool false, .int .i64 0, .int .i64 0, .int .i64 0] 148) = wz at hS6 hHz hbz ⊢
                generalize wq.heap.size = H at hHz hdz hRq ⊢
                refine anyU_one (i := 6) (by kernel_rfl) rfl (fun K hK => ?_)
                go_simp
                refine (l2sum_any ia im ic _ (hia.grow (gca hBa hbz)) (by unfold maxLen; omega) hib).mono ?_
                rw [← hsm.out]
                rintro e w6 ⟨rfl, hb6⟩
                have hS7 := hS6.grow hb6
                have hH7 := hHz.grow hb6
                refine hK.out _ _ hS7 ?_
                clear hK
                refine anyU_one (i := 7) (by kernel_rfl) rfl (fun K hK => ?_)
                go_simp
                refine hK.out _ _ hS7 ?_
                clear hK
                refine anyU_one (i := 8) (by kernel_rfl) rfl (fun K hK => ?_)
                go_simp
                refine hK.out _ _ hS7 ?_
                clear hK
                obtain ⟨⟨_, y0, y1, y2, y3⟩, yf⟩ := id hH7
                refine anyU_one (i := 10) (by kernel_rfl) rfl (fun K hK => ?_)
                go_simp
                obtain ⟨r0, r1, r2, r3, KR⟩ := ret4 hH7 (.bool true) (.int .i64 (k.gen + 1)) (.int .i64 (im.length : Int)) (.int .i64 (wrap64 (sm : Int)))
                have hS8 := hS7.kept KR (by omega)
                refine hK.out _ _ hS8 ?_
                clear hK
                refine anyU_done (by kernel_rfl) ?_
                go_wp2
                go_meet
                case rel => exact ⟨H, rfl, ⟨by have := KR.size; have := hH7.box.lt; omega, (World.cell?_setCell_other _ _ _ _ (by simp)).trans ((World.cell?_setCell_other _ _ _ _ (by simp)).trans ((World.cell?_setCell_other _ _ _ _ (by simp)).trans r0)), (World.cell?_setCell_other _ _ _ _ (by simp)).trans ((World.cell?_setCell_other _ _ _ _ (by simp)).trans r1), (World.cell?_setCell_other _ _ _ _ (by simp)).trans r2, r3⟩, (gca hbz hb6).trans (KR.below (B := wa.heap.size) (gca hbz hb6).size (fun z hz e => by omega))⟩
            case rest =>
              obtain ⟨H, rfl, hH, hbc⟩ := hcut
              obtain ⟨lo1, hlo1⟩ := hid_ex (lo ++ [⟨syncO, none, 0⟩])
              rw [← hlo1.out] at hSO1
              have hl1 : Hid (lo1.length = lo.length + 1) := by show _ = _; rw [hlo1.out, List.length_append]; rfl
              have hSc := hSO1.grow hbc
              have hBc := gca hBa hbc
              have hsc : bV ≤ wc.heap.size := by have := hbc.size; omega
              clear hSO1 hVa hB hSd hBa hsa hbc ew1 ew2
              obtain ⟨_, n0, n1, n2, n3⟩ := id hH
              obtain ⟨hb, hhb⟩ := hid_ex (headB (k.gen + 1) (im.length : Int) (wrap64 (sm : Int)))
              have hbl : hb.length ≤ 64 := by rw [hhb.out, headB_length]; omega
              go_upto_region 20 with (first
                | (go_at_call 116; refine (l4block_any true (k.gen + 1) (im.length : Int) (wrap64 (sm : Int)) _).mono ?_; rw [← hhb.out]; rintro e wd ⟨ob, cb, rfl, hOb, hbd⟩; have hSD := hSc.grow hbd; have hsd := hbd.size)
                | (at_builtin; refine wpList_append_lies _ rfl (.tmp 76) (.tmp 81) 127 rfl bV 188 j0 _ 3 40 Tryz.underlying127 hj hy0 hy1 hy2 rfl (by decide) _ _ _ rfl ((hSD.own_at hl1.out).alloc _) ⟨wd.heap.size, 0, none⟩ 1 1 [.bool false, .int .i64 (s : Int), .slice ob hb.length cb] rfl rfl (World.news_of_block (cs := #[.bool false, .int .i64 (s : Int), .slice ob hb.length cb]) (t := 188) (fr := (0, 0)) (blk_new_at _ _ _ (by simp))) (by simp [Value.oneCell']) (by decide) (by unfold maxLen; omega) (by omega) (by simp; omega) (wd.heap.size + 1) (by simp) ?_; intro g2 cc2 we ho2 hg2 _ _))
              have hMb := owns_mbO hOb rfl
              have hfar2 := hSc.far1 (y := ⟨⟨false, (s : Int), hb⟩, ob, cb⟩) (fun b hne e => by rcases hMb with e0 | ⟨G, n, e1, e2, _⟩; exact absurd e0 hne; rw [e1] at e; have := some_addr e; omega)
              have hSe := hSD.grow (gal (gre wd) (.cells #[.bool false, .int .i64 (s : Int), .slice ob hb.length cb] 188))
              have hSO2 := hSe.more (ys := [⟨⟨false, (s : Int), hb⟩, ob, cb⟩]) (fun y hy => by rw [List.mem_singleton.1 hy]; exact (hMb.growO (gal (gre wd) _)).leO hsc) hfar2 (by rw [hl1.out]; exact ho2) (by rw [hl1.out]; exact hg2)
              have hz2' : ∀ z, (Value.slice (some ⟨g1, 0, none⟩) lo1.length cc1).ownBlock = some z → bV ≤ z := fun z e => (owns_isO hSe.own e).2
              rw [hl1.out] at hz2'
              have hKe := Kept.of_grown hg2
              have hBe := (gal (gca hBc hbd) (.cells #[.bool false, .int .i64 (s : Int), .slice ob hb.length cb] 188)).trans (hKe.below (B := w.heap.size) (by have := hbd.size; have := hBc.size; simp; omega) (fun z hz e => by have := hz2' z e; omega))
              have hse : bV ≤ we.heap.size := by have := hKe.size; simp at this; omega
              obtain ⟨lo2, hlo2⟩ := hid_ex (lo1 ++ [⟨⟨false, (s : Int), hb⟩, ob, cb⟩])
              rw [← hlo2.out] at hSO2
              have hl2 : Hid (lo2.length = lo.length + 1 + 1) := by show _ = _; rw [hlo2.out, List.length_append, hl1.out]; rfl
              clear ho2 hg2 hSe hz2' hKe hfar2 hMb hOb hSD hSc hBc hH n0 n1 n2 n3
              go_wp2_with (at_builtin; refine wpList_append_lies _ rfl (.tmp 83) (.tmp 85) 127 rfl bV 188 j0 _ 3 40 Tryz.underlying127 hj hy0 hy1 hy2 rfl (by decide) _ _ _ rfl ((hSO2.own_at hl2.out).alloc _) ⟨we.heap.size, 0, none⟩ 1 1 [.bool true, .int .i64 0, .slice none 0 0] rfl rfl (World.news_of_block (cs := #[.bool true, .int .i64 0, .slice none 0 0]) (t := 188) (fr := (0, 0)) (blk_new_at _ _ _ (by simp))) (by simp [Value.oneCell']) (by decide) (by unfold maxLen; omega) (by omega) (by simp; omega) (we.heap.size + 1) (by simp) ?_; intro g3 cc3 wf ho3 hg3 _ _)
              go_ret
              have hSf := hSO2.grow (gal (gre we) (.cells #[.bool true, .int .i64 0, .slice none 0 0] 188))
              have hSO3 := hSf.more (ys := [⟨syncO, none, 0⟩]) (fun y hy => Or.inl (by rw [List.mem_singleton.1 hy]; rfl)) (hSf.far1 (fun b hb => absurd rfl hb)) (by rw [hl2.out]; exact ho3) (by rw [hl2.out]; exact hg3)
              have hz3' : ∀ z, (Value.slice (some ⟨g2, 0, none⟩) lo2.length cc2).ownBlock = some z → bV ≤ z := fun z e => (owns_isO hSf.own e).2
              rw [hl2.out] at hz3'
              have hKf := Kept.of_grown hg3
              have hBf := (gal hBe (.cells #[.bool true, .int .i64 0, .slice none 0 0] 188)).trans (hKf.below (B := w.heap.size) (by have := hBe.size; simp; omega) (fun z hz e => by have := hz3' z e; omega))
              have hLl : L.length = lo.length + 1 + 1 + 1 := by rw [hLe.out, List.length_append, imgOps_len, hll.out]; rfl
              refine ⟨some ⟨g3, 0, none⟩, cc3, _, by rw [hLl]; rfl, ?_, hSO3.le hwV, hBf⟩
              rw [List.map_append, hlo2.out, List.map_append, hlo1.out, List.map_append, hlo.out, hLe.out, hhb.out, hsm.out, hs.out]
              simp [headO]
theorem specBlank_own (w : World) : Calls Tryz.prog 40 #[] w (BOwn w) := by
 obtain ⟨i0, hi, hz0, hz1, hz2⟩ := info_parts info_u8
 obtain ⟨j0, hj, hy0, hy1, hy2'⟩ := info_parts info_bytes
 obtain ⟨M, hM⟩ := hid_ex (madeCells #[Value.int .u8 0] 64)
 have : ∀ u : World, (Instr.makeSlice 58 (.int .i64 64) (.int .i64 64)).run Tryz.prog u =
   .ok (.slice (some ⟨u.heap.size, 0, none⟩) 64 64) (u.alloc (.cells M 5)) := fun u => by
  have h := run_make (P := Tryz.prog) u 58 5 i0 _ Tryz.underlying58 hi hz0 .i64 .i64 (64 : Int) (64 : Int) (by omega) (Int.le_refl _) (by rw [hz2]; omega) (by omega)
  rw [hM.out]
  simpa [hz1, Value.cells] using h
 have hmo : ∀ {base : Nat} (u : World), base ≤ u.heap.size → (u.alloc (.cells M 5)).ownsRow base 5 1 (.slice (some ⟨u.heap.size, 0, none⟩) (List.replicate 64 0).length 64) (List.replicate 64 0).length (bcells (List.replicate 64 0)) := fun u hb => by
  have := owns_made (n := 64) hb (by unfold maxLen; omega)
  rw [← hM.out] at this
  simpa using this
 go_enter Tryz.func40, Tryz.ntmps40
 go_upto_region 2 with fail
 have hw1 := gal (gal (gre w) (.cells #[.slice none 0 0, .slice none 0 0] 37)) (.cells #[.slice none 0 0, .slice none 0 0] 37)
 have hR := (VB.new w (.slice none 0 0) (.slice none 0 0) 37).grow (gal (gre _) (.cells #[.slice none 0 0, .slice none 0 0] 37))
 have hV := VB.new_at (w.alloc (.cells #[.slice none 0 0, .slice none 0 0] 37)) (.slice none 0 0) (.slice none 0 0) 37 (w.heap.size + 1) (by simp)
 generalize (w.alloc (.cells #[.slice none 0 0, .slice none 0 0] 37)).alloc (.cells #[.slice none 0 0, .slice none 0 0] 37) = wA at hw1 hR hV ⊢
 obtain ⟨R, hRe⟩ := hid_ex w.heap.size
 obtain ⟨V, hVe⟩ := hid_ex (w.heap.size + 1)
 rw [← hVe.out] at hV ⊢
 rw [← hRe.out] at hR ⊢
 have hI0 : BInv w wA R V 0 := ⟨[], none, 0, rfl, rfl, SB.nil _ _, hV, hR, hw1⟩
 clear hw1 hR hV
 go_wp2
 go_loopw [2] (fun i wr => ∃ k : Nat, k ≤ 130 ∧ i = .int .i64 k ∧ BInv w wr R V k) (fun i _ => 130 - (intOf i).toNat)
 case atStart => exact ⟨0, Nat.zero_le _, rfl, hI0⟩
 case round =>
  obtain ⟨k, hk, rfl, lb, ba, bc, hll, hlm, hL, hV, hR, hb⟩ := hrel
  by_cases hlt : k < 130
  ·
   have i1 : (k : Int) < 130 := by omega
   clear hI0
   go_wp2
   refine wp_regionU (fun u => u.cell? ⟨V, 0, none⟩ = some (.slice ba lb.length bc)) 6 (by kernel_rfl) (hV.grow (gdr (gre wr))).v0 (fun hS0 => ?_)
   have hLd := hL.grow (gdr (gre wr))
   have hVd := hV.grow (gdr (gre wr))
   have hRd := hR.grow (gdr (gre wr))
   have hbd := gdr hb
   generalize wr.drew = wd at hLd hVd hRd hbd hS0 ⊢
   refine anyU_tk (i := 0) rfl hS0 (fun u hSu => by (try dsimp only at hSu); go_simp <;> with_reducible rfl) ?_
   refine anyU_tk (i := 1) rfl hS0 (fun u hSu => by (try dsimp only at hSu); go_simp <;> with_reducible rfl) ?_
   simp only [Act.put, List.getElem_toArray, List.getElem_cons_zero, List.getElem_cons_succ, List.setIfInBounds_toArray, List.set_cons_zero, List.set_cons_succ]
   have hB1 := gal (gre wd) (.cells M 5)
   have hS1 := cell_later hB1 hS0
   have hS1' : Hid _ := hS1
   clear hS1
   refine anyU_one (i := 2) (by kernel_rfl) rfl (fun K hK => ?_)
   go_simp
   refine hK.out _ _ hS1'.out ?_
   clear hK
   have hy : (wd.alloc (.cells M 5)).ownsRow (V + 1) 5 1 (.slice (some ⟨wd.heap.size, 0, none⟩) (List.replicate 64 0).length 64) (List.replicate 64 0).length (bcells (List.replicate 64 0)) := hmo wd (by have := hVd.lt; omega)
   have hL1 := hLd.grow hB1
   have hV1 := hVd.grow hB1
   have hs1 : (wd.alloc (.cells M 5)).heap.size = wd.heap.size + 1 := by simp
   have hbel1 := gca hbd hB1
   generalize wd.alloc (.cells M 5) = w1 at hB1 hS1' hy hL1 hV1 hs1 hbel1 ⊢
   have hB2 := gal (gre w1) (.cells #[.slice (some ⟨wd.heap.size, 0, none⟩) 64 64] 58)
   have hS2 := cell_later hB2 hS1'.out
   have hS2' : Hid _ := hS2
   clear hS2
   refine anyU_one (i := 3) (by kernel_rfl) rfl (fun K hK => ?_)
   go_simp
   refine hK.out _ _ hS2'.out ?_
   clear hK
   have hL2 := hL1.grow hB2
   have hV2 := hV1.grow hB2
   have hbel2 := gca hbel1 hB2
   have hy2 := (Kept.of_below hB2 (fun _ => False)).owns hy (fun _ _ e => e)
   have hnew := World.news_of_block (cs := #[.slice (some ⟨wd.heap.size, 0, none⟩) 64 64]) (t := 58) (fr := (0, 0)) (blk_new_at w1 (.cells #[.slice (some ⟨wd.heap.size, 0, none⟩) 64 64] 58) (wd.heap.size + 1) hs1.symm)
   have hs2 : (w1.alloc (.cells #[.slice (some ⟨wd.heap.size, 0, none⟩) 64 64] 58)).heap.size = wd.heap.size + 1 + 1 := by simp [hs1]
   generalize w1.alloc (.cells #[.slice (some ⟨wd.heap.size, 0, none⟩) 64 64] 58) = w2 at hB2 hS2' hL2 hV2 hbel2 hy2 hnew hs2 ⊢
   have hlw := hll.out
   refine anyU_one (i := 4) (by kernel_rfl) rfl (fun K hK => ?_)
   refine step_append_lies _ (by rfl) (.tmp 8) (.tmp 10) 22 rfl (V + 1) 58 j0 _ 1 24 Tryz.underlying22 hj hy0 hy1 hy2' rfl (by decide) (.slice ba lb.length bc) lb.length (lb.map LB.v) (by rfl) hL2.own ⟨wd.heap.size + 1, 0, none⟩ 1 1 [.slice (some ⟨wd.heap.size, 0, none⟩) 64 64] (by rfl) rfl hnew (by simp [Value.oneCell']) (by decide) (by unfold maxLen; omega) (by omega) (by have := hV2.lt; omega) (wd.heap.size + 1 + 1) hs2 ?_
   intro gg cc w5 hown5 hgrow5 hat5 hlt5
   have K5 := Kept.of_grown hgrow5
   have hL5 := hL2.push (y := ⟨List.replicate 64 0, some ⟨wd.heap.size, 0, none⟩, 64⟩) hy2 hown5 hgrow5
   have hV5 := hV2.kept K5 (fun e => by have := (owns_isS hL2.own e).2; omega)
   refine hK.out _ _ hV5.v0 ?_
   clear hK
   simp only [Act.put, List.getElem_toArray, List.getElem_cons_zero, List.getElem_cons_succ, List.setIfInBounds_toArray, List.set_cons_zero, List.set_cons_succ]
   refine anyU_one (i := 5) (by kernel_rfl) rfl (fun K hK => ?_)
   go_simp
   refine hK.out _ _ hV5.v0 ?_
   clear hK
   have fz := hV5.vf
   have c8 := hV5.v0
   refine anyU_last (by kernel_rfl) rfl (by kernel_rfl) (fun K hK => ?_)
   go_simp
   refine hK.out _ _ ?_
   clear hK
   have hbel5 := hbel2.trans (K5.below (B := w.heap.size) hbel2.size (fun z hz e => by have := (owns_isS hL2.own e).2; have := hVe.out; omega))
   have hfin : SB (V + 1) (w5.setCell ⟨V, 0, none⟩ (.slice (some ⟨gg, 0, none⟩) (lb.length + 1) cc)) (some ⟨gg, 0, none⟩) cc (lb ++ [⟨List.replicate 64 0, some ⟨wd.heap.size, 0, none⟩, 64⟩]) := hL5.set (by omega) _ _
   have hfV := hV5.set0 (.slice (some ⟨gg, 0, none⟩) (lb.length + 1) cc)
   have hfR := (((hRd.grow hB1).grow hB2).kept K5 (fun e => by have := (owns_isS hL2.own e).2; have := hVe.out; have := hRe.out; omega)).kept (Kept.one w5 V 0 (.slice (some ⟨gg, 0, none⟩) (lb.length + 1) cc)) (by have := hVe.out; have := hRe.out; omega)
   rw [hlw] at hfin hfV hfR
   go_wp2
   go_roundw
   case rel => exact ⟨k + 1, by omega, by go_num, lb ++ [⟨List.replicate 64 0, some ⟨wd.heap.size, 0, none⟩, 64⟩], some ⟨gg, 0, none⟩, cc, by show _ = _; rw [List.length_append, hlw]; rfl, by show _ = _; rw [List.map_append, hlm.out]; exact (List.replicate_succ' (n := k)).symm, hfin, by rw [List.length_append, hlw]; exact hfV, hfR, gse hbel5 (by have := hVe.out; show w.heap.size ≤ V; omega) _⟩
   case measure => simp [intOf]; omega
  ·
   obtain rfl : k = 130 := by omega
   have y0 := hV.v0
   have y1 := hV.v1
   have z0 := hR.v0
   have z1 := hR.v1
   have zf := hR.vf
   obtain ⟨c0, c1, K⟩ := ret2 (A := .slice ba lb.length bc) (B := .slice none 0 0) z0 z1
   go_wp2
   refine bodyPost_ret (v := .agg #[.slice ba lb.length bc, .slice none 0 0]) (by simp [results, Tryz.results40, go_sem, c0, c1]) rfl ⟨lb, ba, bc, by rw [hll.out]; simp [DD.val, blankD], hlm.out, ?_, ?_⟩
   · exact ((hL.set (V := R) (by have := hVe.out; have := hRe.out; omega) 0 (.slice ba lb.length bc)).set (V := R) (by have := hVe.out; have := hRe.out; omega) 1 (.slice none 0 0)).leB (by have := hVe.out; omega)
   · exact hb.trans (K.below hb.size (fun z hz e => by have := hRe.out; omega))
theorem GG.small {g : GG} (h : g.sz ≤ 1048576) : g.nodes.length ≤ 1048576 ∧ ∀ n, n ∈ g.nodes → n.vals.length ≤ 1048576 := by
 have h0 := g.root.sz_nonneg
 have h1 := szNodes_nonneg g.nodes
 unfold GG.sz at h
 refine ⟨by omega, fun n hn => ?_⟩
 have h2 : n.sz ≤ szNodes g.nodes := by
  clear h h0 h1
  generalize g.nodes = l at hn ⊢
  induction l with
  | nil => cases hn
  | cons x r ih =>
   simp only [szNodes]
   have := x.sz_nonneg
   have := szNodes_nonneg r
   cases List.mem_cons.1 hn with
   | inl e => subst e; omega
   | inr e => have := ih e; omega
 have h3 := szVals_nonneg n.vals
 unfold GN.sz at h2
 omega
open Go.RowKit Go.ChangeShapes Go.WideShapes Go.Deep
theorem cellsInt : Tryz.prog.cellsOf 3 = 1 := by kernel_rfl
theorem cellsInt64 : Tryz.prog.cellsOf 2 = 1 := by kernel_rfl
theorem cellsString : Tryz.prog.cellsOf 9 = 1 := by kernel_rfl
theorem cellsVal : Tryz.prog.cellsOf 78 = 4 := by kernel_rfl
theorem cellsNode : Tryz.prog.cellsOf 233 = 2 := by kernel_rfl
theorem cellsGraph : Tryz.prog.cellsOf 81 = 5 := by kernel_rfl
theorem cellsVals : Tryz.prog.cellsOf 231 = 1 := by kernel_rfl
theorem cellsNodes : Tryz.prog.cellsOf 79 = 1 := by kernel_rfl
theorem i64_of_wf {n : Int} (h : (Lit.int .i64 n).wf = true) : I64 n := by
 have h := bounds_i64 h
 unfold I64
 omega
section
variable {H : Type} {enc : TypeId × Value → H} {w : World} {base : Nat} {spare : Nat → Bool} {held : Bool}
theorem openVal {fuel : Nat} {cs : List Value} {x : DataW H × List MemPlace} (h : DataW.trod enc Tryz.prog w base spare held fuel 78 cs = some x) :
  ∃ v : GV, v.Ok ∧ cs = [.int .i64 v.kind, .int .i64 v.num, .string v.text, .int .i64 v.node] ∧ x.2 = [] := by
 obtain ⟨xs, n, _, rfl, hl, hlen, hf⟩ := DataW.trod_struct Tryz.underlying78 h
 rw [cellsVal] at hl
 match xs, hlen, cs, hl with
 | [y0, y1, y2, y3], _, [c0, c1, c2, c3], _ =>
  have h0 := hf 0 _ rfl
  have h1 := hf 1 _ rfl
  have h2 := hf 2 _ rfl
  have h3 := hf 3 _ rfl
  simp [cellsInt, cellsInt64, cellsString] at h0 h1 h2 h3
  obtain ⟨k, e0, rfl, w0⟩ := DataW.trod_int Tryz.underlying3 h0
  obtain ⟨m, e1, rfl, w1⟩ := DataW.trod_int Tryz.underlying2 h1
  obtain ⟨s, e2, rfl, w2⟩ := DataW.trod_string Tryz.underlying9 h2
  obtain ⟨q, e3, rfl, w3⟩ := DataW.trod_int Tryz.underlying3 h3
  simp at e0 e1 e2 e3
  subst e0 e1 e2 e3
  exact ⟨⟨k, m, s, q⟩, ⟨i64_of_wf w0, i64_of_wf w1, w2, i64_of_wf w3⟩, rfl, rfl⟩
theorem list_of {α : Type} [Inhabited α] {n : Nat} {p : Nat → α → Prop} (h : ∀ i, i < n → ∃ x, p i x) : ∃ l : List α, l.length = n ∧ ∀ i, i < n → p i l[i]! := by
 obtain ⟨f, hf⟩ := choose_lt h
 refine ⟨(List.range n).map f, by simp, fun i hi => ?_⟩
 have e : ((List.range n).map f)[i]! = f i := by
  rw [getElem!_pos _ i (by simpa using hi)]; simp
 rw [e]; exact hf i hi
theorem all_of_at {α : Type} [Inhabited α] {p : α → Prop} {l : List α} (h : ∀ i, i < l.length → p l[i]!) : ∀ x, x ∈ l → p x := fun x hx => by
 obtain ⟨i, hi, e⟩ := List.getElem_of_mem hx
 have := h i hi
 rwa [getElem!_pos l i hi, e] at this
theorem plain_addr {a : Addr} {k : Nat} {cs : List Value} (hk : 0 < k) (h : w.cells? base (a.add (0 * k)) k = some cs) : a = ⟨a.block, a.off, none⟩ := by
 obtain ⟨_, hlen, hc⟩ := World.cells?_some h
 have h0 := hc 0 hk
 obtain ⟨b, off, spot⟩ := a
 match cs, hlen with
 | c :: _, _ =>
  have hspot : spot = none := by
   have h0' : w.cell? ((Addr.add ⟨b, off, spot⟩ (0 * k)).add 0) = some c := by simpa using h0
   simpa [Addr.add] using World.cell?_spot h0'
  rw [hspot]
 | [], h => simp at h; omega
theorem cells_plain {b off n : Nat} {cs : List Value} (h : w.cells? base ⟨b, off, none⟩ n = some cs) : cs.length = n ∧ ∀ i, i < n → w.cell? ⟨b, off + i, none⟩ = cs[i]? := by
 obtain ⟨_, hlen, hc⟩ := World.cells?_some h
 exact ⟨hlen, fun i hi => by rw [← add_plain]; exact hc i hi⟩
theorem openVals {fuel : Nat} {cs : List Value} {x : DataW H × List MemPlace} (h : DataW.trod enc Tryz.prog w base spare held fuel 231 cs = some x) :
  ∃ (a : Option Addr) (cap : Nat) (vs : List GV), cs = [.slice a vs.length cap] ∧ vs.length ≤ maxLen ∧ (∀ v, v ∈ vs → v.Ok) ∧ ValsAt w.heap.size w a vs := by
 rcases open_slice Tryz.underlying231 h with ⟨rfl, _⟩ | ⟨a, len, cap, m, n, D, Pl, rfl, hb, hl, hm, hmm, _, hx⟩
 · exact ⟨none, 0, [], rfl, Nat.zero_le _, fun v hv => (by cases hv), fun i hi => absurd hi (Nat.not_lt_zero _)⟩
 ·
  rw [cellsVal] at hx
  have hle : len ≤ m := by rw [hmm]; split <;> omega
  obtain ⟨vs, hvl, hvs⟩ := list_of (α := GV) (n := len) (p := fun i v => v.Ok ∧ w.cells? base (a.add (i * 4)) 4 = some [.int .i64 v.kind, .int .i64 v.num, .string v.text, .int .i64 v.node]) (fun i hi => by
   obtain ⟨cs', h1, h2⟩ := hx i (by omega)
   obtain ⟨v, hv, e, _⟩ := openVal h2
   exact ⟨v, hv, by rw [h1, e]⟩)
  subst hvl
  refine ⟨some a, cap, vs, rfl, by omega, all_of_at fun i hi => (hvs i hi).1, fun i hi => ?_⟩
  have hp := plain_addr (by decide) (hvs 0 (by omega)).2
  refine ⟨a.block, a.off, by rw [← hp], ?_, ?_⟩
  ·
   have h1 := (hvs i hi).2
   rw [hp, add_plain] at h1
   obtain ⟨_, h2⟩ := cells_plain h1
   have h3 := h2 0 (by decide)
   exact World.block_lt_of_cell? w ⟨a.block, a.off + i * 4 + 0, none⟩ h3
  ·
   have h1 := (hvs i hi).2
   rw [hp, add_plain] at h1
   obtain ⟨_, h2⟩ := cells_plain h1
   exact ⟨h2 0 (by decide), h2 1 (by decide), h2 2 (by decide), h2 3 (by decide)⟩
theorem openNode {fuel : Nat} {cs : List Value} {x : DataW H × List MemPlace} (h : DataW.trod enc Tryz.prog w base spare held fuel 233 cs = some x) :
  ∃ (n : GN) (a : Option Addr) (cap : Nat), n.Ok ∧ cs = [.int .i64 n.tag, .slice a n.vals.length cap] ∧ ValsAt w.heap.size w a n.vals := by
 obtain ⟨xs, n, _, rfl, hl, hlen, hf⟩ := DataW.trod_struct Tryz.underlying233 h
 rw [cellsNode] at hl
 match xs, hlen, cs, hl with
 | [y0, y1], _, [c0, c1], _ =>
  have h0 := hf 0 _ rfl
  have h1 := hf 1 _ rfl
  simp [cellsInt, cellsVals] at h0 h1
  obtain ⟨k, e0, rfl, w0⟩ := DataW.trod_int Tryz.underlying3 h0
  obtain ⟨a, cap, vs, e1, hl1, hv1, ha1⟩ := openVals h1
  simp at e0 e1
  subst e0 e1
  exact ⟨⟨k, vs⟩, a, cap, ⟨i64_of_wf w0, hl1, hv1⟩, rfl, ha1⟩
theorem openNodes {fuel : Nat} {cs : List Value} {x : DataW H × List MemPlace} (h : DataW.trod enc Tryz.prog w base spare held fuel 79 cs = some x) :
  ∃ (a : Option Addr) (cap : Nat) (ns : List GN), cs = [.slice a ns.length cap] ∧ ns.length ≤ maxLen ∧ (∀ n, n ∈ ns → n.Ok) ∧ NodesAt w.heap.size w a ns := by
 rcases open_slice Tryz.underlying79 h with ⟨rfl, _⟩ | ⟨a, len, cap, m, n, D, Pl, rfl, hb, hl, hm, hmm, _, hx⟩
 · exact ⟨none, 0, [], rfl, Nat.zero_le _, fun v hv => (by cases hv), fun i hi => absurd hi (Nat.not_lt_zero _)⟩
 ·
  rw [cellsNode] at hx
  have hle : len ≤ m := by rw [hmm]; split <;> omega
  obtain ⟨ns, hvl, hvs⟩ := list_of (α := GN) (n := len) (p := fun i n => n.Ok ∧ ∃ a' cap', w.cells? base (a.add (i * 2)) 2 = some [.int .i64 n.tag, .slice a' n.vals.length cap'] ∧ ValsAt w.heap.size w a' n.vals) (fun i hi => by
   obtain ⟨cs', h1, h2⟩ := hx i (by omega)
   obtain ⟨v, a', cap', hv, e, hva⟩ := openNode h2
   exact ⟨v, hv, a', cap', by rw [h1, e], hva⟩)
  subst hvl
  refine ⟨some a, cap, ns, rfl, by omega, all_of_at fun i hi => (hvs i hi).1, fun i hi => ?_⟩
  obtain ⟨_, _, _, hp0, _⟩ := hvs 0 (by omega)
  have hp := plain_addr (by decide) hp0
  obtain ⟨_, a', cap', h1, hva⟩ := hvs i hi
  rw [hp, add_plain] at h1
  obtain ⟨_, h2⟩ := cells_plain h1
  exact ⟨a.block, a.off, a', cap', by rw [← hp], World.block_lt_of_cell? w ⟨a.block, a.off + i * 2 + 0, none⟩ (h2 0 (by decide)), h2 0 (by decide), h2 1 (by decide), hva⟩
end
end Go.Proofs.YthjddpkegooobacGreatDoor
