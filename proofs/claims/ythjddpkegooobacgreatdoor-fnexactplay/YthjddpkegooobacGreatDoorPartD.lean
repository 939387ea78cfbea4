import Derived.Deep.OwnRows
import Derived.Deep.RegionHeld3
import Derived.Deep.QuietTactic
import Derived.BigQuiet
import Derived.WalkLawsBesides
import Derived.Test.YthjddpkegooobacGreatDoorPartC
namespace Go.Proofs.YthjddpkegooobacGreatDoor
open Go.RowKit
set_option maxRecDepth 100000
set_option maxHeartbeats 8000000
theorem writeOk_any (x : DW) (a : Option Addr) (cap : Nat) (w : World) (hi : I64 x.block) (_hl : x.bytes.length ≤ maxLen) :
  Calls Tryz.prog 104 #[x.val a cap] w fun e w' => e = .returned (.bool (wrOk x)) ∧ Below w.heap.size w w' := by
 obtain ⟨p, hp⟩ : ∃ p, Hid (p = (decide (0 ≤ x.block) && decide (x.block < 130))) := ⟨_, rfl⟩
 have hw : Hid (wrOk x = (p && decide (x.bytes.length = 64))) := by show _ = _; rw [hp.out]; rfl
 cases p with
 | false =>
  go_enter Tryz.func104, Tryz.ntmps104
  go_wp2_with (go_at_call 126; refine (hasBlock_any x.block _ hi).mono ?_; rintro e w' ⟨rfl, hb'⟩; rw [← hp.out])
  go_ret
  exact ⟨by rw [hw.out]; rfl, gca (gal (gre _) _) hb'⟩
 | true =>
  by_cases h : x.bytes.length = 64
  ·
   have h' : ((x.bytes.length : Int) == 64) = true := by simp; omega
   have hh : Hid _ := h
   clear h
   go_enter Tryz.func104, Tryz.ntmps104
   go_wp2_with (go_at_call 126; refine (hasBlock_any x.block _ hi).mono ?_; rintro e w' ⟨rfl, hb'⟩; rw [← hp.out]; obtain ⟨hc, hf⟩ := bcell hb')
   go_ret
   exact ⟨by rw [hw.out]; simp [hh.out], gca (gal (gre _) _) hb'⟩
  ·
   have h' : ((x.bytes.length : Int) == 64) = false := by simp; omega
   have hh : Hid _ := h
   clear h
   go_enter Tryz.func104, Tryz.ntmps104
   go_wp2_with (go_at_call 126; refine (hasBlock_any x.block _ hi).mono ?_; rintro e w' ⟨rfl, hb'⟩; rw [← hp.out]; obtain ⟨hc, hf⟩ := bcell hb')
   go_ret
   exact ⟨by rw [hw.out, decide_eq_false hh.out]; rfl, gca (gal (gre _) _) hb'⟩
theorem DD.ok_no1 {d : DD} (h : d.blocks.length ≠ 130) : d.ok = false := by simp [DD.ok, h]
theorem DD.ok_no2 {d : DD} (h : ¬ d.waiting.length ≤ 200) : d.ok = false := by simp [DD.ok, h]
theorem DD.ok_no3 {d : DD} (h : d.blocks.all blOk = false) : d.ok = false := by simp [DD.ok, h]
theorem DD.ok_no4 {d : DD} (h : d.waiting.all wrOk = false) : d.ok = false := by simp [DD.ok, h]
theorem DD.ok_yes {d : DD} (h1 : d.blocks.length = 130) (h2 : d.waiting.length ≤ 200) (h3 : d.blocks.all blOk = true) (h4 : d.waiting.all wrOk = true) : d.ok = true := by simp [DD.ok, h1, h2, h3, h4]
theorem implDiskOk_any (d : DD) (l : DL) (w : World) (hd : d.Ok) (ha : DAt w l d) :
  Calls Tryz.prog 61 #[d.val l] w fun e w' => e = .returned (.bool d.ok) ∧ Below w.heap.size w w' := by
 have hbl := hd.bl
 have hwl := hd.wl
 unfold maxLen at hbl hwl
 by_cases h1 : d.blocks.length = 130
 ·
  have t1 : ((d.blocks.length : Int) != 130) = false := by simp; omega
  have h1' : Hid _ := h1
  clear h1
  by_cases h2 : d.waiting.length ≤ 200
  ·
   have t2 : ¬ ((d.waiting.length : Int) > 200) := by omega
   have h2' : Hid _ := h2
   clear h2
   go_enter Tryz.func61, Tryz.ntmps61
   go_wp2
   have hA := gal (gre w) (.cells #[.slice l.ba d.blocks.length l.bc, .slice l.wa d.waiting.length l.wc] 37)
   have hX := DBox.new w d l 37
   generalize w.alloc (.cells #[.slice l.ba d.blocks.length l.bc, .slice l.wa d.waiting.length l.wc] 37) = wA at hA hX ⊢
   go_loopw [20] (fun i wr => ∃ k : Nat, k ≤ d.blocks.length ∧ i = .int .i64 k ∧ (d.blocks.take k).all blOk = true ∧ Below wA.heap.size wA wr) (fun i _ => d.blocks.length - (intOf i).toNat)
   case atStart => exact ⟨0, Nat.zero_le _, rfl, rfl, gre _⟩
   case round =>
    obtain ⟨k, hk, rfl, hall, hb⟩ := hrel
    by_cases hlt : k < d.blocks.length
    ·
     obtain ⟨n, b, off, av, cv, hvk, hvm, hba, c0, hva⟩ := (ha.b.grow (gca hA hb)).get hlt
     rw [hba]
     have hnl := (hd.bb n hvm).len
     unfold maxLen at hnl
     have i0 : (0 : Int) ≤ (k : Int) := by omega
     have i1 : (k : Int) < (d.blocks.length : Int) := by omega
     have hall' : Hid _ := hall
     clear hall
     by_cases h64 : n.length = 64
     ·
      have t3 : ((n.length : Int) != 64) = false := by simp; omega
      have hst : Hid ((d.blocks.take (k + 1)).all blOk = true) := by show _ = _; rw [dall_take_succ _ _ _ hlt, hall'.out, ← hvk.out]; simp [blOk, h64]
      clear h64
      go_wp2
      go_roundw
      case rel => exact ⟨k + 1, by omega, by go_num, hst.out, hb⟩
      case measure => simp [intOf]; omega
     ·
      have t3 : ((n.length : Int) != 64) = true := by simp; omega
      have hst : Hid (d.blocks.all blOk = false) := all_take_false _ _ k hlt (by rw [← hvk.out]; simp [blOk, h64])
      clear h64
      go_wp2
      go_ret
      exact ⟨by rw [DD.ok_no3 hst.out]; rfl, gca hA hb⟩
    ·
     have e : k = d.blocks.length := by omega
     subst e
     rw [List.take_length] at hall
     have hall' : Hid _ := hall
     have hX2 := hX.grow hb
     have x0 := hX2.c0
     have x1 := hX2.c1
     clear hall
     have hB := gca hA hb
     clear hb hX2
     rename World => wB
     go_wp2
     go_loopw [31] (fun i wr2 => ∃ k : Nat, k ≤ d.waiting.length ∧ i = .int .i64 k ∧ (d.waiting.take k).all wrOk = true ∧ Below wB.heap.size wB wr2) (fun i _ => d.waiting.length - (intOf i).toNat)
     case atStart => exact ⟨0, Nat.zero_le _, rfl, rfl, gre _⟩
     case round =>
      obtain ⟨k, hk, rfl, hall, hb⟩ := hrel
      by_cases hlt : k < d.waiting.length
      ·
       obtain ⟨n, b, off, av, cv, hvk, hvm, hba, c0, c1, hva⟩ := (ha.w.grow (gca hB hb)).get hlt
       rw [hba]
       have i0 : (0 : Int) ≤ (k : Int) := by omega
       have i1 : (k : Int) < (d.waiting.length : Int) := by omega
       have hni := hd.wi n hvm
       have hnl := (hd.wb n hvm).len
       have hall2 : Hid _ := hall
       clear hall
       cases hok : wrOk n with
       | true =>
        have hst : Hid ((d.waiting.take (k + 1)).all wrOk = true) := by show _ = _; rw [dall_take_succ _ _ _ hlt, hall2.out, ← hvk.out, hok]; rfl
        have hok' : Hid _ := hok
        clear hok
        go_wp2_with (go_at_call 104; refine (writeOk_any n av cv _ hni hnl).mono ?_; rintro e w2 ⟨rfl, hb2⟩; rw [hok'.out])
        go_roundw
        case rel => exact ⟨k + 1, by omega, by go_num, hst.out, by first | exact gca hb hb2 | exact gca (gal hb _) hb2 | exact gca (gse (gse (gal hb _) (by simp) _) (by simp) _) hb2⟩
        case measure => simp [intOf]; omega
       | false =>
        have hst : Hid (d.waiting.all wrOk = false) := all_take_false _ _ k hlt (by rw [← hvk.out]; exact hok)
        have hok' : Hid _ := hok
        clear hok
        go_wp2_with (go_at_call 104; refine (writeOk_any n av cv _ hni hnl).mono ?_; rintro e w2 ⟨rfl, hb2⟩; rw [hok'.out])
        go_ret
        exact ⟨by rw [DD.ok_no4 hst.out]; rfl, by first | exact gca hB (gca hb hb2) | exact gca hB (gca (gal hb _) hb2) | exact gca hB (gca (gse (gse (gal hb _) (by simp) _) (by simp) _) hb2)⟩
      ·
       have e : k = d.waiting.length := by omega
       subst e
       rw [List.take_length] at hall
       have hall2 : Hid _ := hall
       clear hall
       go_wp2
       go_ret
       exact ⟨by rw [DD.ok_yes h1'.out h2'.out hall'.out hall2.out]; rfl, gca hB hb⟩
  ·
   have t2 : ((d.waiting.length : Int) > 200) := by omega
   have hst : Hid _ := DD.ok_no2 h2
   go_enter Tryz.func61, Tryz.ntmps61
   go_wp2
   go_ret
   exact ⟨by rw [hst.out]; rfl, gal (gre _) _⟩
 ·
  have t1 : ((d.blocks.length : Int) != 130) = true := by simp; omega
  have hst : Hid _ := DD.ok_no1 h1
  clear h1
  go_enter Tryz.func61, Tryz.ntmps61
  go_wp2
  go_ret
  exact ⟨by rw [hst.out]; rfl, gal (gre _) _⟩
theorem specDiskOk_any (d : DD) (l : DL) (w : World) (hd : d.Ok) (ha : DAt w l d) :
  Calls Tryz.prog 25 #[d.val l] w fun e w' => e = .returned (.bool d.ok) ∧ Below w.heap.size w w' := by
 have hbl := hd.bl
 have hwl := hd.wl
 unfold maxLen at hbl hwl
 by_cases h1 : d.blocks.length = 130
 ·
  have t1 : ((d.blocks.length : Int) != 130) = false := by simp; omega
  have h1' : Hid _ := h1
  clear h1
  by_cases h2 : d.waiting.length ≤ 200
  ·
   have t2 : ¬ ((d.waiting.length : Int) > 200) := by omega
   have h2' : Hid _ := h2
   clear h2
   go_enter Tryz.func25, Tryz.ntmps25
   go_wp2
   have hA := gal (gre w) (.cells #[.slice l.ba d.blocks.length l.bc, .slice l.wa d.waiting.length l.wc] 37)
   have hX := DBox.new w d l 37
   generalize w.alloc (.cells #[.slice l.ba d.blocks.length l.bc, .slice l.wa d.waiting.length l.wc] 37) = wA at hA hX ⊢
   go_loopw [20] (fun i wr => ∃ k : Nat, k ≤ d.blocks.length ∧ i = .int .i64 k ∧ (d.blocks.take k).all blOk = true ∧ Below wA.heap.size wA wr) (fun i _ => d.blocks.length - (intOf i).toNat)
   case atStart => exact ⟨0, Nat.zero_le _, rfl, rfl, gre _⟩
   case round =>
    obtain ⟨k, hk, rfl, hall, hb⟩ := hrel
    by_cases hlt : k < d.blocks.length
    ·
     obtain ⟨n, b, off, av, cv, hvk, hvm, hba, c0, hva⟩ := (ha.b.grow (gca hA hb)).get hlt
     rw [hba]
     have hnl := (hd.bb n hvm).len
     unfold maxLen at hnl
     have i0 : (0 : Int) ≤ (k : Int) := by omega
     have i1 : (k : Int) < (d.blocks.length : Int) := by omega
     have hall' : Hid _ := hall
     clear hall
     by_cases h64 : n.length = 64
     ·
      have t3 : ((n.length : Int) != 64) = false := by simp; omega
      have hst : Hid ((d.blocks.take (k + 1)).all blOk = true) := by show _ = _; rw [dall_take_succ _ _ _ hlt, hall'.out, ← hvk.out]; simp [blOk, h64]
      clear h64
      go_wp2
      go_roundw
      case rel => exact ⟨k + 1, by omega, by go_num, hst.out, hb⟩
      case measure => simp [intOf]; omega
     ·
      have t3 : ((n.length : Int) != 64) = true := by simp; omega
      have hst : Hid (d.blocks.all blOk = false) := all_take_false _ _ k hlt (by rw [← hvk.out]; simp [blOk, h64])
      clear h64
      go_wp2
      go_ret
      exact ⟨by rw [DD.ok_no3 hst.out]; rfl, gca hA hb⟩
    ·
     have e : k = d.blocks.length := by omega
     subst e
     rw [List.take_length] at hall
     have hall' : Hid _ := hall
     have hX2 := hX.grow hb
     have x0 := hX2.c0
     have x1 := hX2.c1
     clear hall
     have hB := gca hA hb
     clear hb hX2
     rename World => wB
     go_wp2
     go_loopw [31] (fun i wr2 => ∃ k : Nat, k ≤ d.waiting.length ∧ i = .int .i64 k ∧ (d.waiting.take k).all wrOk = true ∧ Below wB.heap.size wB wr2) (fun i _ => d.waiting.length - (intOf i).toNat)
     case atStart => exact ⟨0, Nat.zero_le _, rfl, rfl, gre _⟩
     case round =>
      obtain ⟨k, hk, rfl, hall, hb⟩ := hrel
      by_cases hlt : k < d.waiting.length
      ·
       obtain ⟨n, b, off, av, cv, hvk, hvm, hba, c0, c1, hva⟩ := (ha.w.grow (gca hB hb)).get hlt
       rw [hba]
       have i0 : (0 : Int) ≤ (k : Int) := by omega
       have i1 : (k : Int) < (d.waiting.length : Int) := by omega
       have hni := hd.wi n hvm
       have hnl := (hd.wb n hvm).len
       have hall2 : Hid _ := hall
       clear hall
       by_cases g0 : n.block < 0
       ·
        have hst : Hid (d.waiting.all wrOk = false) := all_take_false _ _ k hlt (by rw [← hvk.out]; simp [wrOk]; omega)
        go_wp2
        go_ret
        exact ⟨by rw [DD.ok_no4 hst.out]; rfl, by first | exact gca hB hb | exact gca hB (gal hb _) | exact gca hB (gse (gse (gal hb _) (by simp) _) (by simp) _)⟩
       ·
        by_cases g1 : n.block ≥ 130
        ·
         have hst : Hid (d.waiting.all wrOk = false) := all_take_false _ _ k hlt (by rw [← hvk.out]; simp [wrOk]; omega)
         go_wp2
         go_ret
         exact ⟨by rw [DD.ok_no4 hst.out]; rfl, by first | exact gca hB hb | exact gca hB (gal hb _) | exact gca hB (gse (gse (gal hb _) (by simp) _) (by simp) _)⟩
        ·
         unfold maxLen at hnl
         by_cases g2 : n.bytes.length = 64
         ·
          have t3 : ((n.bytes.length : Int) != 64) = false := by simp; omega
          have hst : Hid ((d.waiting.take (k + 1)).all wrOk = true) := by show _ = _; rw [dall_take_succ _ _ _ hlt, hall2.out, ← hvk.out]; simp [wrOk, g2]; omega
          clear g2
          go_wp2
          go_roundw
          case rel => exact ⟨k + 1, by omega, by go_num, hst.out, by first | exact hb | exact gal hb _ | exact gse (gse (gal hb _) (by simp) _) (by simp) _⟩
          case measure => simp [intOf]; omega
         ·
          have t3 : ((n.bytes.length : Int) != 64) = true := by simp; omega
          have hst : Hid (d.waiting.all wrOk = false) := all_take_false _ _ k hlt (by rw [← hvk.out]; simp [wrOk, g2])
          clear g2
          go_wp2
          go_ret
          exact ⟨by rw [DD.ok_no4 hst.out]; rfl, by first | exact gca hB hb | exact gca hB (gal hb _) | exact gca hB (gse (gse (gal hb _) (by simp) _) (by simp) _)⟩
      ·
       have e : k = d.waiting.length := by omega
       subst e
       rw [List.take_length] at hall
       have hall2 : Hid _ := hall
       clear hall
       go_wp2
       go_ret
       exact ⟨by rw [DD.ok_yes h1'.out h2'.out hall'.out hall2.out]; rfl, gca hB hb⟩
  ·
   have t2 : ((d.waiting.length : Int) > 200) := by omega
   have hst : Hid _ := DD.ok_no2 h2
   go_enter Tryz.func25, Tryz.ntmps25
   go_wp2
   go_ret
   exact ⟨by rw [hst.out]; rfl, gal (gre _) _⟩
 ·
  have t1 : ((d.blocks.length : Int) != 130) = true := by simp; omega
  have hst : Hid _ := DD.ok_no1 h1
  clear h1
  go_enter Tryz.func25, Tryz.ntmps25
  go_wp2
  go_ret
  exact ⟨by rw [hst.out]; rfl, gal (gre _) _⟩
theorem info_bool : (Tryz.prog.info? 4).map (fun i => (i.zero, i.size, i.bytes)) = some (some (.bool false), 1, 1) := by kernel_rfl
theorem l3all_any (n : Nat) (w : World) (hn : n ≤ 1048576) :
  Calls Tryz.prog 149 #[.int .i64 n] w fun e w' => ∃ b, e = .returned (.slice (some ⟨b, 0, none⟩) n n) ∧ BoolsAt w' (some ⟨b, 0, none⟩) (List.replicate n true) ∧ Below w.heap.size w w' := by
 obtain ⟨i0, hi, hz0, hz1, hz2⟩ := info_parts info_bool
 have hmk : ∀ u : World, (Instr.makeSlice 82 (.int .i64 (n : Int)) (.int .i64 (n : Int))).run Tryz.prog u =
   .ok (.slice (some ⟨u.heap.size, 0, none⟩) n n) (u.alloc (.cells (madeCells #[.bool false] n) 4)) := fun u => by
  have h := run_make (P := Tryz.prog) u 82 4 i0 _ Tryz.underlying82 hi hz0 .i64 .i64 (n : Int) (n : Int) (by omega) (Int.le_refl _) (by rw [hz2]; omega) (by omega)
  simpa [hz1, Value.cells] using h
 go_enter Tryz.func149, Tryz.ntmps149
 go_wp2
 go_loopw [9] (fun i wr => ∃ (k : Nat) (f : Nat → Value), k ≤ n ∧ i = .int .i64 k ∧ wr.rowIs w.heap.size 4 n f ∧ (∀ j, j < k → f j = .bool true) ∧ Below w.heap.size w wr) (fun i _ => n - (intOf i).toNat)
 case atStart => exact ⟨0, _, Nat.zero_le _, rfl, rowIs_made_any _ _ _ _, fun i hi => absurd hi (Nat.not_lt_zero _), (Below.refl _ _).alloc (Nat.le_refl _) _⟩
 case round =>
  obtain ⟨k, f, hk, rfl, hrow, hin, hb⟩ := hrel
  by_cases hlt : k < n
  ·
   have d0 := hrow.cell hlt
   have f0 := hrow.frozen
   have i0' : (0 : Int) ≤ (k : Int) := by omega
   have i1 : (k : Int) < (n : Int) := by omega
   go_wp2
   go_roundw
   case rel =>
    refine ⟨k + 1, _, by omega, by go_num, hrow.set _ _, fun j hj => ?_, hb.setCell (Nat.le_refl _) _⟩
    show (if j = k then _ else _) = _
    split
    · rfl
    · exact hin j (by omega)
   case measure => simp [intOf]; omega
  ·
   obtain rfl : k = n := by omega
   go_wp2
   go_ret
   refine ⟨_, rfl, fun i hi => ⟨_, 0, rfl, ?_⟩, hb⟩
   have hi' : i < k := by simpa using hi
   rw [Nat.zero_add, getElem!_pos _ i hi, List.getElem_replicate, ← hin i hi']
   exact hrow.cell hi'
theorem keepOf_all {n i : Nat} (h : i < n) : keepOf (List.replicate n true) i = keepAll i := by
 simp [keepOf, keepAll, h]
theorem settle_yes {d : DD} (h : d.ok = true) (keep : Nat → Bool) : d.settle keep = ⟨settleN keep d.blocks d.waiting d.waiting.length, []⟩ := if_pos h
theorem settle_no {d : DD} (h : d.ok = false) (keep : Nat → Bool) : d.settle keep = zeroD := if_neg (by rw [h]; exact Bool.false_ne_true)
def KRow (w : World) (a : Nat) (ks : List Bool) : Prop := ∃ f, w.rowIs a 4 ks.length f ∧ ∀ i, i < ks.length → f i = .bool ks[i]!
theorem KRow.at_ {w : World} {a : Nat} {ks : List Bool} (h : KRow w a ks) : BoolsAt w (some ⟨a, 0, none⟩) ks := fun i hi => by
 obtain ⟨f, hr, hf⟩ := h
 exact ⟨a, 0, rfl, by rw [Nat.zero_add, ← hf i hi]; exact hr.cell hi⟩
theorem KRow.kept {p : Nat → Prop} {w w' : World} {a : Nat} {ks : List Bool} (h : KRow w a ks) (k : Kept p w w') (hn : ¬ p a) : KRow w' a ks := by
 obtain ⟨f, hr, hf⟩ := h
 exact ⟨f, k.rowIs hr hn, hf⟩
theorem KRow.grow {w w' : World} {a : Nat} {ks : List Bool} (h : KRow w a ks) (hb : Below w.heap.size w w') : KRow w' a ks := h.kept (Kept.of_below hb (fun _ => False)) (fun e => e)
theorem KRow.lt {w : World} {a : Nat} {ks : List Bool} (h : KRow w a ks) : a < w.heap.size := by obtain ⟨f, hr, _⟩ := h; exact hr.lt
theorem toBoolS_any (a : Option Addr) (ks : List Bool) (cap : Nat) (w : World) (hl : ks.length ≤ 1048576) (ha : BoolsAt w a ks) :
  Calls Tryz.prog 78 #[.slice a ks.length cap] w fun e w' => ∃ b, e = .returned (.slice (some ⟨b, 0, none⟩) ks.length ks.length) ∧ w.heap.size ≤ b ∧ KRow w' b ks ∧ Below w.heap.size w w' := by
 obtain ⟨i0, hi, hz0, hz1, hz2⟩ := info_parts info_bool
 have hmk : ∀ u : World, (Instr.makeSlice 82 (.int .i64 (ks.length : Int)) (.int .i64 (ks.length : Int))).run Tryz.prog u =
   .ok (.slice (some ⟨u.heap.size, 0, none⟩) ks.length ks.length) (u.alloc (.cells (madeCells #[.bool false] ks.length) 4)) := fun u => by
  have h := run_make (P := Tryz.prog) u 82 4 i0 _ Tryz.underlying82 hi hz0 .i64 .i64 (ks.length : Int) (ks.length : Int) (by omega) (Int.le_refl _) (by rw [hz2]; omega) (by omega)
  simpa [hz1, Value.cells] using h
 go_enter Tryz.func78, Tryz.ntmps78
 go_wp2
 go_loopw [4] (fun i wr => ∃ (k : Nat) (f : Nat → Value), k ≤ ks.length ∧ i = .int .i64 k ∧ wr.rowIs w.heap.size 4 ks.length f ∧ (∀ j, j < k → f j = .bool ks[j]!) ∧ Below w.heap.size w wr) (fun i _ => ks.length - (intOf i).toNat)
 case atStart => exact ⟨0, _, Nat.zero_le _, rfl, rowIs_made_any _ _ _ _, fun i hi => absurd hi (Nat.not_lt_zero _), (Below.refl _ _).alloc (Nat.le_refl _) _⟩
 case round =>
  obtain ⟨k, f, hk, rfl, hrow, hin, hb⟩ := hrel
  by_cases hlt : k < ks.length
  ·
   obtain ⟨b, off, rfl, hc⟩ := (ha.grow hb) k hlt
   obtain ⟨x, hx⟩ := hid_ex ks[k]!
   rw [← hx.out] at hc
   have d0 := hrow.cell hlt
   have f0 := hrow.frozen
   go_wp2
   go_roundw
   case rel =>
    refine ⟨k + 1, _, by omega, by go_num, hrow.set _ _, fun j hj => ?_, hb.setCell (Nat.le_refl _) _⟩
    show (if j = k then _ else _) = _
    split
    · rename_i e; rw [e, hx.out]
    · exact hin j (by omega)
   case measure => simp [intOf]; omega
  ·
   go_wp2
   go_ret
   have e : k = ks.length := by omega
   subst e
   exact ⟨_, rfl, Nat.le_refl _, ⟨f, hrow, hin⟩, hb⟩
theorem eqBoolS_same (a a' : Option Addr) (ks : List Bool) (cap cap' : Nat) (w : World) (hl : ks.length ≤ maxLen) (ha : BoolsAt w a ks) (ha' : BoolsAt w a' ks) :
  Calls Tryz.prog 84 #[.slice a ks.length cap, .slice a' ks.length cap'] w fun e w' => e = .returned (.bool true) ∧ Below w.heap.size w w' := by
 unfold maxLen at hl
 have hne : ((ks.length : Int) != (ks.length : Int)) = false := by simp
 go_enter Tryz.func84, Tryz.ntmps84
 go_wp2
 go_loopw [5] (fun i wr => ∃ (k : Nat), k ≤ ks.length ∧ i = .int .i64 k ∧ Below w.heap.size w wr) (fun i _ => ks.length - (intOf i).toNat)
 case atStart => exact ⟨0, Nat.zero_le _, rfl, gre _⟩
 case round =>
  obtain ⟨k, hk, rfl, hb⟩ := hrel
  by_cases hlt : k < ks.length
  ·
   obtain ⟨b, off, rfl, hc⟩ := (ha.grow hb) k hlt
   obtain ⟨b', off', rfl, hc'⟩ := (ha'.grow hb) k hlt
   obtain ⟨x, hx⟩ := hid_ex ks[k]!
   rw [← hx.out] at hc hc'
   cases x
   all_goals
    go_wp2_with (go_quiet (fail))
    go_roundw
    case rel => exact ⟨k + 1, by omega, by go_num, hb.trans ⟨rfl, rfl, rfl, Nat.le_refl _, fun _ _ => rfl⟩⟩
    case measure => simp [intOf]; omega
  ·
   go_wp2
   go_ret
   exact ⟨rfl, hb⟩
theorem markBoolS_any (G n cap k : Nat) (ks : List Bool) (w : World) (hn : Hid (ks.length = n)) (hl : n ≤ 1048576) (hk : k ≤ 1099511627776) (hM : KRow w G ks) :
  Calls Tryz.prog 48 #[.slice (some ⟨G, 0, none⟩) n cap, .int .i64 k] w fun e w' => e = .returned (.int .i64 ((k + n : Nat) : Int)) ∧ Kept (fun b => b = G) w w' := by
 obtain ⟨f0, hr0, _⟩ := hM
 rw [hn.out] at hr0
 go_enter Tryz.func48, Tryz.ntmps48
 go_wp2
 go_loopw [1, 5] (fun c i wr => ∃ (m : Nat) (f : Nat → Value), m ≤ n ∧ c = .int .i64 ((k + m : Nat) : Int) ∧ i = .int .i64 m ∧ wr.rowIs G 4 n f ∧ Kept (fun b => b = G) w wr) (fun _ i _ => n - (intOf i).toNat)
 case atStart => exact ⟨0, f0, Nat.zero_le _, rfl, rfl, hr0, Kept.refl _ _⟩
 case round =>
  obtain ⟨m, f, hm, rfl, rfl, hrow, hK⟩ := hrel
  obtain ⟨q, hq⟩ := hid_ex (k + m)
  rw [← hq.out]
  have hq1 : q ≤ 2199023255552 := by rw [hq.out]; omega
  by_cases hlt : m < n
  ·
   have d0 := hrow.cell (i := m) (by omega)
   have fz := hrow.frozen
   go_wp2
   go_roundw
   case rel =>
    refine ⟨m + 1, _, by omega, ?_, by go_num, hrow.set _ _, hK.set (fun _ => rfl) _⟩
    have : q + 1 = k + (m + 1) := by rw [hq.out]; omega
    rw [← this]; go_num
   case measure => simp [intOf]; omega
  ·
   obtain rfl : m = n := by omega
   go_wp2
   go_ret
   exact ⟨by rw [← hq.out]; rfl, hK⟩
theorem info_implVal : (Tryz.prog.info? 28).map (fun i => (i.zero, i.size, i.bytes)) = some (some (.agg #[.int .i64 0, .int .i64 0, .string .empty, .int .i64 0]), 4, 40) := by kernel_rfl
theorem toVal_any (v : GV) (w : World) :
  Calls Tryz.prog 119 #[v.val] w fun e w' => e = .returned v.val ∧ Below w.heap.size w w' := by
 go_enter Tryz.func119, Tryz.ntmps119
 go_wp2
 exact bodyPost_ret (v := v.val) (by simp [results, Tryz.results119, go_sem]) rfl ⟨rfl, (((Below.refl _ _).alloc (Nat.le_refl _) _).alloc (by simp) _).alloc (by simp; omega) _⟩
def ValsIn (f : Nat → Value) (vs : List GV) (k : Nat) : Prop :=
 ∀ i, i < k → f (i * 4) = .int .i64 vs[i]!.kind ∧ f (i * 4 + 1) = .int .i64 vs[i]!.num ∧ f (i * 4 + 2) = .string vs[i]!.text ∧ f (i * 4 + 3) = .int .i64 vs[i]!.node
theorem ValsIn.at_ {w : World} {b t n : Nat} {f : Nat → Value} {vs : List GV} (h : ValsIn f vs vs.length) (hr : w.rowIs b t n f) (hn : n = vs.length * 4) {B : Nat} (hB : b < B) : ValsAt B w (some ⟨b, 0, none⟩) vs := fun i hi => by
 obtain ⟨h0, h1, h2, h3⟩ := h i hi
 refine ⟨b, 0, rfl, hB, ?_, ?_, ?_, ?_⟩
 · rw [← h0, Nat.zero_add]; exact hr.cell (by omega)
 · rw [← h1, Nat.zero_add]; exact hr.cell (by omega)
 · rw [← h2, Nat.zero_add]; exact hr.cell (by omega)
 · rw [← h3, Nat.zero_add]; exact hr.cell (by omega)
theorem ValsIn.step {f : Nat → Value} {vs : List GV} {k : Nat} {v : GV} (h : ValsIn f vs k) (hv : Hid (v = vs[k]!)) :
  ValsIn (fun j => if j = k * 4 + 3 then .int .i64 v.node else if j = k * 4 + 2 then .string v.text else if j = k * 4 + 1 then .int .i64 v.num else if j = k * 4 then .int .i64 v.kind else f j) vs (k + 1) := fun i hi => by
 have e := hv.out
 by_cases hk : i = k
 · subst hk; subst e; simp
 ·
  obtain ⟨h0, h1, h2, h3⟩ := h i (by omega)
  refine ⟨?_, ?_, ?_, ?_⟩ <;> dsimp only
  · rw [if_neg (by omega), if_neg (by omega), if_neg (by omega), if_neg (by omega)]; exact h0
  · rw [if_neg (by omega), if_neg (by omega), if_neg (by omega), if_neg (by omega)]; exact h1
  · rw [if_neg (by omega), if_neg (by omega), if_neg (by omega), if_neg (by omega)]; exact h2
  · rw [if_neg (by omega), if_neg (by omega), if_neg (by omega), if_neg (by omega)]; exact h3
def OwnVals (w : World) (b : Nat) (vs : List GV) : Prop := ∃ f, w.rowIs b 28 (vs.length * 4) f ∧ ValsIn f vs vs.length
theorem OwnVals.lt {w : World} {b : Nat} {vs : List GV} (h : OwnVals w b vs) : b < w.heap.size := by obtain ⟨f, hr, _⟩ := h; exact hr.lt
theorem OwnVals.at_ {w : World} {b : Nat} {vs : List GV} (h : OwnVals w b vs) {B : Nat} (hB : b < B) : ValsAt B w (some ⟨b, 0, none⟩) vs := by
 obtain ⟨f, hr, hi⟩ := h
 exact hi.at_ hr rfl hB
theorem OwnVals.of_block {w w' : World} {b : Nat} {vs : List GV} (h : OwnVals w b vs) (e : w'.heap[b]? = w.heap[b]?) : OwnVals w' b vs := by
 obtain ⟨f, hr, hi⟩ := h
 exact ⟨f, hr.of_block e, hi⟩
theorem OwnVals.set {w : World} {b : Nat} {vs : List GV} (h : OwnVals w b vs) {p : Addr} (hp : b ≠ p.block) (u : Value) : OwnVals (w.setCell p u) b vs := h.of_block (Deep.blk_setCell_other _ _ _ _ hp)
theorem toValS_any (a : Option Addr) (cap : Nat) (vs : List GV) (w : World) (hl : vs.length ≤ 1048576) (ha : ValsAt w.heap.size w a vs) :
  Calls Tryz.prog 171 #[.slice a vs.length cap] w fun e w' => ∃ b, e = .returned (.slice (some ⟨b, 0, none⟩) vs.length vs.length) ∧ w.heap.size ≤ b ∧ OwnVals w' b vs ∧ Below w.heap.size w w' := by
 obtain ⟨i0, hi, hz0, hz1, hz2⟩ := info_parts info_implVal
 have hmk : ∀ u : World, (Instr.makeSlice 109 (.int .i64 (vs.length : Int)) (.int .i64 (vs.length : Int))).run Tryz.prog u =
   .ok (.slice (some ⟨u.heap.size, 0, none⟩) vs.length vs.length) (u.alloc (.cells (madeCells #[.int .i64 0, .int .i64 0, .string .empty, .int .i64 0] (vs.length * 4)) 28)) := fun u => by
  have h := run_make (P := Tryz.prog) u 109 28 i0 _ Tryz.underlying109 hi hz0 .i64 .i64 (vs.length : Int) (vs.length : Int) (by omega) (Int.le_refl _) (by rw [hz2]; omega) (by omega)
  simpa [hz1, Value.cells] using h
 go_enter Tryz.func171, Tryz.ntmps171
 go_wp2
 go_loopw [4] (fun i wr => ∃ (k : Nat) (f : Nat → Value), k ≤ vs.length ∧ i = .int .i64 k ∧ wr.rowIs w.heap.size 28 (vs.length * 4) f ∧ ValsIn f vs k ∧ Below w.heap.size w wr) (fun i _ => vs.length - (intOf i).toNat)
 case atStart => exact ⟨0, _, Nat.zero_le _, rfl, rowIs_made_any _ _ _ _, fun i hi => absurd hi (Nat.not_lt_zero _), (Below.refl _ _).alloc (Nat.le_refl _) _⟩
 case round =>
  obtain ⟨k, f, hk, rfl, hrow, hin, hb⟩ := hrel
  by_cases hlt : k < vs.length
  ·
   obtain ⟨v, b, off, hvk, hvm, rfl, hbs, hva⟩ := ha.get hlt
   have hva := hva.below hb hbs
   have c0 := hva.kind
   have c1 := hva.num
   have c2 := hva.text
   have c3 := hva.node
   go_wp2_with (go_at_call 119; refine (toVal_any v _).mono ?_; rintro e w' ⟨rfl, hb'⟩; have hrow' := hrow.of_block (hb'.block _ hrow.lt); have d0 := hrow'.cell (i := k * 4) (by omega); have d1 := hrow'.cell (i := k * 4 + 1) (by omega); have d2 := hrow'.cell (i := k * 4 + 2) (by omega); have d3 := hrow'.cell (i := k * 4 + 3) (by omega); have f0 := hrow'.frozen)
   go_roundw
   case rel => exact ⟨k + 1, _, by omega, by go_num, (((hrow'.set _ _).set _ _).set _ _).set _ _, hin.step hvk, ((((hb.trans (hb'.mono hb.size)).setCell (Nat.le_refl _) _).setCell (Nat.le_refl _) _).setCell (Nat.le_refl _) _).setCell (Nat.le_refl _) _⟩
   case measure => simp [intOf]; omega
  ·
   go_wp2
   go_ret
   have e : k = vs.length := by omega
   subst e
   exact ⟨_, rfl, Nat.le_refl _, ⟨_, hrow, hin⟩, hb⟩
abbrev nodeVal (n : GN) (a : Option Addr) (cap : Nat) : Value := .agg #[.int .i64 n.tag, .slice a n.vals.length cap]
theorem toNode_any (a : Option Addr) (cap : Nat) (n : GN) (w : World) (hl : n.vals.length ≤ 1048576) (ha : ValsAt w.heap.size w a n.vals) :
  Calls Tryz.prog 150 #[nodeVal n a cap] w fun e w' => ∃ b, e = .returned (nodeVal n (some ⟨b, 0, none⟩) n.vals.length) ∧ w.heap.size ≤ b ∧ OwnVals w' b n.vals ∧ Below w.heap.size w w' := by
 go_enter Tryz.func150, Tryz.ntmps150
 go_wp2_with (go_at_call 171; refine (toValS_any a cap n.vals _ hl (ha.grow (gal (gal (gal (gre _) _) _) _))).mono ?_; rintro e w' ⟨b, rfl, hbb, hown, hb'⟩; obtain ⟨hc, hf⟩ := bcell hb')
 refine bodyPost_ret (v := nodeVal n (some ⟨b, 0, none⟩) n.vals.length) (by simp [results, Tryz.results150, go_sem, hc]) rfl ⟨b, rfl, ?_, ?_, ?_⟩
 · simp at hbb; omega
 ·
  simp at hbb
  exact ((hown.set (by simp; omega) _).set (by simp; omega) _).set (by simp; omega) _
 · exact gse (gse (gse (gca (gal (gal (gal (gre _) _) _) _) hb') (by simp; omega) _) (by simp) _) (by simp) _
def NodesIn (w : World) (N : Nat) (f : Nat → Value) (bs : Nat → Nat) (ns : List GN) (k : Nat) : Prop :=
 ∀ i, i < k → f (i * 2) = .int .i64 ns[i]!.tag ∧ f (i * 2 + 1) = .slice (some ⟨bs i, 0, none⟩) ns[i]!.vals.length ns[i]!.vals.length ∧ OwnVals w (bs i) ns[i]!.vals ∧ N < bs i ∧ ∀ j, j < i → bs j < bs i
def OwnNodes (w : World) (N : Nat) (bs : Nat → Nat) (ns : List GN) : Prop := ∃ f, w.rowIs N 111 (ns.length * 2) f ∧ NodesIn w N f bs ns ns.length
theorem OwnNodes.at_ {w : World} {N : Nat} {bs : Nat → Nat} {ns : List GN} (h : OwnNodes w N bs ns) : NodesAt w.heap.size w (some ⟨N, 0, none⟩) ns := fun i hi => by
 obtain ⟨f, hr, hn⟩ := h
 obtain ⟨h0, h1, h2, h3, _⟩ := hn i hi
 refine ⟨N, 0, some ⟨bs i, 0, none⟩, ns[i]!.vals.length, rfl, hr.lt, ?_, ?_, h2.at_ h2.lt⟩
 · rw [← h0, Nat.zero_add]; exact hr.cell (by omega)
 · rw [← h1, Nat.zero_add]; exact hr.cell (by omega)
theorem OwnNodes.below {w w' : World} {N : Nat} {bs : Nat → Nat} {ns : List GN} (h : OwnNodes w N bs ns) (hb : Below w.heap.size w w') : OwnNodes w' N bs ns := by
 obtain ⟨f, hr, hn⟩ := h
 refine ⟨f, hr.of_block (hb.block _ hr.lt), fun i hi => ?_⟩
 obtain ⟨h0, h1, h2, h3, h4⟩ := hn i hi
 exact ⟨h0, h1, h2.of_block (hb.block _ h2.lt), h3, h4⟩
theorem OwnNodes.set {w : World} {N : Nat} {bs : Nat → Nat} {ns : List GN} (h : OwnNodes w N bs ns) {p : Addr} (hp : p.block < N) (u : Value) : OwnNodes (w.setCell p u) N bs ns := by
 obtain ⟨f, hr, hn⟩ := h
 refine ⟨f, hr.setOther (by omega) u, fun i hi => ?_⟩
 obtain ⟨h0, h1, h2, h3, h4⟩ := hn i hi
 exact ⟨h0, h1, h2.set (by omega) u, h3, h4⟩
theorem NodesIn.step {w w' : World} {N : Nat} {f : Nat → Value} {bs : Nat → Nat} {ns : List GN} {k b : Nat} {n : GN} (h : NodesIn w N f bs ns k) (hv : Hid (n = ns[k]!)) (hb : Below w.heap.size w w') (hN : N < w.heap.size)
  (hbb : w.heap.size ≤ b) (hown : OwnVals w' b n.vals) (u u' : Value) (o o' : Nat) :
  NodesIn ((w'.setCell ⟨N, o, none⟩ u).setCell ⟨N, o', none⟩ u') N
   (fun j => if j = k * 2 + 1 then .slice (some ⟨b, 0, none⟩) n.vals.length n.vals.length else if j = k * 2 then .int .i64 n.tag else f j) (fun i => if i = k then b else bs i) ns (k + 1) := fun i hi => by
 have e := hv.out
 by_cases hk : i = k
 ·
  subst hk; subst e
  refine ⟨by simp, by simp, ?_, by simp; omega, fun j hj => ?_⟩
  ·
   simp only [if_pos]
   exact (hown.set (by simp; omega) _).set (by simp; omega) _
  ·
   simp only [if_pos, if_neg (show j ≠ i by omega)]
   have := (h j hj).2.2.1.lt
   omega
 ·
  obtain ⟨h0, h1, h2, h3, h4⟩ := h i (by omega)
  refine ⟨?_, ?_, ?_, ?_, fun j hj => ?_⟩ <;> simp only [if_neg hk]
  · rw [if_neg (by omega), if_neg (by omega)]; exact h0
  · rw [if_neg (by omega), if_neg (by omega)]; exact h1
  · exact ((h2.of_block (hb.block _ h2.lt)).set (by simp; omega) _).set (by simp; omega) _
  · exact h3
  · rw [if_neg (show j ≠ k by omega)]; exact h4 j hj
theorem info_implNode : (Tryz.prog.info? 111).map (fun i => (i.zero, i.size, i.bytes)) = some (some (.agg #[.int .i64 0, .slice none 0 0]), 2, 32) := by kernel_rfl
theorem toNodeS_any (a : Option Addr) (cap : Nat) (ns : List GN) (w : World) (hl : ns.length ≤ 1048576) (hv : ∀ n, n ∈ ns → n.vals.length ≤ 1048576) (ha : NodesAt w.heap.size w a ns) :
  Calls Tryz.prog 120 #[.slice a ns.length cap] w fun e w' => ∃ b bs, e = .returned (.slice (some ⟨b, 0, none⟩) ns.length ns.length) ∧ w.heap.size ≤ b ∧ OwnNodes w' b bs ns ∧ Below w.heap.size w w' := by
 obtain ⟨i0, hi, hz0, hz1, hz2⟩ := info_parts info_implNode
 have hmk : ∀ u : World, (Instr.makeSlice 29 (.int .i64 (ns.length : Int)) (.int .i64 (ns.length : Int))).run Tryz.prog u =
   .ok (.slice (some ⟨u.heap.size, 0, none⟩) ns.length ns.length) (u.alloc (.cells (madeCells #[.int .i64 0, .slice none 0 0] (ns.length * 2)) 111)) := fun u => by
  have h := run_make (P := Tryz.prog) u 29 111 i0 _ Tryz.underlying29 hi hz0 .i64 .i64 (ns.length : Int) (ns.length : Int) (by omega) (Int.le_refl _) (by rw [hz2]; omega) (by omega)
  simpa [hz1, Value.cells] using h
 go_enter Tryz.func120, Tryz.ntmps120
 go_wp2
 go_loopw [4] (fun i wr => ∃ (k : Nat) (f : Nat → Value) (bs : Nat → Nat), k ≤ ns.length ∧ i = .int .i64 k ∧ wr.rowIs w.heap.size 111 (ns.length * 2) f ∧ NodesIn wr w.heap.size f bs ns k ∧ Below w.heap.size w wr) (fun i _ => ns.length - (intOf i).toNat)
 case atStart => exact ⟨0, _, fun _ => 0, Nat.zero_le _, rfl, rowIs_made_any _ _ _ _, fun i hi => absurd hi (Nat.not_lt_zero _), (Below.refl _ _).alloc (Nat.le_refl _) _⟩
 case round =>
  obtain ⟨k, f, bs, hk, rfl, hrow, hin, hb⟩ := hrel
  by_cases hlt : k < ns.length
  ·
   obtain ⟨n, b, off, a', cap', hvk, hvm, rfl, hbs, hva⟩ := ha.get hlt
   have hva := hva.below hb hbs
   have c0 := hva.tag
   have c1 := hva.sl
   have hvals := hva.vals.mono hb.size
   go_wp2_with (go_at_call 150; refine (toNode_any a' cap' n _ (hv n hvm) hvals).mono ?_; rintro e w' ⟨b', rfl, hbb, hown, hb'⟩; have hrow' := hrow.of_block (hb'.block _ hrow.lt); have d0 := hrow'.cell (i := k * 2) (by omega); have d1 := hrow'.cell (i := k * 2 + 1) (by omega); have f0 := hrow'.frozen)
   go_roundw
   case rel => exact ⟨k + 1, _, _, by omega, by go_num, (hrow'.set _ _).set _ _, hin.step hvk hb' hrow.lt hbb hown _ _ _ _, ((hb.trans (hb'.mono hb.size)).setCell (Nat.le_refl _) _).setCell (Nat.le_refl _) _⟩
   case measure => simp [intOf]; omega
  ·
   go_wp2
   go_ret
   have e : k = ns.length := by omega
   subst e
   exact ⟨_, bs, rfl, Nat.le_refl _, ⟨_, hrow, hin⟩, hb⟩
theorem toGraph_any (a : Option Addr) (cap : Nat) (g : GG) (w : World) (hl : g.nodes.length ≤ 1048576) (hv : ∀ n, n ∈ g.nodes → n.vals.length ≤ 1048576) (ha : NodesAt w.heap.size w a g.nodes) :
  Calls Tryz.prog 77 #[g.val a cap] w fun e w' => ∃ b bs, e = .returned (g.val (some ⟨b, 0, none⟩) g.nodes.length) ∧ w.heap.size ≤ b ∧ OwnNodes w' b bs g.nodes ∧ Below w.heap.size w w' := by
 go_enter Tryz.func77, Tryz.ntmps77
 go_wp2_with (go_at_call 119; refine (toVal_any g.root _).mono ?_; rintro e w' ⟨rfl, hb'⟩; obtain ⟨hc, hf⟩ := bcell hb')
 have hz : w.heap.size + 1 + 1 < w'.heap.size := by have := hb'.size; simp at this; omega
 have hz1 : w.heap.size + 1 < w'.heap.size := by omega
 have hz0 : w.heap.size < w'.heap.size := by omega
 have hB : Below w.heap.size w w' := gca (gal (gal (gal (gre _) _) _) _) hb'
 refine (toNodeS_any a cap g.nodes _ hl hv (ha.grow (gse (gse (gse (gse hB (by simp; omega) _) (by simp; omega) _) (by simp; omega) _) (by simp; omega) _))).mono ?_
 rintro e w'' ⟨b, bs, rfl, hbb, hown, hb''⟩
 obtain ⟨hc2, hf2⟩ := bcell hb''
 have hB2 : Below w.heap.size w w'' := gca (gse (gse (gse (gse hB (by simp; omega) _) (by simp; omega) _) (by simp; omega) _) (by simp; omega) _) hb''
 have hbb' : w'.heap.size ≤ b := by simpa [World.setCell] using hbb
 clear hbb
 go_wp2
 refine bodyPost_ret (v := g.val (some ⟨b, 0, none⟩) g.nodes.length) (by simp [results, Tryz.results77, go_sem, hc, hc2, hz1]) rfl ⟨b, bs, rfl, by omega, ?_, ?_⟩
 · exact (((((hown.set (by simp; omega) _).set (by simp; omega) _).set (by simp; omega) _).set (by simp; omega) _).set (by simp; omega) _).set (by simp; omega) _
 · exact gse (gse (gse (gse (gse (gse hB2 (by simp; omega) _) (by simp) _) (by simp) _) (by simp) _) (by simp) _) (by simp) _
theorem eqVal_same (v : GV) (w : World) :
  Calls Tryz.prog 64 #[v.val, v.val] w fun e w' => e = .returned (.bool true) ∧ Below w.heap.size w w' := by
 go_enter Tryz.func64, Tryz.ntmps64
 go_wp2
 all_goals go_ret
 all_goals exact ⟨rfl, gal (gal (gre _) _) _⟩
theorem eqValS_same (a a' : Option Addr) (cap cap' : Nat) (vs : List GV) (w : World) (hl : vs.length ≤ maxLen) (ha : ValsAt w.heap.size w a vs) (ha' : ValsAt w.heap.size w a' vs) :
  Calls Tryz.prog 147 #[.slice a vs.length cap, .slice a' vs.length cap'] w fun e w' => e = .returned (.bool true) ∧ Below w.heap.size w w' := by
 unfold maxLen at hl
 go_enter Tryz.func147, Tryz.ntmps147
 go_wp2
 go_loopw [5] (fun i wr => ∃ k : Nat, k ≤ vs.length ∧ i = .int .i64 k ∧ Below w.heap.size w wr) (fun i _ => vs.length - (intOf i).toNat)
 case atStart => exact ⟨0, Nat.zero_le _, rfl, Below.refl _ _⟩
 case round =>
  obtain ⟨k, hk, rfl, hb⟩ := hrel
  by_cases hlt : k < vs.length
  ·
   obtain ⟨v, b, off, hvk, hvm, rfl, hbs, hva⟩ := ha.get hlt
   obtain ⟨v', b', off', hvk', hvm', rfl, hbs', hva'⟩ := ha'.get hlt
   have e : v' = v := by rw [hvk.out, hvk'.out]
   subst e
   have hva := hva.below hb hbs
   have hva' := hva'.below hb hbs'
   have hz1 : b < wr.heap.size := Nat.lt_of_lt_of_le hbs hb.size
   have hz2 : b' < wr.heap.size := Nat.lt_of_lt_of_le hbs' hb.size
   have c0 := hva.kind
   have c1 := hva.num
   have c2 := hva.text
   have c3 := hva.node
   have d0 := hva'.kind
   have d1 := hva'.num
   have d2 := hva'.text
   have d3 := hva'.node
   have i0 : (0 : Int) ≤ (k : Int) := by omega
   have i1 : (k : Int) < (vs.length : Int) := by omega
   clear ha ha' hvk hvk' hva hva'
   go_wp2
   go_region_held3 (fun w' => w'.cell? ⟨b, off + k * 4, none⟩ = some (.int .i64 v'.kind) ∧ w'.cell? ⟨b, off + k * 4 + 1, none⟩ = some (.int .i64 v'.num) ∧ w'.cell? ⟨b, off + k * 4 + 2, none⟩ = some (.string v'.text) ∧ w'.cell? ⟨b, off + k * 4 + 3, none⟩ = some (.int .i64 v'.node) ∧ w'.cell? ⟨b', off' + k * 4, none⟩ = some (.int .i64 v'.kind) ∧ w'.cell? ⟨b', off' + k * 4 + 1, none⟩ = some (.int .i64 v'.num) ∧ w'.cell? ⟨b', off' + k * 4 + 2, none⟩ = some (.string v'.text) ∧ w'.cell? ⟨b', off' + k * 4 + 3, none⟩ = some (.int .i64 v'.node)) (first | go_keep | (go_split_ands; refine ⟨?_, ?_, ?_, ?_, ?_, ?_, ?_, ?_⟩ <;> exact cell_later hb' (by assumption))) ((go_at_call 64; refine (eqVal_same v' _).mono ?_; rintro e w' ⟨rfl, hb'⟩))
   go_wp2
   go_roundw
   case rel => exact ⟨k + 1, by omega, by go_num, gca (gdr hb) hb'⟩
   case measure => simp [intOf]; omega
  ·
   go_wp2
   go_ret
   exact ⟨rfl, hb⟩
theorem eqNode_same (a a' : Option Addr) (cap cap' : Nat) (n : GN) (w : World) (hl : n.vals.length ≤ maxLen) (ha : ValsAt w.heap.size w a n.vals) (ha' : ValsAt w.heap.size w a' n.vals) :
  Calls Tryz.prog 112 #[.agg #[.int .i64 n.tag, .slice a n.vals.length cap], .agg #[.int .i64 n.tag, .slice a' n.vals.length cap']] w fun e w' => e = .returned (.bool true) ∧ Below w.heap.size w w' := by
 go_enter Tryz.func112, Tryz.ntmps112
 go_wp2_with (go_at_call 147; refine (eqValS_same a a' cap cap' n.vals _ hl (ha.grow (gal (gal (gre _) _) _)) (ha'.grow (gal (gal (gre _) _) _))).mono ?_; rintro e w' ⟨rfl, hb'⟩)
 go_ret
 exact ⟨rfl, gca (gal (gal (gre _) _) _) hb'⟩
theorem eqNodeS_same (a a' : Option Addr) (cap cap' : Nat) (ns : List GN) (w : World) (hl : ns.length ≤ maxLen) (hv : ∀ n, n ∈ ns → n.vals.length ≤ maxLen) (ha : NodesAt w.heap.size w a ns) (ha' : NodesAt w.heap.size w a' ns) :
  Calls Tryz.prog 65 #[.slice a ns.length cap, .slice a' ns.length cap'] w fun e w' => e = .returned (.bool true) ∧ Below w.heap.size w w' := by
 unfold maxLen at hl
 go_enter Tryz.func65, Tryz.ntmps65
 go_wp2
 go_loopw [5] (fun i wr => ∃ k : Nat, k ≤ ns.length ∧ i = .int .i64 k ∧ Below w.heap.size w wr) (fun i _ => ns.length - (intOf i).toNat)
 case atStart => exact ⟨0, Nat.zero_le _, rfl, Below.refl _ _⟩
 case round =>
  obtain ⟨k, hk, rfl, hb⟩ := hrel
  by_cases hlt : k < ns.length
  ·
   obtain ⟨n, b, off, av, cv, hvk, hvm, rfl, hbs, hva⟩ := ha.get hlt
   obtain ⟨n', b', off', av', cv', hvk', hvm', rfl, hbs', hva'⟩ := ha'.get hlt
   have e : n' = n := by rw [hvk.out, hvk'.out]
   subst e
   have hva := hva.below hb hbs
   have hva' := hva'.below hb hbs'
   have c0 := hva.tag
   have c1 := hva.sl
   have d0 := hva'.tag
   have d1 := hva'.sl
   have i0 : (0 : Int) ≤ (k : Int) := by omega
   have i1 : (k : Int) < (ns.length : Int) := by omega
   have hvl := hv n' hvm
   have hv1 : ValsAt wr.drew.heap.size wr.drew av n'.vals := (hva.vals.mono hb.size).grow (gdr (gre _))
   have hv2 : ValsAt wr.drew.heap.size wr.drew av' n'.vals := (hva'.vals.mono hb.size).grow (gdr (gre _))
   clear ha ha' hvk hvk' hva hva'
   go_wp2
   go_region_held3 (fun w' => w'.cell? ⟨b, off + k * 2, none⟩ = some (.int .i64 n'.tag) ∧ w'.cell? ⟨b, off + k * 2 + 1, none⟩ = some (.slice av n'.vals.length cv) ∧ w'.cell? ⟨b', off' + k * 2, none⟩ = some (.int .i64 n'.tag) ∧ w'.cell? ⟨b', off' + k * 2 + 1, none⟩ = some (.slice av' n'.vals.length cv')) (first | go_keep | (go_split_ands; refine ⟨?_, ?_, ?_, ?_⟩ <;> exact cell_later hb' (by assumption))) ((go_at_call 112; refine (eqNode_same av av' cv cv' n' _ hvl hv1 hv2).mono ?_; rintro e w' ⟨rfl, hb'⟩))
   go_wp2
   go_roundw
   case rel => exact ⟨k + 1, by omega, by go_num, gca (gdr hb) hb'⟩
   case measure => simp [intOf]; omega
  ·
   go_wp2
   go_ret
   exact ⟨rfl, hb⟩
theorem eqGraph_same (a a' : Option Addr) (cap cap' : Nat) (g : GG) (w : World) (hg : g.Ok) (ha : NodesAt w.heap.size w a g.nodes) (ha' : NodesAt w.heap.size w a' g.nodes) :
  Calls Tryz.prog 32 #[g.val a cap, g.val a' cap'] w fun e w' => e = .returned (.bool true) ∧ Below w.heap.size w w' := by
 go_enter Tryz.func32, Tryz.ntmps32
 go_wp2_with (first | (go_at_call 64; refine (eqVal_same g.root _).mono ?_; rintro e w' ⟨rfl, hb'⟩; obtain ⟨hc, hf⟩ := bcell hb') | (go_at_call 65; refine (eqNodeS_same a a' cap cap' g.nodes _ hg.len (fun n hn => (hg.nodes n hn).len) (ha.grow (gca (gal (gal (gre _) _) _) hb')) (ha'.grow (gca (gal (gal (gre _) _) _) hb'))).mono ?_; rintro e w'' ⟨rfl, hb''⟩))
 go_ret
 exact ⟨rfl, gca (gca (gal (gal (gre _) _) _) hb') hb''⟩
theorem info_implOp : (Tryz.prog.info? 188).map (fun i => (i.zero, i.size, i.bytes)) = some (some (.agg #[.bool false, .int .i64 0, .slice none 0 0]), 3, 40) := by kernel_rfl
structure OP where
 sync : Bool
 block : Int
 bytes : List Nat
 deriving Inhabited
def syncO : OP := ⟨true, 0, []⟩
structure OpsOk (ls : List OP) : Prop where
 len : ls.length ≤ maxLen
 bl : ∀ x, x ∈ ls → I64 x.block
 by_ : ∀ x, x ∈ ls → BOk x.bytes
def OpsAt (w : World) (a : Option Addr) (ls : List OP) : Prop :=
 ∀ i, i < ls.length → ∃ b off a' cap, a = some ⟨b, off, none⟩ ∧ w.cell? ⟨b, off + i * 3, none⟩ = some (.bool ls[i]!.sync) ∧ w.cell? ⟨b, off + i * 3 + 1, none⟩ = some (.int .i64 ls[i]!.block) ∧ w.cell? ⟨b, off + i * 3 + 2, none⟩ = some (.slice a' ls[i]!.bytes.length cap) ∧ BytesAt w a' ls[i]!.bytes
theorem OpsAt.get {w : World} {a : Option Addr} {ls : List OP} (h : OpsAt w a ls) {k : Nat} (hk : k < ls.length) :
  ∃ x b off a' cap, Hid (x = ls[k]!) ∧ x ∈ ls ∧ a = some ⟨b, off, none⟩ ∧ w.cell? ⟨b, off + k * 3, none⟩ = some (.bool x.sync) ∧ w.cell? ⟨b, off + k * 3 + 1, none⟩ = some (.int .i64 x.block) ∧ w.cell? ⟨b, off + k * 3 + 2, none⟩ = some (.slice a' x.bytes.length cap) ∧ BytesAt w a' x.bytes := by
 obtain ⟨b, off, a', cap, ha, hc, hc1, hc2, hb⟩ := h k hk
 exact ⟨ls[k]!, b, off, a', cap, rfl, mem_at hk, ha, hc, hc1, hc2, hb⟩
theorem OpsAt.grow {w w' : World} {a : Option Addr} {ls : List OP} (h : OpsAt w a ls) (hb : Below w.heap.size w w') : OpsAt w' a ls := fun i hi => by
 obtain ⟨b, off, a', cap, ha, hc, hc1, hc2, hx⟩ := h i hi
 exact ⟨b, off, a', cap, ha, (World.cell?_of_block (w := w) (hb.block b (World.block_lt_of_cell? _ _ hc))).trans hc, (World.cell?_of_block (w := w) (hb.block b (World.block_lt_of_cell? _ _ hc1))).trans hc1, (World.cell?_of_block (w := w) (hb.block b (World.block_lt_of_cell? _ _ hc2))).trans hc2, hx.grow hb⟩
structure MOs (w : World) (lo hi : Nat) (a : Option Addr) (n : Nat) (S : Nat → Bool) (B : Nat → Int) (F : Nat → List Nat) (fa : Nat → Option Addr) (fc : Nat → Nat) : Prop where
 row : 0 < n → ∃ g m f, a = some ⟨g, 0, none⟩ ∧ lo ≤ g ∧ g < hi ∧ w.rowIs g 188 m f ∧ n * 3 ≤ m ∧ ∀ i, i < n → f (i * 3) = .bool (S i) ∧ f (i * 3 + 1) = .int .i64 (B i) ∧ f (i * 3 + 2) = .slice (fa i) (F i).length (fc i)
 byt : ∀ i, i < n → BB w lo hi (fa i) (F i)
 far : ∀ i j, i < j → j < n → F i ≠ [] → F j ≠ [] → Apart (fa i) (fa j)
def IsO (w : World) (b : Nat) : Prop := ∃ c, w.heap[b]? = some (.cells c 188 (0, 0))
theorem not_B_of_O {w : World} {b : Nat} (h : IsO w b) : ¬ IsB w b := fun ⟨c, hc⟩ => by
 obtain ⟨c', hc'⟩ := h
 rw [hc] at hc'
 simp at hc'
theorem MOs.at_ {w : World} {lo hi : Nat} {a : Option Addr} {ls : List OP} {fa : Nat → Option Addr} {fc : Nat → Nat} (h : MOs w lo hi a ls.length (fun i => ls[i]!.sync) (fun i => ls[i]!.block) (fun i => ls[i]!.bytes) fa fc) : OpsAt w a ls := fun i hi => by
 obtain ⟨g, m, f, h1, _, _, h4, h5, h6⟩ := h.row (by omega)
 obtain ⟨e0, e1, e2⟩ := h6 i hi
 refine ⟨g, 0, fa i, fc i, h1, ?_, ?_, ?_, (h.byt i hi).bytes⟩
 · rw [Nat.zero_add, ← e0]; exact h4.cell (by omega)
 · rw [Nat.zero_add, ← e1]; exact h4.cell (by omega)
 · rw [Nat.zero_add, ← e2]; exact h4.cell (by omega)
def okV (n : Nat) (v : GV) : Bool :=
 if v.kind = 0 then decide (v.num = 0 ∧ v.text.toList = [] ∧ v.node = 0)
 else if v.kind = 1 ∨ v.kind = 2 then decide (v.text.toList = [] ∧ v.node = 0)
 else if v.kind = 3 then decide (v.num = 0 ∧ v.node = 0 ∧ v.text.size ≤ 1000)
 else if v.kind = 4 then decide (v.num = 0 ∧ v.text.toList = [] ∧ 0 ≤ v.node ∧ v.node < n)
 else false
theorem specVal_any (a : Option Addr) (cap : Nat) (g : GG) (v : GV) (w : World) :
  Calls Tryz.prog 95 #[g.val a cap, v.val] w fun e w' => e = .returned (.bool (okV g.nodes.length v)) ∧ Below w.heap.size w w' := by
 go_enter Tryz.func95, Tryz.ntmps95
 go_wp2
 all_goals go_ret
 all_goals refine ⟨ret_bool ?_, gal (gal (gre _) _) _⟩
 all_goals simp_all [okV]
 all_goals first | omega | rfl | (rw [Bool.eq_iff_iff]; simp)
theorem implVal_any (n : Nat) (v : GV) (w : World) :
  Calls Tryz.prog 162 #[v.val, .int .i64 n] w fun e w' => e = .returned (.bool (okV n v)) ∧ Below w.heap.size w w' := by
 go_enter Tryz.func162, Tryz.ntmps162
 go_wp2
 all_goals go_ret
 all_goals refine ⟨ret_bool ?_, gal (gre _) _⟩
 all_goals simp_all [okV]
 all_goals omega
def okN (n : Nat) (x : GN) : Bool := decide (0 ≤ x.tag ∧ x.tag ≤ 1000 ∧ x.vals.length ≤ 100) && x.vals.all (okV n)
def okG (g : GG) : Bool := decide (g.nodes.length ≤ 300) && okV g.nodes.length g.root && g.nodes.all (okN g.nodes.length)
theorem all_take_succ {α : Type} [Inhabited α] {p : α → Bool} {l : List α} {k : Nat} (h : k < l.length) (h1 : (l.take k).all p = true) (h2 : p l[k]! = true) : (l.take (k + 1)).all p = true := by
 rw [take_snoc l k h, List.all_append, h1, List.all_cons, h2]; rfl
theorem all_false_at {α : Type} [Inhabited α] {p : α → Bool} {l : List α} {k : Nat} (h : k < l.length) (h2 : p l[k]! = false) : l.all p = false := by
 rw [List.all_eq_false]; exact ⟨l[k]!, mem_at h, by rw [h2]; exact Bool.false_ne_true⟩
theorem okN_false {n : Nat} {x : GN} (h : x.tag < 0 ∨ 1000 < x.tag ∨ 100 < x.vals.length) : okN n x = false := by
 unfold okN; rw [decide_eq_false (by omega)]; rfl
theorem okN_vals {n : Nat} {x : GN} (h : 0 ≤ x.tag ∧ x.tag ≤ 1000 ∧ x.vals.length ≤ 100) : okN n x = x.vals.all (okV n) := by
 unfold okN; rw [decide_eq_true h]; rfl
theorem implNode_any (n : Nat) (x : GN) (a : Option Addr) (cap : Nat) (w : World) (hl : x.vals.length ≤ maxLen) (ha : ValsAt w.heap.size w a x.vals) :
  Calls Tryz.prog 163 #[.agg #[.int .i64 x.tag, .slice a x.vals.length cap], .int .i64 n] w fun e w' => e = .returned (.bool (okN n x)) ∧ Below w.heap.size w w' := by
 unfold maxLen at hl
 by_cases hok : 0 ≤ x.tag ∧ x.tag ≤ 1000 ∧ x.vals.length ≤ 100
 ·
  have hkv : Hid _ := okN_vals (n := n) hok
  obtain ⟨h1, h2, h3⟩ := hok
  have t0 : decide (x.tag < 0) = false := decide_eq_false (by omega)
  have t1 : decide (1000 < x.tag) = false := decide_eq_false (by omega)
  have t2 : decide (100 < (x.vals.length : Int)) = false := decide_eq_false (by omega)
  go_enter Tryz.func163, Tryz.ntmps163
  go_wp2
  go_loopw [24] (fun i wr => ∃ k : Nat, k ≤ x.vals.length ∧ i = .int .i64 k ∧ (x.vals.take k).all (okV n) = true ∧ Below w.heap.size w wr) (fun i _ => x.vals.length - (intOf i).toNat)
  case atStart => exact ⟨0, Nat.zero_le _, rfl, by simp, gal (gre _) _⟩
  case round =>
   obtain ⟨k, hk, rfl, hall, hb⟩ := hrel
   by_cases hlt : k < x.vals.length
   ·
    obtain ⟨v, b, off, hvk, hvm, rfl, hbs, hva⟩ := ha.get hlt
    have hva := hva.below hb hbs
    have c0 := hva.kind
    have c1 := hva.num
    have c2 := hva.text
    have c3 := hva.node
    have hall' : Hid _ := hall
    clear hall
    cases hr : okV n v with
    | false =>
     have hf : Hid (x.vals.all (okV n) = false) := all_false_at hlt (by rw [← hvk.out]; exact hr)
     go_wp2_with (go_at_call 162; refine (implVal_any n v _).mono ?_; rintro e w' ⟨rfl, hb'⟩)
     go_ret
     exact ⟨ret_bool (by rw [hkv.out, hf.out]), gca (gal hb _) hb'⟩
    | true =>
     have hf : Hid ((x.vals.take (k + 1)).all (okV n) = true) := all_take_succ hlt hall'.out (by rw [← hvk.out]; exact hr)
     go_wp2_with (go_at_call 162; refine (implVal_any n v _).mono ?_; rintro e w' ⟨rfl, hb'⟩)
     go_roundw
     case rel => exact ⟨k + 1, by omega, by go_num, hf.out, gca (gal hb _) hb'⟩
     case measure => simp [intOf]; omega
   ·
    have e : k = x.vals.length := by omega
    have hall' : Hid (x.vals.all (okV n) = true) := by rw [e, List.take_length] at hall; exact hall
    clear hall
    go_wp2
    go_ret
    exact ⟨ret_bool (by rw [hkv.out, hall'.out]), hb⟩
 ·
  have hkf : Hid _ := okN_false (n := n) (x := x) (by omega)
  go_enter Tryz.func163, Tryz.ntmps163
  go_wp2
  all_goals first | (go_ret; exact ⟨ret_bool hkf.out.symm, gal (gre _) _⟩) | (exfalso; omega)
def renOrd (ord : List Nat) (v : GV) : List Nat := if v.kind = 4 ∧ v.node.toNat ∉ ord then ord ++ [v.node.toNat] else ord
def renVal (ord : List Nat) (v : GV) : GV := if v.kind = 4 then { v with node := ((renOrd ord v).idxOf v.node.toNat : Nat) } else v
def renOrds (ord : List Nat) (vs : List GV) : List Nat := vs.foldl renOrd ord
def renVals (ord : List Nat) : List GV → List GV
 | [] => []
 | v :: r => renVal ord v :: renVals (renOrd ord v) r
theorem renOrds_snoc (ord : List Nat) (l : List GV) (v : GV) : renOrds ord (l ++ [v]) = renOrd (renOrds ord l) v := by
 simp [renOrds, List.foldl_append]
theorem renVals_snoc (ord : List Nat) (l : List GV) (v : GV) : renVals ord (l ++ [v]) = renVals ord l ++ [renVal (renOrds ord l) v] := by
 induction l generalizing ord with
 | nil => rfl
 | cons x r ih => simp only [List.cons_append, renVals, ih]; rfl
theorem renVals_length (ord : List Nat) (l : List GV) : (renVals ord l).length = l.length := by
 induction l generalizing ord with
 | nil => rfl
 | cons x r ih => simp [renVals, ih]
theorem renOrds_take_succ (ord : List Nat) (l : List GV) (k : Nat) (h : k < l.length) : renOrds ord (l.take (k + 1)) = renOrd (renOrds ord (l.take k)) l[k]! := by
 rw [take_snoc l k h, renOrds_snoc]
theorem renVals_take_succ (ord : List Nat) (l : List GV) (k : Nat) (h : k < l.length) : renVals ord (l.take (k + 1)) = renVals ord (l.take k) ++ [renVal (renOrds ord (l.take k)) l[k]!] := by
 rw [take_snoc l k h, renVals_snoc]
def canonO (nodes : List GN) (ord0 : List Nat) : Nat → List Nat
 | 0 => ord0
 | k + 1 => if k < (canonO nodes ord0 k).length then renOrds (canonO nodes ord0 k) (nodes[(canonO nodes ord0 k)[k]!]!).vals else canonO nodes ord0 k
def canonN (nodes : List GN) (ord0 : List Nat) : Nat → List GN
 | 0 => []
 | k + 1 => if k < (canonO nodes ord0 k).length then canonN nodes ord0 k ++ [⟨(nodes[(canonO nodes ord0 k)[k]!]!).tag, renVals (canonO nodes ord0 k) (nodes[(canonO nodes ord0 k)[k]!]!).vals⟩] else canonN nodes ord0 k
def canon (g : GG) : GG := ⟨renVal [] g.root, canonN g.nodes (renOrd [] g.root) g.nodes.length⟩
theorem canonO_succ (nodes : List GN) (ord0 : List Nat) (k : Nat) : canonO nodes ord0 (k + 1) = if k < (canonO nodes ord0 k).length then renOrds (canonO nodes ord0 k) (nodes[(canonO nodes ord0 k)[k]!]!).vals else canonO nodes ord0 k := by
 conv => lhs; unfold canonO
theorem canonN_succ (nodes : List GN) (ord0 : List Nat) (k : Nat) : canonN nodes ord0 (k + 1) = if k < (canonO nodes ord0 k).length then canonN nodes ord0 k ++ [⟨(nodes[(canonO nodes ord0 k)[k]!]!).tag, renVals (canonO nodes ord0 k) (nodes[(canonO nodes ord0 k)[k]!]!).vals⟩] else canonN nodes ord0 k := by
 conv => lhs; unfold canonN
theorem canon_stable (nodes : List GN) (ord0 : List Nat) (k : Nat) (h : (canonO nodes ord0 k).length ≤ k) : ∀ j, canonO nodes ord0 (k + j) = canonO nodes ord0 k ∧ canonN nodes ord0 (k + j) = canonN nodes ord0 k
 | 0 => ⟨rfl, rfl⟩
 | j + 1 => by
  obtain ⟨h1, h2⟩ := canon_stable nodes ord0 k h j
  have hn : ¬ k + j < (canonO nodes ord0 (k + j)).length := by rw [h1]; omega
  rw [show k + (j + 1) = (k + j) + 1 by omega, canonO_succ, canonN_succ, if_neg hn, if_neg hn]
  exact ⟨h1, h2⟩
def InvO (n : Nat) (ord : List Nat) : Prop := ord.Nodup ∧ ∀ x, x ∈ ord → x < n
theorem nodup_le : ∀ (n : Nat) (l : List Nat), l.Nodup → (∀ x, x ∈ l → x < n) → l.length ≤ n
 | 0, l, _, h => by
  cases l with
  | nil => simp
  | cons x r => exact absurd (h x (List.mem_cons_self ..)) (Nat.not_lt_zero _)
 | n + 1, l, hd, h => by
  by_cases hn : n ∈ l
  ·
   have h1 := nodup_le n (l.erase n) (hd.erase n) (fun x hx => by
    obtain ⟨h2, h3⟩ := hd.mem_erase_iff.1 hx
    have := h x h3
    omega)
   rw [List.length_erase_of_mem hn] at h1
   omega
  ·
   have := nodup_le n l hd (fun x hx => by
    have h1 := h x hx
    have h2 : x ≠ n := fun e => hn (e ▸ hx)
    omega)
   omega
theorem InvO.le {n : Nat} {ord : List Nat} (h : InvO n ord) : ord.length ≤ n := nodup_le n ord h.1 h.2
theorem InvO.nil (n : Nat) : InvO n [] := ⟨List.nodup_nil, fun x hx => by cases hx⟩
theorem okV_node {n : Nat} {v : GV} (h : okV n v = true) (hk : v.kind = 4) : 0 ≤ v.node ∧ v.node < n := by
 unfold okV at h
 rw [if_neg (by omega), if_neg (by omega), if_neg (by omega), if_pos hk] at h
 have := of_decide_eq_true h
 omega
theorem InvO.ren {n : Nat} {ord : List Nat} {v : GV} (h : InvO n ord) (hv : okV n v = true) : InvO n (renOrd ord v) := by
 unfold renOrd
 split
 ·
  rename_i hc
  have := okV_node hv hc.1
  refine ⟨List.nodup_append.2 ⟨h.1, by simp, fun a ha b hb e => ?_⟩, fun x hx => ?_⟩
  ·
   simp at hb
   subst e hb
   exact hc.2 ha
  ·
   rcases List.mem_append.1 hx with h1 | h1
   · exact h.2 x h1
   ·
    simp at h1
    omega
 · exact h
theorem InvO.rens {n : Nat} {ord : List Nat} {l : List GV} (h : InvO n ord) (hv : ∀ v, v ∈ l → okV n v = true) : InvO n (renOrds ord l) := by
 induction l generalizing ord with
 | nil => exact h
 | cons v r ih => exact ih (h.ren (hv v (List.mem_cons_self ..))) (fun x hx => hv x (List.mem_cons_of_mem _ hx))
theorem okG_parts {g : GG} (h : okG g = true) : g.nodes.length ≤ 300 ∧ okV g.nodes.length g.root = true ∧ ∀ n, n ∈ g.nodes → okN g.nodes.length n = true := by
 unfold okG at h
 simp only [Bool.and_eq_true, decide_eq_true_eq, List.all_eq_true] at h
 exact ⟨h.1.1, h.1.2, h.2⟩
theorem okN_parts {n : Nat} {x : GN} (h : okN n x = true) : x.vals.length ≤ 100 ∧ ∀ v, v ∈ x.vals → okV n v = true := by
 unfold okN at h
 simp only [Bool.and_eq_true, decide_eq_true_eq, List.all_eq_true] at h
 exact ⟨h.1.2.2, h.2⟩
theorem canonO_inv {nodes : List GN} {ord0 : List Nat} (h0 : InvO nodes.length ord0) (hn : ∀ n, n ∈ nodes → okN nodes.length n = true) : ∀ k, InvO nodes.length (canonO nodes ord0 k)
 | 0 => by unfold canonO; exact h0
 | k + 1 => by
  have ih := canonO_inv h0 hn k
  rw [canonO_succ]
  split
  ·
   rename_i hlt
   refine ih.rens (okN_parts (hn _ (mem_at (ih.2 _ (mem_at hlt))))).2
  · exact ih
theorem canon_at {g : GG} {k : Nat} (hk : k ≤ g.nodes.length) (h : (canonO g.nodes (renOrd [] g.root) k).length ≤ k) : canon g = ⟨renVal [] g.root, canonN g.nodes (renOrd [] g.root) k⟩ := by
 have h1 := (canon_stable g.nodes (renOrd [] g.root) k h (g.nodes.length - k)).2
 rw [show k + (g.nodes.length - k) = g.nodes.length by omega] at h1
 unfold canon
 rw [h1]
theorem renOrd_le (ord : List Nat) (v : GV) : ord.length ≤ (renOrd ord v).length := by
 unfold renOrd; split <;> simp
theorem renOrds_le (ord : List Nat) (l : List GV) : ord.length ≤ (renOrds ord l).length := by
 induction l generalizing ord with
 | nil => exact Nat.le_refl _
 | cons v r ih => exact Nat.le_trans (renOrd_le ord v) (ih (renOrd ord v))
def whereOf (ord : List Nat) (i : Nat) : Int := if i ∈ ord then (ord.idxOf i : Int) else -1
theorem whereOf_neg {ord : List Nat} {i : Nat} (h : i ∉ ord) : whereOf ord i = -1 := if_neg h
theorem whereOf_pos {ord : List Nat} {i : Nat} (h : i ∈ ord) : whereOf ord i = (ord.idxOf i : Int) := if_pos h
theorem whereOf_snoc {ord : List Nat} {x : Nat} (h : x ∉ ord) (i : Nat) : whereOf (ord ++ [x]) i = if i = x then (ord.length : Int) else whereOf ord i := by
 unfold whereOf
 by_cases hi : i = x
 ·
  subst hi
  rw [if_pos (by simp), if_pos rfl, List.idxOf_append, if_neg h]
  simp
 ·
  rw [if_neg hi]
  by_cases hm : i ∈ ord
  · rw [if_pos hm, if_pos (by simp [hm]), List.idxOf_append, if_pos hm]
  · rw [if_neg hm, if_neg (by simp [hm, hi])]
theorem ren_old {ord : List Nat} {v : GV} (hk : v.kind = 4) (h : v.node.toNat ∈ ord) : renOrd ord v = ord ∧ renVal ord v = { v with node := (ord.idxOf v.node.toNat : Nat) } := by
 have h1 : renOrd ord v = ord := by unfold renOrd; rw [if_neg (fun c => c.2 h)]
 refine ⟨h1, ?_⟩
 unfold renVal
 rw [if_pos hk, h1]
theorem ren_new {ord : List Nat} {v : GV} (hk : v.kind = 4) (h : v.node.toNat ∉ ord) : renOrd ord v = ord ++ [v.node.toNat] ∧ renVal ord v = { v with node := (ord.length : Nat) } := by
 have h1 : renOrd ord v = ord ++ [v.node.toNat] := by unfold renOrd; rw [if_pos ⟨hk, h⟩]
 refine ⟨h1, ?_⟩
 unfold renVal
 rw [if_pos hk, h1, List.idxOf_append, if_neg h]
 simp
theorem ren_not {ord : List Nat} {v : GV} (hk : v.kind ≠ 4) : renOrd ord v = ord ∧ renVal ord v = v := by
 unfold renOrd renVal
 rw [if_neg (fun c => hk c.1), if_neg hk]
 exact ⟨rfl, rfl⟩
end Go.Proofs.YthjddpkegooobacGreatDoor
