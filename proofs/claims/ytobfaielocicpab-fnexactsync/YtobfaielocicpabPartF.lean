import Derived.Laws.EntriesVeiled
import Derived.Deep.RegionHeld3
import Derived.Test.YtobfaielocicpabPartE

/-
  DOK2: both DiskOk, walked. Own work.
-/
namespace Go.Proofs.Ytobfaielocicpab
open Go.RowKit

set_option maxRecDepth 100000 in
theorem writeOk_any (x : DW) (a : Option Addr) (cap : Nat) (w : World) (hi : I64 x.block) (_hl : x.bytes.length ≤ maxLen) :
    Calls Try.prog 101 #[x.val a cap] w fun e w' => e = .returned (.bool (wrOk x)) ∧ Below w.heap.size w w' := by
  obtain ⟨p, hp⟩ : ∃ p, Hid (p = (decide (0 ≤ x.block) && decide (x.block < 130))) := ⟨_, rfl⟩
  have hw : Hid (wrOk x = (p && decide (x.bytes.length = 64))) := by show _ = _; rw [hp.out]; rfl
  cases p with
  | false =>
    go_enter Try.func101, Try.ntmps101
    go_wp2_with (go_at_call 110; refine (hasBlock_any x.block _ hi).mono ?_; rintro e w' ⟨rfl, hb'⟩; rw [← hp.out])
    go_ret
    exact ⟨by rw [hw.out]; rfl, gca (gal (gre _) _) hb'⟩
  | true =>
    by_cases h : x.bytes.length = 64
    · have h' : ((x.bytes.length : Int) == 64) = true := by simp; omega
      have hh : Hid _ := h
      clear h
      go_enter Try.func101, Try.ntmps101
      go_wp2_with (go_at_call 110; refine (hasBlock_any x.block _ hi).mono ?_; rintro e w' ⟨rfl, hb'⟩; rw [← hp.out]; obtain ⟨hc, hf⟩ := bcell hb')
      go_ret
      exact ⟨by rw [hw.out]; simp [hh.out], gca (gal (gre _) _) hb'⟩
    · have h' : ((x.bytes.length : Int) == 64) = false := by simp; omega
      have hh : Hid _ := h
      clear h
      go_enter Try.func101, Try.ntmps101
      go_wp2_with (go_at_call 110; refine (hasBlock_any x.block _ hi).mono ?_; rintro e w' ⟨rfl, hb'⟩; rw [← hp.out]; obtain ⟨hc, hf⟩ := bcell hb')
      go_ret
      exact ⟨by rw [hw.out, decide_eq_false hh.out]; rfl, gca (gal (gre _) _) hb'⟩

theorem DD.ok_no1 {d : DD} (h : d.blocks.length ≠ 130) : d.ok = false := by simp [DD.ok, h]
theorem DD.ok_no2 {d : DD} (h : ¬ d.waiting.length ≤ 200) : d.ok = false := by simp [DD.ok, h]
theorem DD.ok_no3 {d : DD} (h : d.blocks.all blOk = false) : d.ok = false := by simp [DD.ok, h]
theorem DD.ok_no4 {d : DD} (h : d.waiting.all wrOk = false) : d.ok = false := by simp [DD.ok, h]
theorem DD.ok_yes {d : DD} (h1 : d.blocks.length = 130) (h2 : d.waiting.length ≤ 200) (h3 : d.blocks.all blOk = true) (h4 : d.waiting.all wrOk = true) : d.ok = true := by simp [DD.ok, h1, h2, h3, h4]

set_option maxRecDepth 100000 in
theorem implDiskOk_any (d : DD) (l : DL) (w : World) (hd : d.Ok) (ha : DAt w l d) :
    Calls Try.prog 38 #[d.val l] w fun e w' => e = .returned (.bool d.ok) ∧ Below w.heap.size w w' := by
  have hbl := hd.bl
  have hwl := hd.wl
  unfold maxLen at hbl hwl
  by_cases h1 : d.blocks.length = 130
  · have t1 : ((d.blocks.length : Int) != 130) = false := by simp; omega
    have h1' : Hid _ := h1
    clear h1
    by_cases h2 : d.waiting.length ≤ 200
    · have t2 : ¬ ((d.waiting.length : Int) > 200) := by omega
      have h2' : Hid _ := h2
      clear h2
      go_enter Try.func38, Try.ntmps38
      go_wp2
      have hA := gal (gre w) (.cells #[.slice l.ba d.blocks.length l.bc, .slice l.wa d.waiting.length l.wc] 50)
      have hX := DBox.new w d l 50
      generalize w.alloc (.cells #[.slice l.ba d.blocks.length l.bc, .slice l.wa d.waiting.length l.wc] 50) = wA at hA hX ⊢
      go_loopw [20] (fun i wr => ∃ k : Nat, k ≤ d.blocks.length ∧ i = .int .i64 k ∧ (d.blocks.take k).all blOk = true ∧ Below wA.heap.size wA wr) (fun i _ => d.blocks.length - (intOf i).toNat)
      case atStart => exact ⟨0, Nat.zero_le _, rfl, rfl, gre _⟩
      case round =>
        obtain ⟨k, hk, rfl, hall, hb⟩ := hrel
        by_cases hlt : k < d.blocks.length
        · obtain ⟨n, b, off, av, cv, hvk, hvm, hba, c0, hva⟩ := (ha.b.grow (gca hA hb)).get hlt
          rw [hba]
          have hnl := (hd.bb n hvm).len
          unfold maxLen at hnl
          have i0 : (0 : Int) ≤ (k : Int) := by omega
          have i1 : (k : Int) < (d.blocks.length : Int) := by omega
          have hall' : Hid _ := hall
          clear hall
          by_cases h64 : n.length = 64
          · have t3 : ((n.length : Int) != 64) = false := by simp; omega
            have hst : Hid ((d.blocks.take (k + 1)).all blOk = true) := by show _ = _; rw [dall_take_succ _ _ _ hlt, hall'.out, ← hvk.out]; simp [blOk, h64]
            clear h64
            go_wp2
            go_roundw
            case rel => exact ⟨k + 1, by omega, by go_num, hst.out, hb⟩
            case measure => simp [intOf]; omega
          · have t3 : ((n.length : Int) != 64) = true := by simp; omega
            have hst : Hid (d.blocks.all blOk = false) := all_take_false _ _ k hlt (by rw [← hvk.out]; simp [blOk, h64])
            clear h64
            go_wp2
            go_ret
            exact ⟨by rw [DD.ok_no3 hst.out]; rfl, gca hA hb⟩
        · have e : k = d.blocks.length := by omega
          subst e
          rw [List.take_length] at hall
          have hall' : Hid _ := hall
          have hX2 := hX.grow hb
          have x0 := hX2.c0
          have x1 := hX2.c1
          clear hall
          have hB := gca hA hb
          clear hb hX2
          rename World => wB
          go_wp2
          go_loopw [31] (fun i wr2 => ∃ k : Nat, k ≤ d.waiting.length ∧ i = .int .i64 k ∧ (d.waiting.take k).all wrOk = true ∧ Below wB.heap.size wB wr2) (fun i _ => d.waiting.length - (intOf i).toNat)
          case atStart => exact ⟨0, Nat.zero_le _, rfl, rfl, gre _⟩
          case round =>
            obtain ⟨k, hk, rfl, hall, hb⟩ := hrel
            by_cases hlt : k < d.waiting.length
            · obtain ⟨n, b, off, av, cv, hvk, hvm, hba, c0, c1, hva⟩ := (ha.w.grow (gca hB hb)).get hlt
              rw [hba]
              have i0 : (0 : Int) ≤ (k : Int) := by omega
              have i1 : (k : Int) < (d.waiting.length : Int) := by omega
              have hni := hd.wi n hvm
              have hnl := (hd.wb n hvm).len
              have hall2 : Hid _ := hall
              clear hall
              cases hok : wrOk n with
              | true =>
                have hst : Hid ((d.waiting.take (k + 1)).all wrOk = true) := by show _ = _; rw [dall_take_succ _ _ _ hlt, hall2.out, ← hvk.out, hok]; rfl
                have hok' : Hid _ := hok
                clear hok
                go_wp2_with (go_at_call 101; refine (writeOk_any n av cv _ hni hnl).mono ?_; rintro e w2 ⟨rfl, hb2⟩; rw [hok'.out])
                go_roundw
                case rel => exact ⟨k + 1, by omega, by go_num, hst.out, by first | exact gca hb hb2 | exact gca (gal hb _) hb2 | exact gca (gse (gse (gal hb _) (by simp) _) (by simp) _) hb2⟩
                case measure => simp [intOf]; omega
              | false =>
                have hst : Hid (d.waiting.all wrOk = false) := all_take_false _ _ k hlt (by rw [← hvk.out]; exact hok)
                have hok' : Hid _ := hok
                clear hok
                go_wp2_with (go_at_call 101; refine (writeOk_any n av cv _ hni hnl).mono ?_; rintro e w2 ⟨rfl, hb2⟩; rw [hok'.out])
                go_ret
                exact ⟨by rw [DD.ok_no4 hst.out]; rfl, by first | exact gca hB (gca hb hb2) | exact gca hB (gca (gal hb _) hb2) | exact gca hB (gca (gse (gse (gal hb _) (by simp) _) (by simp) _) hb2)⟩
            · have e : k = d.waiting.length := by omega
              subst e
              rw [List.take_length] at hall
              have hall2 : Hid _ := hall
              clear hall
              go_wp2
              go_ret
              exact ⟨by rw [DD.ok_yes h1'.out h2'.out hall'.out hall2.out]; rfl, gca hB hb⟩
    · have t2 : ((d.waiting.length : Int) > 200) := by omega
      have hst : Hid _ := DD.ok_no2 h2
      go_enter Try.func38, Try.ntmps38
      go_wp2
      go_ret
      exact ⟨by rw [hst.out]; rfl, gal (gre _) _⟩
  · have t1 : ((d.blocks.length : Int) != 130) = true := by simp; omega
    have hst : Hid _ := DD.ok_no1 h1
    clear h1
    go_enter Try.func38, Try.ntmps38
    go_wp2
    go_ret
    exact ⟨by rw [hst.out]; rfl, gal (gre _) _⟩

set_option maxRecDepth 100000 in
theorem specDiskOk_any (d : DD) (l : DL) (w : World) (hd : d.Ok) (ha : DAt w l d) :
    Calls Try.prog 36 #[d.val l] w fun e w' => e = .returned (.bool d.ok) ∧ Below w.heap.size w w' := by
  have hbl := hd.bl
  have hwl := hd.wl
  unfold maxLen at hbl hwl
  by_cases h1 : d.blocks.length = 130
  · have t1 : ((d.blocks.length : Int) != 130) = false := by simp; omega
    have h1' : Hid _ := h1
    clear h1
    by_cases h2 : d.waiting.length ≤ 200
    · have t2 : ¬ ((d.waiting.length : Int) > 200) := by omega
      have h2' : Hid _ := h2
      clear h2
      go_enter Try.func36, Try.ntmps36
      go_wp2
      have hA := gal (gre w) (.cells #[.slice l.ba d.blocks.length l.bc, .slice l.wa d.waiting.length l.wc] 50)
      have hX := DBox.new w d l 50
      generalize w.alloc (.cells #[.slice l.ba d.blocks.length l.bc, .slice l.wa d.waiting.length l.wc] 50) = wA at hA hX ⊢
      go_loopw [20] (fun i wr => ∃ k : Nat, k ≤ d.blocks.length ∧ i = .int .i64 k ∧ (d.blocks.take k).all blOk = true ∧ Below wA.heap.size wA wr) (fun i _ => d.blocks.length - (intOf i).toNat)
      case atStart => exact ⟨0, Nat.zero_le _, rfl, rfl, gre _⟩
      case round =>
        obtain ⟨k, hk, rfl, hall, hb⟩ := hrel
        by_cases hlt : k < d.blocks.length
        · obtain ⟨n, b, off, av, cv, hvk, hvm, hba, c0, hva⟩ := (ha.b.grow (gca hA hb)).get hlt
          rw [hba]
          have hnl := (hd.bb n hvm).len
          unfold maxLen at hnl
          have i0 : (0 : Int) ≤ (k : Int) := by omega
          have i1 : (k : Int) < (d.blocks.length : Int) := by omega
          have hall' : Hid _ := hall
          clear hall
          by_cases h64 : n.length = 64
          · have t3 : ((n.length : Int) != 64) = false := by simp; omega
            have hst : Hid ((d.blocks.take (k + 1)).all blOk = true) := by show _ = _; rw [dall_take_succ _ _ _ hlt, hall'.out, ← hvk.out]; simp [blOk, h64]
            clear h64
            go_wp2
            go_roundw
            case rel => exact ⟨k + 1, by omega, by go_num, hst.out, hb⟩
            case measure => simp [intOf]; omega
          · have t3 : ((n.length : Int) != 64) = true := by simp; omega
            have hst : Hid (d.blocks.all blOk = false) := all_take_false _ _ k hlt (by rw [← hvk.out]; simp [blOk, h64])
            clear h64
            go_wp2
            go_ret
            exact ⟨by rw [DD.ok_no3 hst.out]; rfl, gca hA hb⟩
        · have e : k = d.blocks.length := by omega
          subst e
          rw [List.take_length] at hall
          have hall' : Hid _ := hall
          have hX2 := hX.grow hb
          have x0 := hX2.c0
          have x1 := hX2.c1
          clear hall
          have hB := gca hA hb
          clear hb hX2
          rename World => wB
          go_wp2
          go_loopw [31] (fun i wr2 => ∃ k : Nat, k ≤ d.waiting.length ∧ i = .int .i64 k ∧ (d.waiting.take k).all wrOk = true ∧ Below wB.heap.size wB wr2) (fun i _ => d.waiting.length - (intOf i).toNat)
          case atStart => exact ⟨0, Nat.zero_le _, rfl, rfl, gre _⟩
          case round =>
            obtain ⟨k, hk, rfl, hall, hb⟩ := hrel
            by_cases hlt : k < d.waiting.length
            · obtain ⟨n, b, off, av, cv, hvk, hvm, hba, c0, c1, hva⟩ := (ha.w.grow (gca hB hb)).get hlt
              rw [hba]
              have i0 : (0 : Int) ≤ (k : Int) := by omega
              have i1 : (k : Int) < (d.waiting.length : Int) := by omega
              have hni := hd.wi n hvm
              have hnl := (hd.wb n hvm).len
              have hall2 : Hid _ := hall
              clear hall
              by_cases g0 : n.block < 0
              · have hst : Hid (d.waiting.all wrOk = false) := all_take_false _ _ k hlt (by rw [← hvk.out]; simp [wrOk]; omega)
                go_wp2
                go_ret
                exact ⟨by rw [DD.ok_no4 hst.out]; rfl, by first | exact gca hB hb | exact gca hB (gal hb _) | exact gca hB (gse (gse (gal hb _) (by simp) _) (by simp) _)⟩
              · by_cases g1 : n.block ≥ 130
                · have hst : Hid (d.waiting.all wrOk = false) := all_take_false _ _ k hlt (by rw [← hvk.out]; simp [wrOk]; omega)
                  go_wp2
                  go_ret
                  exact ⟨by rw [DD.ok_no4 hst.out]; rfl, by first | exact gca hB hb | exact gca hB (gal hb _) | exact gca hB (gse (gse (gal hb _) (by simp) _) (by simp) _)⟩
                · unfold maxLen at hnl
                  by_cases g2 : n.bytes.length = 64
                  · have t3 : ((n.bytes.length : Int) != 64) = false := by simp; omega
                    have hst : Hid ((d.waiting.take (k + 1)).all wrOk = true) := by show _ = _; rw [dall_take_succ _ _ _ hlt, hall2.out, ← hvk.out]; simp [wrOk, g2]; omega
                    clear g2
                    go_wp2
                    go_roundw
                    case rel => exact ⟨k + 1, by omega, by go_num, hst.out, by first | exact hb | exact gal hb _ | exact gse (gse (gal hb _) (by simp) _) (by simp) _⟩
                    case measure => simp [intOf]; omega
                  · have t3 : ((n.bytes.length : Int) != 64) = true := by simp; omega
                    have hst : Hid (d.waiting.all wrOk = false) := all_take_false _ _ k hlt (by rw [← hvk.out]; simp [wrOk, g2])
                    clear g2
                    go_wp2
                    go_ret
                    exact ⟨by rw [DD.ok_no4 hst.out]; rfl, by first | exact gca hB hb | exact gca hB (gal hb _) | exact gca hB (gse (gse (gal hb _) (by simp) _) (by simp) _)⟩
            · have e : k = d.waiting.length := by omega
              subst e
              rw [List.take_length] at hall
              have hall2 : Hid _ := hall
              clear hall
              go_wp2
              go_ret
              exact ⟨by rw [DD.ok_yes h1'.out h2'.out hall'.out hall2.out]; rfl, gca hB hb⟩
    · have t2 : ((d.waiting.length : Int) > 200) := by omega
      have hst : Hid _ := DD.ok_no2 h2
      go_enter Try.func36, Try.ntmps36
      go_wp2
      go_ret
      exact ⟨by rw [hst.out]; rfl, gal (gre _) _⟩
  · have t1 : ((d.blocks.length : Int) != 130) = true := by simp; omega
    have hst : Hid _ := DD.ok_no1 h1
    clear h1
    go_enter Try.func36, Try.ntmps36
    go_wp2
    go_ret
    exact ⟨by rw [hst.out]; rfl, gal (gre _) _⟩

end Go.Proofs.Ytobfaielocicpab

/-
  SALL: the specification's Sync and Crash. Own work.
-/
namespace Go.Proofs.Ytobfaielocicpab
open Go.RowKit

set_option maxRecDepth 100000 in
theorem info_bool : (Try.prog.info? 4).map (fun i => (i.zero, i.size, i.bytes)) = some (some (.bool false), 1, 1) := by kernel_rfl

set_option maxRecDepth 100000 in
theorem l3all_any (n : Nat) (w : World) (hn : n ≤ 1048576) :
    Calls Try.prog 107 #[.int .i64 n] w fun e w' => ∃ b, e = .returned (.slice (some ⟨b, 0, none⟩) n n) ∧ BoolsAt w' (some ⟨b, 0, none⟩) (List.replicate n true) ∧ Below w.heap.size w w' := by
  obtain ⟨i0, hi, hz0, hz1, hz2⟩ := info_parts info_bool
  have hmk : ∀ u : World, (Instr.makeSlice 67 (.int .i64 (n : Int)) (.int .i64 (n : Int))).run Try.prog u =
      .ok (.slice (some ⟨u.heap.size, 0, none⟩) n n) (u.alloc (.cells (madeCells #[.bool false] n) 4)) := fun u => by
    have h := run_make (P := Try.prog) u 67 4 i0 _ Try.underlying67 hi hz0 .i64 .i64 (n : Int) (n : Int) (by omega) (Int.le_refl _) (by rw [hz2]; omega) (by omega)
    simpa [hz1, Value.cells] using h
  go_enter Try.func107, Try.ntmps107
  go_wp2
  go_loopw [9] (fun i wr => ∃ (k : Nat) (f : Nat → Value), k ≤ n ∧ i = .int .i64 k ∧ wr.rowIs w.heap.size 4 n f ∧ (∀ j, j < k → f j = .bool true) ∧ Below w.heap.size w wr) (fun i _ => n - (intOf i).toNat)
  case atStart => exact ⟨0, _, Nat.zero_le _, rfl, rowIs_made_any _ _ _ _, fun i hi => absurd hi (Nat.not_lt_zero _), (Below.refl _ _).alloc (Nat.le_refl _) _⟩
  case round =>
    obtain ⟨k, f, hk, rfl, hrow, hin, hb⟩ := hrel
    by_cases hlt : k < n
    · have d0 := hrow.cell hlt
      have f0 := hrow.frozen
      have i0' : (0 : Int) ≤ (k : Int) := by omega
      have i1 : (k : Int) < (n : Int) := by omega
      go_wp2
      go_roundw
      case rel =>
        refine ⟨k + 1, _, by omega, by go_num, hrow.set _ _, fun j hj => ?_, hb.setCell (Nat.le_refl _) _⟩
        show (if j = k then _ else _) = _
        split
        · rfl
        · exact hin j (by omega)
      case measure => simp [intOf]; omega
    · obtain rfl : k = n := by omega
      go_wp2
      go_ret
      refine ⟨_, rfl, fun i hi => ⟨_, 0, rfl, ?_⟩, hb⟩
      have hi' : i < k := by simpa using hi
      rw [Nat.zero_add, getElem!_pos _ i hi, List.getElem_replicate, ← hin i hi']
      exact hrow.cell hi'

theorem keepOf_all {n i : Nat} (h : i < n) : keepOf (List.replicate n true) i = keepAll i := by
  simp [keepOf, keepAll, h]
theorem zero_at (w : World) : DAt w ⟨none, 0, none, 0⟩ zeroD := ⟨fun _i hi => absurd hi (Nat.not_lt_zero _), fun _i hi => absurd hi (Nat.not_lt_zero _)⟩
theorem settle_yes {d : DD} (h : d.ok = true) (keep : Nat → Bool) : d.settle keep = ⟨settleN keep d.blocks d.waiting d.waiting.length, []⟩ := if_pos h
theorem settle_no {d : DD} (h : d.ok = false) (keep : Nat → Bool) : d.settle keep = zeroD := if_neg (by rw [h]; exact Bool.false_ne_true)

end Go.Proofs.Ytobfaielocicpab

/-
  SSYNC: the specification's Sync and Crash. Own work.
-/
namespace Go.Proofs.Ytobfaielocicpab
open Go.RowKit

theorem calls_args {P : Program} {f : Nat} {a b : Array Value} {w : World} {Q : Ending → World → Prop} (h : Calls P f a w Q) (e : a = b) : Calls P f b w Q := by subst e; exact h
theorem CPost.zero {w w' : World} (h : Below w.heap.size w w') : CPost zeroD w (.returned (.agg #[.slice none 0 0, .slice none 0 0])) w' := ⟨[], [], none, 0, none, 0, rfl, rfl, rfl, SB.nil _ _, SW.nil _ _, h⟩
theorem CPost.at_ {d : DD} {w w' : World} {e : Ending} (h : CPost d w e w') : SBPost d w e w' := by
  obtain ⟨lb, lw, ba, bc, wa, wc, rfl, h1, h2, h3, h4, h5⟩ := h
  refine ⟨_, rfl, ⟨?_, ?_⟩, h5⟩
  · have := h3.at_
    rwa [h1] at this
  · have := h4.at_
    rwa [h2] at this

set_option maxRecDepth 100000 in
theorem specCrash_any (d : DD) (l : DL) (ka : Option Addr) (ks : List Bool) (kc : Nat) (w : World) (hd : d.Ok) (ha : DAt w l d) (hkl : ks.length ≤ maxLen) (hk0 : BoolsAt w ka ks) : Calls Try.prog 45 #[d.val l, .slice ka ks.length kc] w (CPost (d.settle (keepOf ks)) w) := by
  have hA := gal (gal (gre w) (.cells #[.slice l.ba d.blocks.length l.bc, .slice l.wa d.waiting.length l.wc] 50)) (.cells #[.slice none 0 0, .slice none 0 0] 50)
  have hX0 := (DBox.new w d l 50).grow (gal (gre _) (.cells #[.slice none 0 0, .slice none 0 0] 50))
  have hR0 := VB.new_at (w.alloc (.cells #[.slice l.ba d.blocks.length l.bc, .slice l.wa d.waiting.length l.wc] 50)) (.slice none 0 0) (.slice none 0 0) 50 (w.heap.size + 1) (by simp)
  cases hok : d.ok with
  | false =>
    have hok' : Hid _ := hok
    clear hok
    rw [settle_no hok'.out]
    go_enter Try.func45, Try.ntmps45
    go_wp2_with (go_at_call 36; refine (specDiskOk_any d l _ hd (ha.grow hA)).mono ?_; rintro e w2 ⟨rfl, hb2⟩; rw [hok'.out]; obtain ⟨z0, z1, zf⟩ := hR0.grow hb2)
    obtain ⟨c0, c1, K⟩ := ret2 (A := .slice none 0 0) (B := .slice none 0 0) z0 z1
    refine bodyPost_ret (v := .agg #[.slice none 0 0, .slice none 0 0]) (by simp [results, Try.results45, go_sem, c0, c1]) rfl (CPost.zero ?_)
    exact (gca hA hb2).trans (K.below (gca hA hb2).size (fun z hz e => by omega))
  | true =>
    have hok' : Hid _ := hok
    clear hok
    rw [settle_yes hok'.out]
    obtain ⟨d', hd'⟩ := hid_ex (DD.mk (settleN (keepOf ks) d.blocks d.waiting d.waiting.length) [])
    rw [← hd'.out]
    go_enter Try.func45, Try.ntmps45
    go_wp2_with (first
      | (go_at_call 36; refine (specDiskOk_any d l _ hd (ha.grow hA)).mono ?_; rintro e w2 ⟨rfl, hb2⟩; rw [hok'.out]; obtain ⟨_, x0, x1⟩ := hX0.grow hb2)
      | (go_at_call 106; refine (l3settle_any d l ka ks kc _ (DD.fit hok'.out) (ha.grow (gca hA hb2)) hkl (hk0.grow (gca hA hb2))).mono ?_; rw [← hd'.out]; rintro e w3 ⟨lb, lw, ba, bc, wa, wc, rfl, hlb, hlw, hL3, hW3, hb3⟩; obtain ⟨z0, z1, zf⟩ := (hR0.grow hb2).grow hb3))
    have hball := gca (gca hA hb2) hb3
    obtain ⟨c0, c1, K⟩ := ret2 (A := .slice ba d'.blocks.length bc) (B := .slice wa d'.waiting.length wc) z0 z1
    have hRl : w.heap.size + 1 < w2.heap.size := by have := hb2.size; simp at this; omega
    have hfL := ((hL3.set (V := w.heap.size + 1) hRl 0 (.slice ba d'.blocks.length bc)).set (V := w.heap.size + 1) hRl 1 (.slice wa d'.waiting.length wc)).le (base' := w.heap.size) (by omega)
    have hfW := ((hW3.set (V := w.heap.size + 1) hRl 0 (.slice ba d'.blocks.length bc)).set (V := w.heap.size + 1) hRl 1 (.slice wa d'.waiting.length wc)).le (base' := w.heap.size) (by omega)
    refine bodyPost_ret (v := .agg #[.slice ba d'.blocks.length bc, .slice wa d'.waiting.length wc]) (by simp [results, Try.results45, go_sem, c0, c1]) rfl ⟨lb, lw, ba, bc, wa, wc, rfl, hlb, hlw, hfL, hfW, ?_⟩
    exact hball.trans (K.below hball.size (fun z hz e => by omega))

set_option maxRecDepth 100000 in
theorem specSync_any (d : DD) (l : DL) (w : World) (hd : d.Ok) (ha : DAt w l d) : Calls Try.prog 41 #[d.val l] w (CPost (d.settle keepAll) w) := by
  have hA := gal (gal (gre w) (.cells #[.slice l.ba d.blocks.length l.bc, .slice l.wa d.waiting.length l.wc] 50)) (.cells #[.slice none 0 0, .slice none 0 0] 50)
  have hX0 := (DBox.new w d l 50).grow (gal (gre _) (.cells #[.slice none 0 0, .slice none 0 0] 50))
  have hR0 := VB.new_at (w.alloc (.cells #[.slice l.ba d.blocks.length l.bc, .slice l.wa d.waiting.length l.wc] 50)) (.slice none 0 0) (.slice none 0 0) 50 (w.heap.size + 1) (by simp)
  cases hok : d.ok with
  | false =>
    have hok' : Hid _ := hok
    clear hok
    rw [settle_no hok'.out]
    go_enter Try.func41, Try.ntmps41
    go_wp2_with (go_at_call 36; refine (specDiskOk_any d l _ hd (ha.grow hA)).mono ?_; rintro e w2 ⟨rfl, hb2⟩; rw [hok'.out]; obtain ⟨z0, z1, zf⟩ := hR0.grow hb2)
    obtain ⟨c0, c1, K⟩ := ret2 (A := .slice none 0 0) (B := .slice none 0 0) z0 z1
    refine bodyPost_ret (v := .agg #[.slice none 0 0, .slice none 0 0]) (by simp [results, Try.results41, go_sem, c0, c1]) rfl (CPost.zero ?_)
    exact (gca hA hb2).trans (K.below (gca hA hb2).size (fun z hz e => by omega))
  | true =>
    have hok' : Hid _ := hok
    clear hok
    have hsn : settleN (keepOf (List.replicate d.waiting.length true)) d.blocks d.waiting d.waiting.length = settleN keepAll d.blocks d.waiting d.waiting.length := settleN_congr _ _ _ (fun i hi => keepOf_all hi)
    rw [settle_yes hok'.out, ← hsn]
    obtain ⟨d', hd'⟩ := hid_ex (DD.mk (settleN (keepOf (List.replicate d.waiting.length true)) d.blocks d.waiting d.waiting.length) [])
    rw [← hd'.out]
    clear hsn
    go_enter Try.func41, Try.ntmps41
    go_upto_region 3 with (go_at_call 36; refine (specDiskOk_any d l _ hd (ha.grow hA)).mono ?_; rintro e w2 ⟨rfl, hb2⟩; rw [hok'.out])
    have hX2 := hX0.grow hb2
    have hR2 := hR0.grow hb2
    have hb2A := gca hA hb2
    refine wp_regionU (fun u => DBox u w.heap.size d l) 6 (by kernel_rfl) (hX2.grow (gdr (gre w2))) (fun hS0 => ?_)
    have hRd := hR2.grow (gdr (gre w2))
    have hbd := gdr hb2A
    generalize w2.drew = wd at hRd hbd hS0 ⊢
    refine anyU_take (i := 0) (v := ?_) rfl (by kernel_rfl) (by kernel_rfl) (by kernel_rfl) (by kernel_rfl) (fun _ _ _ h => h) (Or.inl ⟨by rfl, ?_⟩) hS0 ?_
    rotate_left
    · intro u hSu; obtain ⟨_, s0, s1⟩ := hSu; go_simp <;> with_reducible rfl
    simp only [Act.put, List.getElem_toArray, List.getElem_cons_zero, List.setIfInBounds_toArray, List.set_cons_zero, List.set_cons_succ]
    refine anyU_take (i := 1) (v := ?_) rfl (by kernel_rfl) (by kernel_rfl) (by kernel_rfl) (by kernel_rfl) (fun _ _ _ h => h) (Or.inl ⟨by rfl, ?_⟩) hS0 ?_
    rotate_left
    · intro u hSu; obtain ⟨_, s0, s1⟩ := hSu; go_simp <;> with_reducible rfl
    simp only [Act.put, List.getElem_toArray, List.getElem_cons_zero, List.getElem_cons_succ, List.setIfInBounds_toArray, List.set_cons_zero, List.set_cons_succ]
    refine anyU_take (i := 2) (v := ?_) rfl (by kernel_rfl) (by kernel_rfl) (by kernel_rfl) (by kernel_rfl) (fun _ _ _ h => h) (Or.inl ⟨by rfl, ?_⟩) hS0 ?_
    rotate_left
    · intro u hSu; obtain ⟨_, s0, s1⟩ := hSu; go_simp <;> with_reducible rfl
    simp only [Act.put, List.getElem_toArray, List.getElem_cons_zero, List.getElem_cons_succ, List.setIfInBounds_toArray, List.set_cons_zero, List.set_cons_succ]
    refine anyU_take (i := 3) (v := ?_) rfl (by kernel_rfl) (by kernel_rfl) (by kernel_rfl) (by kernel_rfl) (fun _ _ _ h => h) (Or.inl ⟨by rfl, ?_⟩) hS0 ?_
    rotate_left
    · intro u hSu; obtain ⟨_, s0, s1⟩ := hSu; go_simp <;> with_reducible rfl
    simp only [Act.put, List.getElem_toArray, List.getElem_cons_zero, List.getElem_cons_succ, List.setIfInBounds_toArray, List.set_cons_zero, List.set_cons_succ]
    refine anyU_one (i := 4) (by kernel_rfl) rfl (fun K hK => ?_)
    go_simp
    refine (l3all_any d.waiting.length _ (by have := (DD.fit hok'.out).wl; omega)).mono ?_
    rintro e w3 ⟨kb, rfl, hks, hb3⟩
    have hS3 := hS0.grow hb3
    refine hK.out _ _ hS3 ?_
    clear hK
    refine anyU_one (i := 5) (by kernel_rfl) rfl (fun K hK => ?_)
    go_simp
    have hll : (List.replicate d.waiting.length true).length = d.waiting.length := List.length_replicate
    refine (calls_args (l3settle_any d l (some ⟨kb, 0, none⟩) (List.replicate d.waiting.length true) d.waiting.length w3 (DD.fit hok'.out) (ha.grow (gca hbd hb3)) (by rw [hll]; exact hd.wl) hks) (by rw [hll])).mono ?_
    rw [← hd'.out]
    rintro e w4 ⟨lb, lw, ba, bc, wa, wc, rfl, hlb, hlw, hL4, hW4, hb4⟩
    have hS4 := hS3.grow hb4
    refine hK.out _ _ hS4 ?_
    clear hK
    have hR4 := (hRd.grow hb3).grow hb4
    have z0 := hR4.v0
    have z1 := hR4.v1
    have zf := hR4.vf
    refine anyU_last (by kernel_rfl) rfl (by kernel_rfl) (fun K hK => ?_)
    go_simp
    refine hK.out _ _ ?_
    clear hK
    have hball := gca (gca hbd hb3) hb4
    go_wp2
    obtain ⟨c0, c1, K⟩ := ret2 (A := .slice ba d'.blocks.length bc) (B := .slice wa d'.waiting.length wc) z0 z1
    have hRl : w.heap.size + 1 < w3.heap.size := by have := hRd.lt; have := hb3.size; omega
    have hfL := ((hL4.set (V := w.heap.size + 1) hRl 0 (.slice ba d'.blocks.length bc)).set (V := w.heap.size + 1) hRl 1 (.slice wa d'.waiting.length wc)).le (base' := w.heap.size) (by omega)
    have hfW := ((hW4.set (V := w.heap.size + 1) hRl 0 (.slice ba d'.blocks.length bc)).set (V := w.heap.size + 1) hRl 1 (.slice wa d'.waiting.length wc)).le (base' := w.heap.size) (by omega)
    refine bodyPost_ret (v := .agg #[.slice ba d'.blocks.length bc, .slice wa d'.waiting.length wc]) (by simp [results, Try.results41, go_sem, c0, c1]) rfl ⟨lb, lw, ba, bc, wa, wc, rfl, hlb, hlw, hfL, hfW, ?_⟩
    exact hball.trans (K.below hball.size (fun z hz e => by omega))

end Go.Proofs.Ytobfaielocicpab

/-
  DPOW2: the power goes, and some is kept. Own work.
-/
namespace Go.Proofs.Ytobfaielocicpab
open Go.RowKit

theorem BoolsAt.below {w w' : World} {a : Option Addr} {ks : List Bool} {p : Nat} (h : BoolsAt w a ks) (hb : Below p w w') (hp : ∀ b off, a = some ⟨b, off, none⟩ → 0 < ks.length → b < p) : BoolsAt w' a ks := fun i hi => by
  obtain ⟨b, off, ha, hc⟩ := h i hi
  exact ⟨b, off, ha, (World.cell?_of_block (w := w) (hb.block b (hp b off ha (by omega)))).trans hc⟩

set_option maxHeartbeats 4000000 in
set_option maxRecDepth 100000 in
theorem powerCrash_any (p : Nat) (bl : List (List Nat)) (pa : Option Addr) (pc : Nat) (ws : List DW) (K : Nat) (ka : Option Addr) (ks : List Bool) (kc : Nat) (w : World) (hw : ws.length ≤ 201) (hwb : ∀ x, x ∈ ws → 0 ≤ x.block ∧ x.block < 130) (hkl : ks.length ≤ maxLen) (hKp : K < p) (hKc0 : w.cell? ⟨K, 0, none⟩ = some (.slice ka ks.length kc)) (hKb0 : BoolsAt w ka ks) (hkp0 : ∀ b off, ka = some ⟨b, off, none⟩ → 0 < ks.length → b < p) (h : Dr w p bl pa pc ws (.func (.func 112) #[] #[.pointer (some ⟨K, 0, none⟩)])) :
    Calls Try.prog 113 #[.pointer (some ⟨p, 0, none⟩)] w fun e w' => e = .returned (.tuple #[]) ∧ Dr w' p (settleN (keepOf ks) bl ws ws.length) none 0 [] (.func (.func 112) #[] #[.pointer (some ⟨K, 0, none⟩)]) ∧ Below p w w' := by
  have hz65 := (zero_of_info zero_pending).1
  have x0 := h.d.ws
  have hpl0 := h.d.lt
  go_enter Try.func113, Try.ntmps113
  go_wp2
  go_loopw [9] (fun i wr => ∃ k : Nat, k ≤ ws.length ∧ i = .int .i64 k ∧ Dr wr p (settleN (keepOf ks) bl ws k) pa pc ws (.func (.func 112) #[] #[.pointer (some ⟨K, 0, none⟩)]) ∧ Below p w wr) (fun i _ => ws.length - (intOf i).toNat)
  case atStart => exact ⟨0, Nat.zero_le _, rfl, h, Below.refl _ _⟩
  case round =>
    obtain ⟨k, hk, rfl, hD, hb⟩ := hrel
    clear x0
    by_cases hlt : k < ws.length
    · obtain ⟨g, rfl, hg1, hgl, hrg⟩ := owns_pend hD.own hD.w64 hlt
      obtain ⟨n, hn⟩ := hid_ex ws[k]!
      rw [← hn.out] at hrg
      have hnm : n ∈ ws := by rw [hn.out]; exact mem_at hlt
      have hn64 : Hid (n.bytes.length = 64) := h.w64 _ hnm
      have hpl : n.pc.length = 65 := pc_length hn64.out
      have hbl64 : (bcells n.bytes).length = 64 := by rw [bcells_length]; exact hn64.out
      obtain ⟨hn0, hn1⟩ := hwb n hnm
      obtain ⟨m, hm⟩ : ∃ m : Nat, n.block = (m : Int) := ⟨n.block.toNat, by omega⟩
      have i0 : (0 : Int) ≤ (k : Int) := by omega
      have i1 : (k : Int) < (ws.length : Int) := by omega
      go_upto_region 3 with (first
        | (refine wpList_load_mid rfl 184 _ rfl g (k * 65) rfl n.pc _ hrg Try.underlying184 rfl (by rw [size_pending, hpl]) ?_)
        | (refine wpList_alloc_big rfl 184 rfl _ hz65 ?_)
        | (refine wpList_store_new rfl 184 _ _ rfl _ n.pc.toArray rfl rfl (by rw [size_pending]; simp [hpl]) (by simp [zeros, hpl]) (all_oneCell_toArray pc_one) ?_))
      have hDA := hD.grow (gal (gre wr) (.cells n.pc.toArray 184))
      have hbA : Below p w (wr.alloc (.cells n.pc.toArray 184)) := hb.alloc (by have := hD.d.lt; omega) _
      have hrn := range_new wr n.pc 184
      have hr1 : (wr.alloc (.cells n.pc.toArray 184)).rangeAt wr.heap.size 1 (bcells n.bytes) := range_drop (cs := [.int .i64 n.block]) hrn
      have hq1 : (wr.alloc (.cells n.pc.toArray 184)).cell? ⟨wr.heap.size, 0, none⟩ = some (.int .i64 (m : Int)) := by rw [← hm]; exact hrn 0 _ rfl
      have hsC : (wr.alloc (.cells n.pc.toArray 184)).heap.size = wr.heap.size + 1 := by simp
      generalize wr.alloc (.cells n.pc.toArray 184) = wC at hDA hbA hr1 hq1 hsC ⊢
      clear hrn hrg
      generalize wr.heap.size = Q at hr1 hq1 hsC hgl ⊢
      have kf := hDA.d.kf
      have hm130 : m < 130 := by omega
      have j0 : (0 : Int) ≤ (m : Int) := by omega
      have j1 : (m : Int) < 130 := by omega
      have hmt : n.block.toNat = m := by omega
      have hmt' : Hid _ := hmt
      have hm' : Hid _ := hm
      have hn0' : Hid _ := hn0
      have hn1' : Hid _ := hn1
      clear hmt hm hn0 hn1
      have hKc : wC.cell? ⟨K, 0, none⟩ = some (.slice ka ks.length kc) := (World.cell?_of_block (w := w) (hbA.block K hKp)).trans hKc0
      have hKb : BoolsAt wC ka ks := hKb0.below hbA hkp0
      cases hkp : (keepOf ks) k with
      | true =>
        have hkp' : Hid _ := hkp
        have hst : Hid (settleN (keepOf ks) bl ws (k + 1) = setB (settleN (keepOf ks) bl ws k) n) := by show _ = _; simp only [settleN]; rw [if_pos hkp, ← hn.out]
        clear hkp
        go_upto_region 4 with (go_at_call 112; refine (crashKeeps_any k K ka ks kc _ (by omega) hkl hKc hKb).mono ?_; rintro e w2 ⟨rfl, hb2⟩; obtain ⟨hD2, hb2A, hq2, hr2⟩ : Dr w2 p (settleN (keepOf ks) bl ws k) (some ⟨g, 0, none⟩) pc ws (.func (.func 112) #[] #[.pointer (some ⟨K, 0, none⟩)]) ∧ Below p w w2 ∧ w2.cell? ⟨Q, 0, none⟩ = some (.int .i64 (m : Int)) ∧ w2.rangeAt Q 1 (bcells n.bytes) := ⟨hDA.grow hb2, hbA.trans (hb2.mono (by have := hDA.d.lt; omega)), cell_later hb2 hq1, range_grow hr1 hb2⟩; rw [hkp'.out])
        refine wp_regionU (fun u => u.cell? ⟨Q, 0, none⟩ = some (.int .i64 (m : Int)) ∧ u.rangeAt Q 1 (bcells n.bytes)) 8 (by kernel_rfl) ⟨hq2, hr2⟩ (fun hS0 => ?_)
        refine anyU_take (i := 0) (v := ?_) rfl (by kernel_rfl) (by kernel_rfl) (by kernel_rfl) (by kernel_rfl) (fun _ _ _ h => h) (Or.inl ⟨by rfl, ?_⟩) hS0 ?_
        rotate_left
        · intro u hSu; obtain ⟨s0, s1⟩ := hSu; go_simp <;> with_reducible rfl
        simp only [Act.put, List.getElem_toArray, List.getElem_cons_zero, List.setIfInBounds_toArray, List.set_cons_zero, List.set_cons_succ]
        refine anyU_take (i := 1) (v := ?_) rfl (by kernel_rfl) (by kernel_rfl) (by kernel_rfl) (by kernel_rfl) (fun _ _ _ h => h) (Or.inl ⟨by rfl, ?_⟩) hS0 ?_
        rotate_left
        · intro u hSu; obtain ⟨s0, s1⟩ := hSu; go_simp <;> with_reducible rfl
        simp only [Act.put, List.getElem_toArray, List.getElem_cons_zero, List.getElem_cons_succ, List.setIfInBounds_toArray, List.set_cons_zero, List.set_cons_succ]
        refine anyU_take (i := 2) (v := ?_) rfl (by kernel_rfl) (by kernel_rfl) (by kernel_rfl) (by kernel_rfl) (fun _ _ _ h => h) (Or.inl ⟨by rfl, ?_⟩) hS0 ?_
        rotate_left
        · intro u hSu; obtain ⟨s0, s1⟩ := hSu; go_simp <;> with_reducible rfl
        simp only [Act.put, List.getElem_toArray, List.getElem_cons_zero, List.getElem_cons_succ, List.setIfInBounds_toArray, List.set_cons_zero, List.set_cons_succ]
        refine anyU_take (i := 3) (v := ?_) rfl (by kernel_rfl) (by kernel_rfl) (by kernel_rfl) (by kernel_rfl) (fun _ _ _ h => h) (Or.inl ⟨by rfl, ?_⟩) hS0 ?_
        rotate_left
        · intro u hSu; obtain ⟨s0, s1⟩ := hSu; go_simp <;> with_reducible rfl
        simp only [Act.put, List.getElem_toArray, List.getElem_cons_zero, List.getElem_cons_succ, List.setIfInBounds_toArray, List.set_cons_zero, List.set_cons_succ]
        refine anyU_take (i := 4) rfl (by kernel_rfl) (by kernel_rfl) (by kernel_rfl) (by kernel_rfl) (fun _ _ _ h => h) (yieldsIf_load_mid (by rfl) 121 (.tmp 23) rfl Q 1 (by rfl) (bcells n.bytes) _ (fun _ hS => hS.2) Try.underlying121 rfl (by rw [size_content, hbl64])) hS0 ?_
        simp only [Act.put, List.getElem_toArray, List.getElem_cons_zero, List.getElem_cons_succ, List.setIfInBounds_toArray, List.set_cons_zero, List.set_cons_succ]
        obtain ⟨s0, s1⟩ := id hS0
        refine anyU_one (i := 5) (by kernel_rfl) rfl (fun K hK => ?_)
        go_simp
        refine hK.out _ _ hS0 ?_
        clear hK
        refine anyU_one (i := 6) (by kernel_rfl) rfl (fun K hK => ?_)
        go_simp
        refine hK.out _ _ hS0 ?_
        clear hK
        refine anyU_one (i := 7) (by kernel_rfl) rfl (fun K hK => ?_)
        go_simp
        refine hK.out _ _ hS0 ?_
        clear hK
        refine anyU_last (by kernel_rfl) rfl (by kernel_rfl) (fun K hK => ?_)
        rw [if_pos (by rfl)]
        refine wp_store_mid 121 (.tmp 27) (.tmp 24) rfl p (m * 64) (bcells n.bytes).toArray (by rfl) (by rfl) (by rw [List.size_toArray, hbl64]; exact there_part (hD2.d.grow (gdr (gre w2))).th (Nat.zero_le _) (by omega)) (by rw [size_content, List.size_toArray, hbl64]) (all_oneCell_toArray cells_u8) ?_
        refine hK.out _ _ ?_
        clear hK
        simp only [Act.put, List.getElem_toArray, List.getElem_cons_zero, List.getElem_cons_succ]
        have hfin := (hD2.d.grow (gdr (gre w2))).setB (x := n) hn0'.out hn1'.out hn64.out
        rw [hmt'.out, ← hst.out] at hfin
        have hKs := Kept.setCells (p := fun z => z = p) (bcells n.bytes) (m * 64) (Kept.refl _ w2.drew) (fun _ => rfl)
        go_wp2
        go_roundw
        case rel => exact ⟨k + 1, by omega, by go_num, ⟨hfin, hKs.owns (hD2.grow (gdr (gre w2))).own (fun z hz e => by have := (hD2.own.lt z hz).1; omega), h.w64⟩, (hb2A.trans (gdr (gre w2) |>.mono (by have := hD2.d.lt; omega))).trans (hKs.below (by have := hD2.d.lt; show p ≤ w2.heap.size; omega) (fun z hz e => by omega))⟩
        case measure => simp [intOf]; omega
      | false =>
        have hkp' : Hid _ := hkp
        have hst : Hid (settleN (keepOf ks) bl ws (k + 1) = settleN (keepOf ks) bl ws k) := by show _ = _; simp only [settleN]; rw [if_neg (by rw [hkp]; exact Bool.false_ne_true)]
        clear hkp
        go_wp2_with (go_at_call 112; refine (crashKeeps_any k K ka ks kc _ (by omega) hkl hKc hKb).mono ?_; rintro e w2 ⟨rfl, hb2⟩; rw [hkp'.out])
        go_roundw
        case rel => exact ⟨k + 1, by omega, by go_num, by rw [hst.out]; exact hDA.grow hb2, hbA.trans (hb2.mono (by have := hDA.d.lt; omega))⟩
        case measure => simp [intOf]; omega
    · obtain rfl : k = ws.length := by omega
      have x0 := hD.d.ws
      have xf := hD.d.frozen (o := 8320) (by decide)
      have hfin := hD.d.setW (.slice none 0 0)
      go_wp2
      first | go_end0 | refine bodyPost_ret (results_none rfl _ _ _) rfl ?_
      exact ⟨rfl, ⟨hfin, owns_none _ _ _ _, fun x hx => (by cases hx)⟩, hb.trans ((Kept.one wr p 8320 _).below (by have := hD.d.lt; omega) (fun z hz e => by omega))⟩

end Go.Proofs.Ytobfaielocicpab

/-
  ISYNC: the program's Sync and Crash. Own work.
-/
namespace Go.Proofs.Ytobfaielocicpab
open Go.RowKit

theorem md_zero (w : World) (lo hi : Nat) : MD w lo hi ⟨none, 0, none, 0⟩ zeroD (fun _ => none) (fun _ => none) (fun _ => 0) (fun _ => 0) :=
  ⟨⟨fun h => absurd h (Nat.lt_irrefl _), fun _i hi => absurd hi (Nat.not_lt_zero _), fun _i _j _ hj => absurd hj (Nat.not_lt_zero _)⟩, ⟨fun h => absurd h (Nat.lt_irrefl _), fun _i hi => absurd hi (Nat.not_lt_zero _), fun _i _j _ hj => absurd hj (Nat.not_lt_zero _)⟩, fun _i _j hi _ => absurd hi (Nat.not_lt_zero _)⟩
theorem DPost.zero {w w' : World} (h : Below w.heap.size w w') : DPost zeroD w (.returned (.agg #[.slice none 0 0, .slice none 0 0])) w' := ⟨⟨none, 0, none, 0⟩, _, _, _, _, rfl, md_zero _ _ _, h⟩
theorem VB.below {w w' : World} {V p : Nat} {s0 s1 : Value} (h : VB w V s0 s1) (hb : Below p w w') (hV : V < p) : VB w' V s0 s1 :=
  ⟨(World.cell?_of_block (w := w) (hb.block V hV)).trans h.v0, (World.cell?_of_block (w := w) (hb.block V hV)).trans h.v1, fun o => (World.frozen?_of_block (w := w) (a := ⟨V, o, none⟩) (hb.block V hV)).trans (h.vf o)⟩

set_option maxHeartbeats 1000000 in
set_option maxRecDepth 100000 in
theorem sync_any (p : Nat) (bl : List (List Nat)) (pa : Option Addr) (pc : Nat) (ws : List DW) (kv : Value) (w : World) (hw : ws.length ≤ 201) (hwb : ∀ x, x ∈ ws → 0 ≤ x.block ∧ x.block < 130) (hDr : Dr w p bl pa pc ws kv) :
    Calls Try.prog 108 #[.pointer (some ⟨p, 0, none⟩)] w fun e w' => e = .returned (.tuple #[]) ∧ Dr w' p (settleN keepAll bl ws ws.length) none 0 [] (.func (.func 156) #[] #[]) ∧ Below p w w' := by
  have kf := hDr.d.kf
  have kz := hDr.d.frozen (o := 8321) (by decide)
  go_enter Try.func108, Try.ntmps108
  go_upto_region 1 with fail
  have hD4 := hDr.d.setK (.func (.func 156) #[] #[])
  have K4 := Kept.one w p 8321 (.func (.func 156) #[] #[])
  have hO4 := K4.owns hDr.own (fun z hz e => by have := (hDr.own.lt z hz).1; omega)
  have hDr4 : Dr (w.setCell ⟨p, 8321, none⟩ (.func (.func 156) #[] #[])) p bl pa pc ws (.func (.func 156) #[] #[]) := ⟨hD4, hO4, hDr.w64⟩
  generalize w.setCell ⟨p, 8321, none⟩ (.func (.func 156) #[] #[]) = w4 at hD4 K4 hO4 hDr4 ⊢
  clear hD4 hO4 kf kz
  go_wp2_with (go_at_call 113; refine (powerSync_any p bl pa pc ws _ hw hwb hDr4).mono ?_; rintro e w5 ⟨rfl, hDr5, hb5⟩)
  go_end0
  exact ⟨rfl, hDr5, (K4.below (B := p) (by have := hDr.d.lt; omega) (fun z hz e => by omega)).trans hb5⟩

set_option maxHeartbeats 1000000 in
set_option maxRecDepth 100000 in
theorem implSync_any (d : DD) (l : DL) (w : World) (hd : d.Ok) (ha : DAt w l d) : Calls Try.prog 42 #[d.val l] w (DPost (d.settle keepAll) w) := by
  have hA := gal (gal (gre w) (.cells #[.slice l.ba d.blocks.length l.bc, .slice l.wa d.waiting.length l.wc] 50)) (.cells #[.slice none 0 0, .slice none 0 0] 50)
  have hX0 := (DBox.new w d l 50).grow (gal (gre _) (.cells #[.slice none 0 0, .slice none 0 0] 50))
  have hR0 := VB.new_at (w.alloc (.cells #[.slice l.ba d.blocks.length l.bc, .slice l.wa d.waiting.length l.wc] 50)) (.slice none 0 0) (.slice none 0 0) 50 (w.heap.size + 1) (by simp)
  cases hok : d.ok with
  | false =>
    have hok' : Hid _ := hok
    clear hok
    rw [settle_no hok'.out]
    go_enter Try.func42, Try.ntmps42
    go_wp2_with (go_at_call 38; refine (implDiskOk_any d l _ hd (ha.grow hA)).mono ?_; rintro e w2 ⟨rfl, hb2⟩; rw [hok'.out]; obtain ⟨z0, z1, zf⟩ := hR0.grow hb2)
    obtain ⟨c0, c1, K⟩ := ret2 (A := .slice none 0 0) (B := .slice none 0 0) z0 z1
    refine bodyPost_ret (v := .agg #[.slice none 0 0, .slice none 0 0]) (by simp [results, Try.results42, go_sem, c0, c1]) rfl (DPost.zero ?_)
    exact (gca hA hb2).trans (K.below (gca hA hb2).size (fun z hz e => by omega))
  | true =>
    have hok' : Hid _ := hok
    clear hok
    have hfit := DD.fit hok'.out
    rw [settle_yes hok'.out]
    obtain ⟨d', hd'⟩ := hid_ex (DD.mk (settleN keepAll d.blocks d.waiting d.waiting.length) [])
    rw [← hd'.out]
    go_enter Try.func42, Try.ntmps42
    go_upto_region 4 with (first
      | (go_at_call 38; refine (implDiskOk_any d l _ hd (ha.grow hA)).mono ?_; rintro e w2 ⟨rfl, hb2⟩; rw [hok'.out]; obtain ⟨_, x0, x1⟩ := hX0.grow hb2)
      | (go_at_call 104; refine (driveOf_any d l _ hfit (ha.grow (gca hA hb2))).mono ?_; rintro e w3 ⟨p, pa, pc, rfl, hp3, hDr, hb3⟩))
    have hR3 := (hR0.grow hb2).grow hb3
    have hb3A := gca (gca hA hb2) hb3
    have hRp : w.heap.size + 1 < p := by have := (hR0.grow hb2).lt; omega
    have hwp : w.heap.size ≤ p := by have := (gca hA hb2).size; omega
    go_upto_region 5 with (go_at_call 108; refine (sync_any p d.blocks pa pc d.waiting _ _ (by have := hfit.wl; omega) (fun x hx => ⟨(hfit.wb x hx).1, (hfit.wb x hx).2.1⟩) hDr).mono ?_; rintro e w5 ⟨rfl, hDr5, hb5⟩)
    have hR5 := hR3.below hb5 hRp
    have hb5A := hb3A.trans (hb5.mono hwp)
    go_upto_region 99 with (go_at_call 90; refine (disk_any p _ none 0 [] _ _ (by decide) hDr5).mono ?_; rw [← hd'.out]; rintro e w6 ⟨l6, fa, ga, fc, gc, rfl, hmd, hb6⟩; obtain ⟨z0, z1, zf⟩ := hR5.grow hb6)
    obtain ⟨c0, c1, K⟩ := ret2 (A := .slice l6.ba d'.blocks.length l6.bc) (B := .slice l6.wa d'.waiting.length l6.wc) z0 z1
    have hb6A := gca hb5A hb6
    refine bodyPost_ret (v := d'.val l6) (by simp [results, Try.results42, go_sem, c0, c1]) rfl ⟨l6, fa, ga, fc, gc, rfl, hmd.last K (by have := hR5.lt; omega) (by have := hb5A.size; omega) K.size, ?_⟩
    exact hb6A.trans (K.below hb6A.size (fun z hz e => by omega))

set_option maxHeartbeats 1000000 in
set_option maxRecDepth 100000 in
theorem implCrash_any (d : DD) (l : DL) (ka : Option Addr) (ks : List Bool) (kc : Nat) (w : World) (hd : d.Ok) (ha : DAt w l d) (hkl : ks.length ≤ maxLen) (hk0 : BoolsAt w ka ks) : Calls Try.prog 47 #[d.val l, .slice ka ks.length kc] w (DPost (d.settle (keepOf ks)) w) := by
  have hmf : ∀ (fn : Fn) (first cap : Array Value) (w : World), (Instr.makeFunc fn first cap).run Try.prog w = .ok (.func fn first cap) w := fun _ _ _ _ => rfl
  have hA := gal (gal (gal (gre w) (.cells #[.slice l.ba d.blocks.length l.bc, .slice l.wa d.waiting.length l.wc] 50)) (.cells #[.slice ka ks.length kc] 67)) (.cells #[.slice none 0 0, .slice none 0 0] 50)
  have hX0 := (DBox.new w d l 50).grow (gal (gal (gre _) (.cells #[.slice ka ks.length kc] 67)) (.cells #[.slice none 0 0, .slice none 0 0] 50))
  have hR0 := VB.new_at ((w.alloc (.cells #[.slice l.ba d.blocks.length l.bc, .slice l.wa d.waiting.length l.wc] 50)).alloc (.cells #[.slice ka ks.length kc] 67)) (.slice none 0 0) (.slice none 0 0) 50 (w.heap.size + 1 + 1) (by simp)
  have hK0 : (((w.alloc (.cells #[.slice l.ba d.blocks.length l.bc, .slice l.wa d.waiting.length l.wc] 50)).alloc (.cells #[.slice ka ks.length kc] 67)).alloc (.cells #[.slice none 0 0, .slice none 0 0] 50)).cell? ⟨w.heap.size + 1, 0, none⟩ = some (.slice ka ks.length kc) := by
    have e1 : (w.alloc (.cells #[.slice l.ba d.blocks.length l.bc, .slice l.wa d.waiting.length l.wc] 50)).heap.size = w.heap.size + 1 := by simp
    refine cell_later (gal (gre _) _) ?_
    rw [← e1]; simp
  have hkf0 : ∀ b off, ka = some ⟨b, off, none⟩ → 0 < ks.length → b < w.heap.size := fun b off e h0 => by
    obtain ⟨b', off', e', hc'⟩ := hk0 0 h0
    have h1 := World.block_lt_of_cell? _ _ hc'
    rw [e] at e'
    have h2 := congrArg (fun q => q.map Addr.block) e'
    simp at h1 h2
    omega
  cases hok : d.ok with
  | false =>
    have hok' : Hid _ := hok
    clear hok
    rw [settle_no hok'.out]
    go_enter Try.func47, Try.ntmps47
    go_wp2_with (go_at_call 38; refine (implDiskOk_any d l _ hd (ha.grow hA)).mono ?_; rintro e w2 ⟨rfl, hb2⟩; rw [hok'.out]; obtain ⟨z0, z1, zf⟩ := hR0.grow hb2)
    obtain ⟨c0, c1, K⟩ := ret2 (A := .slice none 0 0) (B := .slice none 0 0) z0 z1
    refine bodyPost_ret (v := .agg #[.slice none 0 0, .slice none 0 0]) (by simp [results, Try.results47, go_sem, c0, c1]) rfl (DPost.zero ?_)
    exact (gca hA hb2).trans (K.below (gca hA hb2).size (fun z hz e => by omega))
  | true =>
    have hok' : Hid _ := hok
    clear hok
    have hfit := DD.fit hok'.out
    rw [settle_yes hok'.out]
    obtain ⟨d', hd'⟩ := hid_ex (DD.mk (settleN (keepOf ks) d.blocks d.waiting d.waiting.length) [])
    rw [← hd'.out]
    go_enter Try.func47, Try.ntmps47
    go_upto_region 4 with (first
      | (go_at_call 38; refine (implDiskOk_any d l _ hd (ha.grow hA)).mono ?_; rintro e w2 ⟨rfl, hb2⟩; rw [hok'.out]; obtain ⟨_, x0, x1⟩ := hX0.grow hb2)
      | (go_at_call 104; refine (driveOf_any d l _ hfit (ha.grow (gca hA hb2))).mono ?_; rintro e w3 ⟨p, pa, pc, rfl, hp3, hDr, hb3⟩))
    have hR3 := (hR0.grow hb2).grow hb3
    have hb3A := gca (gca hA hb2) hb3
    have hRp : w.heap.size + 1 + 1 < p := by have := (hR0.grow hb2).lt; omega
    have hwp : w.heap.size ≤ p := by have := (gca hA hb2).size; omega
    have hkp : ∀ b off, ka = some ⟨b, off, none⟩ → 0 < ks.length → b < p := fun b off e h0 => Nat.lt_of_lt_of_le (hkf0 b off e h0) hwp
    have kf := hDr.d.kf
    have kz := hDr.d.frozen (o := 8321) (by decide)
    have hKc3 := cell_later hb3 (cell_later hb2 hK0)
    have hKb3 := hk0.grow hb3A
    go_upto_region 5 with fail
    have hD4 := hDr.d.setK (.func (.func 112) #[] #[.pointer (some ⟨w.heap.size + 1, 0, none⟩)])
    have K4 := Kept.one w3 p 8321 (.func (.func 112) #[] #[.pointer (some ⟨w.heap.size + 1, 0, none⟩)])
    have hO4 := K4.owns hDr.own (fun z hz e => by have := (hDr.own.lt z hz).1; omega)
    have hR4 := hR3.kept K4 (by omega)
    have hb4 := hb3A.trans (K4.below hb3A.size (fun z hz e => by omega))
    have hDr4 : Dr (w3.setCell ⟨p, 8321, none⟩ (.func (.func 112) #[] #[.pointer (some ⟨w.heap.size + 1, 0, none⟩)])) p d.blocks pa pc d.waiting (.func (.func 112) #[] #[.pointer (some ⟨w.heap.size + 1, 0, none⟩)]) := ⟨hD4, hO4, hDr.w64⟩
    have hKc4 := K4.cell hKc3 (by omega)
    have hKb4 : BoolsAt _ ka ks := hKb3.below (K4.below (B := p) (Nat.le_of_lt hDr.d.lt) (fun z hz e => by omega)) hkp
    generalize w3.setCell ⟨p, 8321, none⟩ (.func (.func 112) #[] #[.pointer (some ⟨w.heap.size + 1, 0, none⟩)]) = w4 at hD4 K4 hO4 hR4 hb4 hDr4 hKc4 hKb4 ⊢
    clear hD4 K4 hO4 hDr kf kz hR3 hb3A
    go_upto_region 6 with (go_at_call 113; refine (powerCrash_any p d.blocks pa pc d.waiting (w.heap.size + 1) ka ks kc _ (by have := hfit.wl; omega) (fun x hx => ⟨(hfit.wb x hx).1, (hfit.wb x hx).2.1⟩) hkl (by omega) hKc4 hKb4 hkp hDr4).mono ?_; rintro e w5 ⟨rfl, hDr5, hb5⟩)
    have hR5 := hR4.below hb5 hRp
    have hb5A := hb4.trans (hb5.mono hwp)
    go_upto_region 99 with (go_at_call 90; refine (disk_any p _ none 0 [] _ _ (by decide) hDr5).mono ?_; rw [← hd'.out]; rintro e w6 ⟨l6, fa, ga, fc, gc, rfl, hmd, hb6⟩; obtain ⟨z0, z1, zf⟩ := hR5.grow hb6)
    obtain ⟨c0, c1, K⟩ := ret2 (A := .slice l6.ba d'.blocks.length l6.bc) (B := .slice l6.wa d'.waiting.length l6.wc) z0 z1
    have hb6A := gca hb5A hb6
    refine bodyPost_ret (v := d'.val l6) (by simp [results, Try.results47, go_sem, c0, c1]) rfl ⟨l6, fa, ga, fc, gc, rfl, hmd.last K (by have := hR5.lt; omega) (by have := hb5A.size; omega) K.size, ?_⟩
    exact hb6A.trans (K.below hb6A.size (fun z hz e => by omega))

end Go.Proofs.Ytobfaielocicpab

/-
  DEQ: the laws' comparisons of disks, where both are the same. Own work.
-/
namespace Go.Proofs.Ytobfaielocicpab
open Go.RowKit

set_option maxRecDepth 100000 in
theorem eqByteSS_same (a a' : Option Addr) (cap cap' : Nat) (ns : List (List Nat)) (w : World) (hl : ns.length ≤ maxLen) (hv : ∀ n, n ∈ ns → n.length ≤ maxLen) (ha : BlksAt w a ns) (ha' : BlksAt w a' ns) :
    Calls Try.prog 91 #[.slice a ns.length cap, .slice a' ns.length cap'] w fun e w' => e = .returned (.bool true) ∧ Below w.heap.size w w' := by
  unfold maxLen at hl
  have hne : ((ns.length : Int) != (ns.length : Int)) = false := by simp
  go_enter Try.func91, Try.ntmps91
  go_wp2
  go_loopw [5] (fun i wr => ∃ k : Nat, k ≤ ns.length ∧ i = .int .i64 k ∧ Below w.heap.size w wr) (fun i _ => ns.length - (intOf i).toNat)
  case atStart => exact ⟨0, Nat.zero_le _, rfl, Below.refl _ _⟩
  case round =>
    obtain ⟨k, hk, rfl, hb⟩ := hrel
    by_cases hlt : k < ns.length
    · obtain ⟨n, b, off, av, cv, hvk, hvm, rfl, c0, hva⟩ := (ha.grow hb).get hlt
      obtain ⟨n', b', off', av', cv', hvk', hvm', rfl, d0, hva'⟩ := (ha'.grow hb).get hlt
      have e : n' = n := by rw [hvk.out, hvk'.out]
      subst e
      have i0 : (0 : Int) ≤ (k : Int) := by omega
      have i1 : (k : Int) < (ns.length : Int) := by omega
      have hvl := hv n' hvm
      have hv1 : BytesAt wr.drew av n' := hva.grow (gdr (gre _))
      have hv2 : BytesAt wr.drew av' n' := hva'.grow (gdr (gre _))
      clear ha ha' hvk hvk' hva hva'
      go_wp2
      go_region_held3 (fun w' => w'.cell? ⟨b, off + k, none⟩ = some (.slice av n'.length cv) ∧ w'.cell? ⟨b', off' + k, none⟩ = some (.slice av' n'.length cv')) (first | go_keep | (go_split_ands; refine ⟨?_, ?_⟩ <;> exact cell_later hb' (by assumption))) ((go_at_call 19; refine (eqByteS_same av av' n' cv cv' _ hvl hv1 hv2).mono ?_; rintro e w' ⟨rfl, hb'⟩))
      go_wp2
      go_roundw
      case rel => exact ⟨k + 1, by omega, by go_num, gca (gdr hb) hb'⟩
      case measure => simp [intOf]; omega
    · go_wp2
      go_ret
      exact ⟨rfl, hb⟩

set_option maxRecDepth 100000 in
theorem eqWrite_same (x : DW) (a a' : Option Addr) (cap cap' : Nat) (w : World) (hl : x.bytes.length ≤ maxLen) (ha : BytesAt w a x.bytes) (ha' : BytesAt w a' x.bytes) :
    Calls Try.prog 151 #[x.val a cap, x.val a' cap'] w fun e w' => e = .returned (.bool true) ∧ Below w.heap.size w w' := by
  have hne : ((x.block : Int) != (x.block : Int)) = false := by simp
  go_enter Try.func151, Try.ntmps151
  go_wp2_with (go_at_call 19; refine (eqByteS_same a a' x.bytes cap cap' _ hl (ha.grow (gal (gal (gre _) _) _)) (ha'.grow (gal (gal (gre _) _) _))).mono ?_; rintro e w' ⟨rfl, hb'⟩)
  go_ret
  exact ⟨rfl, gca (gal (gal (gre _) _) _) hb'⟩

set_option maxRecDepth 100000 in
theorem eqWriteS_same (a a' : Option Addr) (cap cap' : Nat) (ns : List DW) (w : World) (hl : ns.length ≤ maxLen) (hv : ∀ n, n ∈ ns → n.bytes.length ≤ maxLen) (ha : WrsAt w a ns) (ha' : WrsAt w a' ns) :
    Calls Try.prog 92 #[.slice a ns.length cap, .slice a' ns.length cap'] w fun e w' => e = .returned (.bool true) ∧ Below w.heap.size w w' := by
  unfold maxLen at hl
  have hne : ((ns.length : Int) != (ns.length : Int)) = false := by simp
  go_enter Try.func92, Try.ntmps92
  go_wp2
  go_loopw [5] (fun i wr => ∃ k : Nat, k ≤ ns.length ∧ i = .int .i64 k ∧ Below w.heap.size w wr) (fun i _ => ns.length - (intOf i).toNat)
  case atStart => exact ⟨0, Nat.zero_le _, rfl, Below.refl _ _⟩
  case round =>
    obtain ⟨k, hk, rfl, hb⟩ := hrel
    by_cases hlt : k < ns.length
    · obtain ⟨n, b, off, av, cv, hvk, hvm, rfl, c0, c1, hva⟩ := (ha.grow hb).get hlt
      obtain ⟨n', b', off', av', cv', hvk', hvm', rfl, d0, d1, hva'⟩ := (ha'.grow hb).get hlt
      have e : n' = n := by rw [hvk.out, hvk'.out]
      subst e
      have i0 : (0 : Int) ≤ (k : Int) := by omega
      have i1 : (k : Int) < (ns.length : Int) := by omega
      have hvl := hv n' hvm
      have hv1 : BytesAt wr.drew av n'.bytes := hva.grow (gdr (gre _))
      have hv2 : BytesAt wr.drew av' n'.bytes := hva'.grow (gdr (gre _))
      clear ha ha' hvk hvk' hva hva'
      go_wp2
      go_region_held3 (fun w' => w'.cell? ⟨b, off + k * 2, none⟩ = some (.int .i64 n'.block) ∧ w'.cell? ⟨b, off + k * 2 + 1, none⟩ = some (.slice av n'.bytes.length cv) ∧ w'.cell? ⟨b', off' + k * 2, none⟩ = some (.int .i64 n'.block) ∧ w'.cell? ⟨b', off' + k * 2 + 1, none⟩ = some (.slice av' n'.bytes.length cv')) (first | go_keep | (go_split_ands; refine ⟨?_, ?_, ?_, ?_⟩ <;> exact cell_later hb' (by assumption))) ((go_at_call 151; refine (eqWrite_same n' av av' cv cv' _ hvl hv1 hv2).mono ?_; rintro e w' ⟨rfl, hb'⟩))
      go_wp2
      go_roundw
      case rel => exact ⟨k + 1, by omega, by go_num, gca (gdr hb) hb'⟩
      case measure => simp [intOf]; omega
    · go_wp2
      go_ret
      exact ⟨rfl, hb⟩

set_option maxRecDepth 100000 in
theorem eqDisk_same (d : DD) (l l' : DL) (w : World) (hd : d.Ok) (ha : DAt w l d) (ha' : DAt w l' d) :
    Calls Try.prog 32 #[d.val l, d.val l'] w fun e w' => e = .returned (.bool true) ∧ Below w.heap.size w w' := by
  have hA := gal (gal (gre w) (.cells #[.slice l.ba d.blocks.length l.bc, .slice l.wa d.waiting.length l.wc] 50)) (.cells #[.slice l'.ba d.blocks.length l'.bc, .slice l'.wa d.waiting.length l'.wc] 50)
  go_enter Try.func32, Try.ntmps32
  go_wp2_with (first
    | (go_at_call 91; refine (eqByteSS_same l.ba l'.ba l.bc l'.bc d.blocks _ hd.bl (fun n hn => (hd.bb n hn).len) (ha.b.grow hA) (ha'.b.grow hA)).mono ?_; rintro e w' ⟨rfl, hb'⟩; obtain ⟨hc, hf⟩ := bcell hb')
    | (go_at_call 92; refine (eqWriteS_same l.wa l'.wa l.wc l'.wc d.waiting _ hd.wl (fun n hn => (hd.wb n hn).len) (ha.w.grow (gca hA hb')) (ha'.w.grow (gca hA hb'))).mono ?_; rintro e w'' ⟨rfl, hb''⟩))
  go_ret
  exact ⟨rfl, gca (gca hA hb') hb''⟩

end Go.Proofs.Ytobfaielocicpab
