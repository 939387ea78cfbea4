/-
  DOK2: both DiskOk, walked. Own work.
-/
import Derived.Test.YthjddpkegooobabDOk
namespace Go.Proofs.Ythjddpkegooobab
open Go.RowKit

set_option maxRecDepth 100000 in
theorem writeOk_any (x : DW) (a : Option Addr) (cap : Nat) (w : World) (hi : I64 x.block) (_hl : x.bytes.length ≤ maxLen) :
    Calls Try.prog 101 #[x.val a cap] w fun e w' => e = .returned (.bool (wrOk x)) ∧ Below w.heap.size w w' := by
  obtain ⟨p, hp⟩ : ∃ p, Hid (p = (decide (0 ≤ x.block) && decide (x.block < 130))) := ⟨_, rfl⟩
  have hw : Hid (wrOk x = (p && decide (x.bytes.length = 64))) := by show _ = _; rw [hp.out]; rfl
  cases p with
  | false =>
    go_enter Try.func101, Try.ntmps101
    go_wp2_with (go_at_call 110; refine (hasBlock_any x.block _ hi).mono ?_; rintro e w' ⟨rfl, hb'⟩; rw [← hp.out])
    go_ret
    exact ⟨by rw [hw.out]; rfl, gca (gal (gre _) _) hb'⟩
  | true =>
    by_cases h : x.bytes.length = 64
    · have h' : ((x.bytes.length : Int) == 64) = true := by simp; omega
      have hh : Hid _ := h
      clear h
      go_enter Try.func101, Try.ntmps101
      go_wp2_with (go_at_call 110; refine (hasBlock_any x.block _ hi).mono ?_; rintro e w' ⟨rfl, hb'⟩; rw [← hp.out]; obtain ⟨hc, hf⟩ := bcell hb')
      go_ret
      exact ⟨by rw [hw.out]; simp [hh.out], gca (gal (gre _) _) hb'⟩
    · have h' : ((x.bytes.length : Int) == 64) = false := by simp; omega
      have hh : Hid _ := h
      clear h
      go_enter Try.func101, Try.ntmps101
      go_wp2_with (go_at_call 110; refine (hasBlock_any x.block _ hi).mono ?_; rintro e w' ⟨rfl, hb'⟩; rw [← hp.out]; obtain ⟨hc, hf⟩ := bcell hb')
      go_ret
      exact ⟨by rw [hw.out, decide_eq_false hh.out]; rfl, gca (gal (gre _) _) hb'⟩

theorem DD.ok_no1 {d : DD} (h : d.blocks.length ≠ 130) : d.ok = false := by simp [DD.ok, h]
theorem DD.ok_no2 {d : DD} (h : ¬ d.waiting.length ≤ 200) : d.ok = false := by simp [DD.ok, h]
theorem DD.ok_no3 {d : DD} (h : d.blocks.all blOk = false) : d.ok = false := by simp [DD.ok, h]
theorem DD.ok_no4 {d : DD} (h : d.waiting.all wrOk = false) : d.ok = false := by simp [DD.ok, h]
theorem DD.ok_yes {d : DD} (h1 : d.blocks.length = 130) (h2 : d.waiting.length ≤ 200) (h3 : d.blocks.all blOk = true) (h4 : d.waiting.all wrOk = true) : d.ok = true := by simp [DD.ok, h1, h2, h3, h4]

set_option maxRecDepth 100000 in
theorem implDiskOk_any (d : DD) (l : DL) (w : World) (hd : d.Ok) (ha : DAt w l d) :
    Calls Try.prog 38 #[d.val l] w fun e w' => e = .returned (.bool d.ok) ∧ Below w.heap.size w w' := by
  have hbl := hd.bl
  have hwl := hd.wl
  unfold maxLen at hbl hwl
  by_cases h1 : d.blocks.length = 130
  · have t1 : ((d.blocks.length : Int) != 130) = false := by simp; omega
    have h1' : Hid _ := h1
    clear h1
    by_cases h2 : d.waiting.length ≤ 200
    · have t2 : ¬ ((d.waiting.length : Int) > 200) := by omega
      have h2' : Hid _ := h2
      clear h2
      go_enter Try.func38, Try.ntmps38
      go_wp2
      have hA := gal (gre w) (.cells #[.slice l.ba d.blocks.length l.bc, .slice l.wa d.waiting.length l.wc] 50)
      have hX := DBox.new w d l 50
      generalize w.alloc (.cells #[.slice l.ba d.blocks.length l.bc, .slice l.wa d.waiting.length l.wc] 50) = wA at hA hX ⊢
      go_loopw [20] (fun i wr => ∃ k : Nat, k ≤ d.blocks.length ∧ i = .int .i64 k ∧ (d.blocks.take k).all blOk = true ∧ Below wA.heap.size wA wr) (fun i _ => d.blocks.length - (intOf i).toNat)
      case atStart => exact ⟨0, Nat.zero_le _, rfl, rfl, gre _⟩
      case round =>
        obtain ⟨k, hk, rfl, hall, hb⟩ := hrel
        by_cases hlt : k < d.blocks.length
        · obtain ⟨n, b, off, av, cv, hvk, hvm, hba, c0, hva⟩ := (ha.b.grow (gca hA hb)).get hlt
          rw [hba]
          have hnl := (hd.bb n hvm).len
          unfold maxLen at hnl
          have i0 : (0 : Int) ≤ (k : Int) := by omega
          have i1 : (k : Int) < (d.blocks.length : Int) := by omega
          have hall' : Hid _ := hall
          clear hall
          by_cases h64 : n.length = 64
          · have t3 : ((n.length : Int) != 64) = false := by simp; omega
            have hst : Hid ((d.blocks.take (k + 1)).all blOk = true) := by show _ = _; rw [dall_take_succ _ _ _ hlt, hall'.out, ← hvk.out]; simp [blOk, h64]
            clear h64
            go_wp2
            go_roundw
            case rel => exact ⟨k + 1, by omega, by go_num, hst.out, hb⟩
            case measure => simp [intOf]; omega
          · have t3 : ((n.length : Int) != 64) = true := by simp; omega
            have hst : Hid (d.blocks.all blOk = false) := all_take_false _ _ k hlt (by rw [← hvk.out]; simp [blOk, h64])
            clear h64
            go_wp2
            go_ret
            exact ⟨by rw [DD.ok_no3 hst.out]; rfl, gca hA hb⟩
        · have e : k = d.blocks.length := by omega
          subst e
          rw [List.take_length] at hall
          have hall' : Hid _ := hall
          have hX2 := hX.grow hb
          have x0 := hX2.c0
          have x1 := hX2.c1
          clear hall
          have hB := gca hA hb
          clear hb hX2
          rename World => wB
          go_wp2
          go_loopw [31] (fun i wr2 => ∃ k : Nat, k ≤ d.waiting.length ∧ i = .int .i64 k ∧ (d.waiting.take k).all wrOk = true ∧ Below wB.heap.size wB wr2) (fun i _ => d.waiting.length - (intOf i).toNat)
          case atStart => exact ⟨0, Nat.zero_le _, rfl, rfl, gre _⟩
          case round =>
            obtain ⟨k, hk, rfl, hall, hb⟩ := hrel
            by_cases hlt : k < d.waiting.length
            · obtain ⟨n, b, off, av, cv, hvk, hvm, hba, c0, c1, hva⟩ := (ha.w.grow (gca hB hb)).get hlt
              rw [hba]
              have i0 : (0 : Int) ≤ (k : Int) := by omega
              have i1 : (k : Int) < (d.waiting.length : Int) := by omega
              have hni := hd.wi n hvm
              have hnl := (hd.wb n hvm).len
              have hall2 : Hid _ := hall
              clear hall
              cases hok : wrOk n with
              | true =>
                have hst : Hid ((d.waiting.take (k + 1)).all wrOk = true) := by show _ = _; rw [dall_take_succ _ _ _ hlt, hall2.out, ← hvk.out, hok]; rfl
                have hok' : Hid _ := hok
                clear hok
                go_wp2_with (go_at_call 101; refine (writeOk_any n av cv _ hni hnl).mono ?_; rintro e w2 ⟨rfl, hb2⟩; rw [hok'.out])
                go_roundw
                case rel => exact ⟨k + 1, by omega, by go_num, hst.out, by first | exact gca hb hb2 | exact gca (gal hb _) hb2 | exact gca (gse (gse (gal hb _) (by simp) _) (by simp) _) hb2⟩
                case measure => simp [intOf]; omega
              | false =>
                have hst : Hid (d.waiting.all wrOk = false) := all_take_false _ _ k hlt (by rw [← hvk.out]; exact hok)
                have hok' : Hid _ := hok
                clear hok
                go_wp2_with (go_at_call 101; refine (writeOk_any n av cv _ hni hnl).mono ?_; rintro e w2 ⟨rfl, hb2⟩; rw [hok'.out])
                go_ret
                exact ⟨by rw [DD.ok_no4 hst.out]; rfl, by first | exact gca hB (gca hb hb2) | exact gca hB (gca (gal hb _) hb2) | exact gca hB (gca (gse (gse (gal hb _) (by simp) _) (by simp) _) hb2)⟩
            · have e : k = d.waiting.length := by omega
              subst e
              rw [List.take_length] at hall
              have hall2 : Hid _ := hall
              clear hall
              go_wp2
              go_ret
              exact ⟨by rw [DD.ok_yes h1'.out h2'.out hall'.out hall2.out]; rfl, gca hB hb⟩
    · have t2 : ((d.waiting.length : Int) > 200) := by omega
      have hst : Hid _ := DD.ok_no2 h2
      go_enter Try.func38, Try.ntmps38
      go_wp2
      go_ret
      exact ⟨by rw [hst.out]; rfl, gal (gre _) _⟩
  · have t1 : ((d.blocks.length : Int) != 130) = true := by simp; omega
    have hst : Hid _ := DD.ok_no1 h1
    clear h1
    go_enter Try.func38, Try.ntmps38
    go_wp2
    go_ret
    exact ⟨by rw [hst.out]; rfl, gal (gre _) _⟩

set_option maxRecDepth 100000 in
theorem specDiskOk_any (d : DD) (l : DL) (w : World) (hd : d.Ok) (ha : DAt w l d) :
    Calls Try.prog 36 #[d.val l] w fun e w' => e = .returned (.bool d.ok) ∧ Below w.heap.size w w' := by
  have hbl := hd.bl
  have hwl := hd.wl
  unfold maxLen at hbl hwl
  by_cases h1 : d.blocks.length = 130
  · have t1 : ((d.blocks.length : Int) != 130) = false := by simp; omega
    have h1' : Hid _ := h1
    clear h1
    by_cases h2 : d.waiting.length ≤ 200
    · have t2 : ¬ ((d.waiting.length : Int) > 200) := by omega
      have h2' : Hid _ := h2
      clear h2
      go_enter Try.func36, Try.ntmps36
      go_wp2
      have hA := gal (gre w) (.cells #[.slice l.ba d.blocks.length l.bc, .slice l.wa d.waiting.length l.wc] 50)
      have hX := DBox.new w d l 50
      generalize w.alloc (.cells #[.slice l.ba d.blocks.length l.bc, .slice l.wa d.waiting.length l.wc] 50) = wA at hA hX ⊢
      go_loopw [20] (fun i wr => ∃ k : Nat, k ≤ d.blocks.length ∧ i = .int .i64 k ∧ (d.blocks.take k).all blOk = true ∧ Below wA.heap.size wA wr) (fun i _ => d.blocks.length - (intOf i).toNat)
      case atStart => exact ⟨0, Nat.zero_le _, rfl, rfl, gre _⟩
      case round =>
        obtain ⟨k, hk, rfl, hall, hb⟩ := hrel
        by_cases hlt : k < d.blocks.length
        · obtain ⟨n, b, off, av, cv, hvk, hvm, hba, c0, hva⟩ := (ha.b.grow (gca hA hb)).get hlt
          rw [hba]
          have hnl := (hd.bb n hvm).len
          unfold maxLen at hnl
          have i0 : (0 : Int) ≤ (k : Int) := by omega
          have i1 : (k : Int) < (d.blocks.length : Int) := by omega
          have hall' : Hid _ := hall
          clear hall
          by_cases h64 : n.length = 64
          · have t3 : ((n.length : Int) != 64) = false := by simp; omega
            have hst : Hid ((d.blocks.take (k + 1)).all blOk = true) := by show _ = _; rw [dall_take_succ _ _ _ hlt, hall'.out, ← hvk.out]; simp [blOk, h64]
            clear h64
            go_wp2
            go_roundw
            case rel => exact ⟨k + 1, by omega, by go_num, hst.out, hb⟩
            case measure => simp [intOf]; omega
          · have t3 : ((n.length : Int) != 64) = true := by simp; omega
            have hst : Hid (d.blocks.all blOk = false) := all_take_false _ _ k hlt (by rw [← hvk.out]; simp [blOk, h64])
            clear h64
            go_wp2
            go_ret
            exact ⟨by rw [DD.ok_no3 hst.out]; rfl, gca hA hb⟩
        · have e : k = d.blocks.length := by omega
          subst e
          rw [List.take_length] at hall
          have hall' : Hid _ := hall
          have hX2 := hX.grow hb
          have x0 := hX2.c0
          have x1 := hX2.c1
          clear hall
          have hB := gca hA hb
          clear hb hX2
          rename World => wB
          go_wp2
          go_loopw [31] (fun i wr2 => ∃ k : Nat, k ≤ d.waiting.length ∧ i = .int .i64 k ∧ (d.waiting.take k).all wrOk = true ∧ Below wB.heap.size wB wr2) (fun i _ => d.waiting.length - (intOf i).toNat)
          case atStart => exact ⟨0, Nat.zero_le _, rfl, rfl, gre _⟩
          case round =>
            obtain ⟨k, hk, rfl, hall, hb⟩ := hrel
            by_cases hlt : k < d.waiting.length
            · obtain ⟨n, b, off, av, cv, hvk, hvm, hba, c0, c1, hva⟩ := (ha.w.grow (gca hB hb)).get hlt
              rw [hba]
              have i0 : (0 : Int) ≤ (k : Int) := by omega
              have i1 : (k : Int) < (d.waiting.length : Int) := by omega
              have hni := hd.wi n hvm
              have hnl := (hd.wb n hvm).len
              have hall2 : Hid _ := hall
              clear hall
              by_cases g0 : n.block < 0
              · have hst : Hid (d.waiting.all wrOk = false) := all_take_false _ _ k hlt (by rw [← hvk.out]; simp [wrOk]; omega)
                go_wp2
                go_ret
                exact ⟨by rw [DD.ok_no4 hst.out]; rfl, by first | exact gca hB hb | exact gca hB (gal hb _) | exact gca hB (gse (gse (gal hb _) (by simp) _) (by simp) _)⟩
              · by_cases g1 : n.block ≥ 130
                · have hst : Hid (d.waiting.all wrOk = false) := all_take_false _ _ k hlt (by rw [← hvk.out]; simp [wrOk]; omega)
                  go_wp2
                  go_ret
                  exact ⟨by rw [DD.ok_no4 hst.out]; rfl, by first | exact gca hB hb | exact gca hB (gal hb _) | exact gca hB (gse (gse (gal hb _) (by simp) _) (by simp) _)⟩
                · unfold maxLen at hnl
                  by_cases g2 : n.bytes.length = 64
                  · have t3 : ((n.bytes.length : Int) != 64) = false := by simp; omega
                    have hst : Hid ((d.waiting.take (k + 1)).all wrOk = true) := by show _ = _; rw [dall_take_succ _ _ _ hlt, hall2.out, ← hvk.out]; simp [wrOk, g2]; omega
                    clear g2
                    go_wp2
                    go_roundw
                    case rel => exact ⟨k + 1, by omega, by go_num, hst.out, by first | exact hb | exact gal hb _ | exact gse (gse (gal hb _) (by simp) _) (by simp) _⟩
                    case measure => simp [intOf]; omega
                  · have t3 : ((n.bytes.length : Int) != 64) = true := by simp; omega
                    have hst : Hid (d.waiting.all wrOk = false) := all_take_false _ _ k hlt (by rw [← hvk.out]; simp [wrOk, g2])
                    clear g2
                    go_wp2
                    go_ret
                    exact ⟨by rw [DD.ok_no4 hst.out]; rfl, by first | exact gca hB hb | exact gca hB (gal hb _) | exact gca hB (gse (gse (gal hb _) (by simp) _) (by simp) _)⟩
            · have e : k = d.waiting.length := by omega
              subst e
              rw [List.take_length] at hall
              have hall2 : Hid _ := hall
              clear hall
              go_wp2
              go_ret
              exact ⟨by rw [DD.ok_yes h1'.out h2'.out hall'.out hall2.out]; rfl, gca hB hb⟩
    · have t2 : ((d.waiting.length : Int) > 200) := by omega
      have hst : Hid _ := DD.ok_no2 h2
      go_enter Try.func36, Try.ntmps36
      go_wp2
      go_ret
      exact ⟨by rw [hst.out]; rfl, gal (gre _) _⟩
  · have t1 : ((d.blocks.length : Int) != 130) = true := by simp; omega
    have hst : Hid _ := DD.ok_no1 h1
    clear h1
    go_enter Try.func36, Try.ntmps36
    go_wp2
    go_ret
    exact ⟨by rw [hst.out]; rfl, gal (gre _) _⟩

end Go.Proofs.Ythjddpkegooobab
