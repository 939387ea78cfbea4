/-
  SREAD: the specification's Read. Own work.
-/
import Derived.Test.YtkefmpegkgpbnabSCopy
import Derived.Test.YtkefmpegkgpbnabDOk2
import Derived.Test.YtkefmpegkgpbnabDSem
namespace Go.Proofs.Ytkefmpegkgpbnab
open Go.RowKit

/-- bytes that are handed back -/
def BPost (ys : List Nat) (w : World) (e : Ending) (w' : World) : Prop := ∃ oa c, e = .returned (.slice oa ys.length c) ∧ BytesAt w' oa ys ∧ Below w.heap.size w w'

set_option maxRecDepth 100000 in
theorem l3read_any (d : DD) (l : DL) (m : Nat) (w : World) (hd : d.Fit) (ha : DAt w l d) (hm : m < 130) : Calls Try.prog 106 #[d.val l, .int .i64 (m : Int)] w (BPost (readN d.blocks d.waiting (m : Int) d.waiting.length) w) := by
  obtain ⟨ys, hys⟩ := hid_ex (readN d.blocks d.waiting (m : Int) d.waiting.length)
  rw [← hys.out]
  have hA := gal (gre w) (.cells #[.slice l.ba d.blocks.length l.bc, .slice l.wa d.waiting.length l.wc] 50)
  have hX0 := DBox.new w d l 50
  have hwl := hd.wl
  go_enter Try.func106, Try.ntmps106
  go_wp2
  generalize w.alloc (.cells #[.slice l.ba d.blocks.length l.bc, .slice l.wa d.waiting.length l.wc] 50) = wA at hA hX0 ⊢
  go_loopw [5] (fun i wr => ∃ j : Nat, j ≤ d.waiting.length ∧ i = .int .i64 ((j : Int) - 1) ∧ Hid (ys = readN d.blocks d.waiting (m : Int) j) ∧ Below wA.heap.size wA wr) (fun i _ => (intOf i + 1).toNat)
  case atStart => exact ⟨d.waiting.length, Nat.le_refl _, by go_num, hys, gre _⟩
  case round =>
    obtain ⟨j, hj, rfl, hr, hb⟩ := hrel
    have hX := hX0.grow hb
    have x0 := hX.c0
    have x1 := hX.c1
    have hB := gca hA hb
    cases j with
    | zero =>
      have hlt : m < d.blocks.length := by rw [hd.bl]; exact hm
      obtain ⟨n, b, off, av, cv, hvk, hvm, hba, c0, hva⟩ := (ha.b.grow hB).get hlt
      rw [hba] at x0
      have hn64 := hd.bb n hvm
      have hyn : Hid (ys = n) := by show _ = _; rw [hr.out, hvk.out]; simp [readN]
      have i0 : (0 : Int) ≤ (m : Int) := by omega
      have i1 : (m : Int) < (d.blocks.length : Int) := by omega
      have hn64' : Hid _ := hn64
      clear hn64
      rw [show ((0 : Nat) : Int) - 1 = -1 by rfl]
      go_wp2_with (go_at_call 99; refine (l2copy_any av n cv _ (by rw [hn64'.out]; decide) hva).mono ?_; rintro e w2 ⟨oa, oc, rfl, hown, hb2⟩)
      go_ret
      exact ⟨oa, oc, by rw [hyn.out]; rfl, by rw [hyn.out]; exact owns_bytes hown, gca hB hb2⟩
    | succ k =>
      have hlt : k < d.waiting.length := by omega
      obtain ⟨n, b, off, av, cv, hvk, hvm, hba, c0, c1, hva⟩ := (ha.w.grow hB).get hlt
      rw [hba] at x1
      have hn64 := (hd.wb n hvm).2.2
      have i0 : (0 : Int) ≤ (k : Int) := by omega
      have i1 : (k : Int) < (d.waiting.length : Int) := by omega
      have i2 : ((k : Int) ≥ 0) := by omega
      have hn64' : Hid _ := hn64
      clear hn64
      rw [show ((k + 1 : Nat) : Int) - 1 = (k : Int) by omega]
      by_cases heq : n.block = (m : Int)
      · have t1 : (n.block == (m : Int)) = true := by simp [heq]
        have hyn : Hid (ys = n.bytes) := by show _ = _; rw [hr.out]; simp only [readN]; rw [← hvk.out, if_pos heq]
        have heq' : Hid _ := heq
        clear heq
        go_wp2_with (go_at_call 99; refine (l2copy_any av n.bytes cv _ (by rw [hn64'.out]; decide) hva).mono ?_; rintro e w2 ⟨oa, oc, rfl, hown, hb2⟩)
        go_ret
        exact ⟨oa, oc, by rw [hyn.out]; rfl, by rw [hyn.out]; exact owns_bytes hown, gca hB hb2⟩
      · have t1 : (n.block == (m : Int)) = false := by simpa using heq
        have hst : Hid (ys = readN d.blocks d.waiting (m : Int) k) := by show _ = _; rw [hr.out]; simp only [readN]; rw [← hvk.out, if_neg heq]
        clear heq
        go_wp2
        go_roundw
        case rel => exact ⟨k, by omega, by go_num, hst, hb⟩
        case measure => first | (simp [intOf]; done) | (simp [intOf]; omega)

theorem read_no1 {d : DD} {b : Int} (h : d.ok = false) : d.read b = [] := by simp [DD.read, h]
theorem read_no2 {d : DD} {b : Int} (h : (decide (0 ≤ b) && decide (b < 130)) = false) : d.read b = [] := by simp only [DD.read, h, Bool.and_false]; rfl
theorem read_yes {d : DD} {m : Nat} (h : d.ok = true) (hm : m < 130) : d.read (m : Int) = readN d.blocks d.waiting (m : Int) d.waiting.length := by
  have h2 : (decide (0 ≤ (m : Int)) && decide ((m : Int) < 130)) = true := by simp; omega
  simp only [DD.read, h, h2, Bool.and_self, if_true]

set_option maxRecDepth 100000 in
theorem specRead_any (d : DD) (l : DL) (b : Int) (w : World) (hd : d.Ok) (ha : DAt w l d) (_hb : I64 b) : Calls Try.prog 42 #[d.val l, .int .i64 b] w (BPost (d.read b) w) := by
  have hA := gal (gre w) (.cells #[.slice l.ba d.blocks.length l.bc, .slice l.wa d.waiting.length l.wc] 50)
  have hX0 := DBox.new w d l 50
  cases hok : d.ok with
  | false =>
    have hok' : Hid _ := hok
    clear hok
    rw [read_no1 hok'.out]
    go_enter Try.func42, Try.ntmps42
    go_wp2_with (go_at_call 35; refine (specDiskOk_any d l _ hd (ha.grow hA)).mono ?_; rintro e w2 ⟨rfl, hb2⟩; rw [hok'.out])
    go_ret
    exact ⟨none, 0, rfl, fun i hi => absurd hi (Nat.not_lt_zero _), gca hA hb2⟩
  | true =>
    have hok' : Hid _ := hok
    clear hok
    by_cases g0 : b < 0
    · rw [read_no2 (by simp; omega)]
      go_enter Try.func42, Try.ntmps42
      go_wp2_with (go_at_call 35; refine (specDiskOk_any d l _ hd (ha.grow hA)).mono ?_; rintro e w2 ⟨rfl, hb2⟩; rw [hok'.out])
      go_ret
      exact ⟨none, 0, rfl, fun i hi => absurd hi (Nat.not_lt_zero _), gca hA hb2⟩
    · by_cases g1 : b ≥ 130
      · rw [read_no2 (by simp; omega)]
        go_enter Try.func42, Try.ntmps42
        go_wp2_with (go_at_call 35; refine (specDiskOk_any d l _ hd (ha.grow hA)).mono ?_; rintro e w2 ⟨rfl, hb2⟩; rw [hok'.out])
        go_ret
        exact ⟨none, 0, rfl, fun i hi => absurd hi (Nat.not_lt_zero _), gca hA hb2⟩
      · obtain ⟨m, rfl⟩ : ∃ m : Nat, b = (m : Int) := ⟨b.toNat, by omega⟩
        have hm : m < 130 := by omega
        rw [read_yes hok'.out hm]
        obtain ⟨ys, hys⟩ := hid_ex (readN d.blocks d.waiting (m : Int) d.waiting.length)
        rw [← hys.out]
        go_enter Try.func42, Try.ntmps42
        go_wp2_with (first
          | (go_at_call 35; refine (specDiskOk_any d l _ hd (ha.grow hA)).mono ?_; rintro e w2 ⟨rfl, hb2⟩; rw [hok'.out]; obtain ⟨_, x0, x1⟩ := hX0.grow hb2)
          | (go_at_call 106; refine (l3read_any d l m _ (DD.fit hok'.out) (ha.grow (gca hA hb2)) hm).mono ?_; rw [← hys.out]; rintro e w3 ⟨oa, oc, rfl, hat, hb3⟩))
        go_ret
        exact ⟨oa, oc, rfl, hat, gca (gca hA hb2) hb3⟩

end Go.Proofs.Ytkefmpegkgpbnab
