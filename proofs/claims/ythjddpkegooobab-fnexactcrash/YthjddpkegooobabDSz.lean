/-
  DSZ: the laws' sizes of disks. Own work.
-/
import Derived.Test.YthjddpkegooobabDPlain
namespace Go.Proofs.Ythjddpkegooobab
open Go.RowKit

set_option maxRecDepth 100000 in
theorem szByteS_any (a : Option Addr) (n cap : Nat) (left : Int) (w : World) (hl : n ≤ maxLen) (h0 : 0 ≤ left) (h1 : left ≤ 1048576) :
    Calls Try.prog 152 #[.slice a n cap, .int .i64 left] w fun e w' => e = .returned (.int .i64 (leftBy left n)) ∧ Below w.heap.size w w' := by
  unfold maxLen at hl
  go_enter Try.func152, Try.ntmps152
  go_wp2
  all_goals go_ret
  · exact ⟨ret_int (leftBy_neg (by assumption)).symm, gre _⟩
  · exact ⟨ret_int (leftBy_pos (Int.not_lt.2 (by assumption))).symm, gre _⟩

set_option maxRecDepth 100000 in
theorem szByteSS_any (a : Option Addr) (cap : Nat) (vs : List (List Nat)) (left : Int) (w : World) (hl : vs.length ≤ maxLen) (hv : ∀ v, v ∈ vs → v.length ≤ maxLen) (h0 : 0 ≤ left) (h1 : left ≤ 1048576) (ha : BlksAt w a vs) :
    Calls Try.prog 97 #[.slice a vs.length cap, .int .i64 left] w fun e w' => e = .returned (.int .i64 (leftBy left (vs.length + szBs vs))) ∧ Below w.heap.size w w' := by
  unfold maxLen at hl
  have hsn := szBs_nonneg vs
  go_enter Try.func97, Try.ntmps97
  go_wp2
  · go_ret
    exact ⟨ret_int (leftBy_neg (by omega)).symm, gre _⟩
  go_loopw [1, 5] (fun l i wr => ∃ k : Nat, k ≤ vs.length ∧ i = .int .i64 k ∧ l = .int .i64 (left - vs.length - szBs (vs.take k)) ∧ 0 ≤ left - vs.length - szBs (vs.take k) ∧ Below w.heap.size w wr) (fun _ i _ => vs.length - (intOf i).toNat)
  case atStart => exact ⟨0, Nat.zero_le _, rfl, by simp [szBs], by simp [szBs]; omega, gre _⟩
  case round =>
    obtain ⟨k, hk, rfl, rfl, hpos, hb⟩ := hrel
    by_cases hlt : k < vs.length
    · obtain ⟨v, b, off, a', c', hvk, hvm, rfl, hc, hva⟩ := (ha.grow hb).get hlt
      have hstep : Hid (szBs (vs.take (k + 1)) = szBs (vs.take k) + v.length) := by rw [hvk.out]; exact szBs_take_succ vs k hlt
      have hle := szBs_take_le vs (k + 1)
      have hn0 := szBs_nonneg (vs.take k)
      go_wp2_with (go_at_call 152; refine (szByteS_any a' v.length c' _ _ (hv v hvm) (by omega) (by omega)).mono ?_; rintro e w' ⟨rfl, hb'⟩)
      · go_ret
        have hn := leftBy_of_neg (by assumption)
        have hs := hstep.out
        exact ⟨ret_int (leftBy_neg (by omega)).symm, gca hb hb'⟩
      · have hn := leftBy_of_nonneg (by assumption)
        have hs := hstep.out
        go_roundw
        case rel => exact ⟨k + 1, by omega, by go_num, by rw [hn.1, hs]; go_num, by omega, gca hb hb'⟩
        case measure => simp [intOf]; omega
    · go_wp2
      go_ret
      have e : k = vs.length := by omega
      subst e
      rw [List.take_length] at hpos
      exact ⟨ret_int (by rw [List.take_length, leftBy_pos (by omega)]; omega), hb⟩

set_option maxRecDepth 100000 in
theorem szWrite_any (x : DW) (a : Option Addr) (cap : Nat) (left : Int) (w : World) (hl : x.bytes.length ≤ maxLen) (h0 : 0 ≤ left) (h1 : left ≤ 1048576) :
    Calls Try.prog 153 #[x.val a cap, .int .i64 left] w fun e w' => e = .returned (.int .i64 (leftBy left x.bytes.length)) ∧ Below w.heap.size w w' := by
  go_enter Try.func153, Try.ntmps153
  go_wp2_with (go_at_call 152; refine (szByteS_any a x.bytes.length cap _ _ hl h0 h1).mono ?_; rintro e w' ⟨rfl, hb'⟩)
  · go_ret
    have hneg := leftBy_of_neg (by assumption)
    exact ⟨ret_int (leftBy_neg (by omega)).symm, gca (gal (gre _) _) hb'⟩
  · go_ret
    exact ⟨rfl, gca (gal (gre _) _) hb'⟩

set_option maxRecDepth 100000 in
theorem szWriteS_any (a : Option Addr) (cap : Nat) (vs : List DW) (left : Int) (w : World) (hl : vs.length ≤ maxLen) (hv : ∀ v, v ∈ vs → v.bytes.length ≤ maxLen) (h0 : 0 ≤ left) (h1 : left ≤ 1048576) (ha : WrsAt w a vs) :
    Calls Try.prog 98 #[.slice a vs.length cap, .int .i64 left] w fun e w' => e = .returned (.int .i64 (leftBy left (vs.length + szWs vs))) ∧ Below w.heap.size w w' := by
  unfold maxLen at hl
  have hsn := szWs_nonneg vs
  go_enter Try.func98, Try.ntmps98
  go_wp2
  · go_ret
    exact ⟨ret_int (leftBy_neg (by omega)).symm, gre _⟩
  go_loopw [1, 5] (fun l i wr => ∃ k : Nat, k ≤ vs.length ∧ i = .int .i64 k ∧ l = .int .i64 (left - vs.length - szWs (vs.take k)) ∧ 0 ≤ left - vs.length - szWs (vs.take k) ∧ Below w.heap.size w wr) (fun _ i _ => vs.length - (intOf i).toNat)
  case atStart => exact ⟨0, Nat.zero_le _, rfl, by simp [szWs], by simp [szWs]; omega, gre _⟩
  case round =>
    obtain ⟨k, hk, rfl, rfl, hpos, hb⟩ := hrel
    by_cases hlt : k < vs.length
    · obtain ⟨v, b, off, a', c', hvk, hvm, rfl, hc, hc2, hva⟩ := (ha.grow hb).get hlt
      have hstep : Hid (szWs (vs.take (k + 1)) = szWs (vs.take k) + v.bytes.length) := by rw [hvk.out]; exact szWs_take_succ vs k hlt
      have hle := szWs_take_le vs (k + 1)
      have hn0 := szWs_nonneg (vs.take k)
      go_wp2_with (go_at_call 153; refine (szWrite_any v a' c' _ _ (hv v hvm) (by omega) (by omega)).mono ?_; rintro e w' ⟨rfl, hb'⟩)
      · go_ret
        have hn := leftBy_of_neg (by assumption)
        have hs := hstep.out
        exact ⟨ret_int (leftBy_neg (by omega)).symm, gca hb hb'⟩
      · have hn := leftBy_of_nonneg (by assumption)
        have hs := hstep.out
        go_roundw
        case rel => exact ⟨k + 1, by omega, by go_num, by rw [hn.1, hs]; go_num, by omega, gca hb hb'⟩
        case measure => simp [intOf]; omega
    · go_wp2
      go_ret
      have e : k = vs.length := by omega
      subst e
      rw [List.take_length] at hpos
      exact ⟨ret_int (by rw [List.take_length, leftBy_pos (by omega)]; omega), hb⟩

set_option maxRecDepth 100000 in
theorem szDisk_any (d : DD) (l : DL) (left : Int) (w : World) (hd : d.Ok) (h0 : 0 ≤ left) (h1 : left ≤ 1048576) (ha : DAt w l d) :
    Calls Try.prog 35 #[d.val l, .int .i64 left] w fun e w' => e = .returned (.int .i64 (leftBy left d.sz)) ∧ Below w.heap.size w w' := by
  have hz : Hid (d.sz = (d.blocks.length + szBs d.blocks) + (d.waiting.length + szWs d.waiting)) := rfl
  have hrz := szBs_nonneg d.blocks
  have hnz := szWs_nonneg d.waiting
  go_enter Try.func35, Try.ntmps35
  go_wp2_with (go_at_call 97; refine (szByteSS_any l.ba l.bc d.blocks _ _ hd.bl (fun v hv => (hd.bb v hv).len) h0 h1 (ha.b.grow (gal (gre _) _))).mono ?_; rintro e w' ⟨rfl, hb'⟩; obtain ⟨hc, hf⟩ := bcell hb')
  · go_ret
    have hneg := leftBy_of_neg (by assumption)
    have := hz.out
    exact ⟨ret_int (leftBy_neg (by omega)).symm, gca (gal (gre _) _) hb'⟩
  · have hnn := leftBy_of_nonneg (by assumption)
    have hB : Below w.heap.size w w' := gca (gal (gre _) _) hb'
    have hle : leftBy left (d.blocks.length + szBs d.blocks) ≤ 1048576 := by omega
    have hge : 0 ≤ leftBy left (d.blocks.length + szBs d.blocks) := by omega
    have hnn' : Hid _ := hnn
    clear hnn
    go_wp2_with (go_at_call 98; refine (szWriteS_any l.wa l.wc d.waiting _ _ hd.wl (fun v hv => (hd.wb v hv).len) hge hle (ha.w.grow hB)).mono ?_; rintro e w'' ⟨rfl, hb''⟩)
    · go_ret
      have hneg := leftBy_of_neg (by assumption)
      have := hz.out
      have := hnn'.out
      exact ⟨ret_int (leftBy_neg (by omega)).symm, gca hB hb''⟩
    · go_ret
      have h1 := leftBy_of_nonneg (by assumption)
      have := hz.out
      have := hnn'.out
      exact ⟨ret_int (by rw [h1.1, leftBy_pos (s := d.sz) (by omega)]; omega), gca hB hb''⟩

end Go.Proofs.Ythjddpkegooobab
