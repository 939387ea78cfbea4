import Derived.ProofKit
import Derived.OpenShut
import Derived.Deep.Slices
import Derived.ShutString
import Derived.ChangeOld
import Derived.Test.YtobfaielocicpabPartF

/-
  LAW: FnExactBlank, walked. Own work.
-/
namespace Go.Proofs.Ytobfaielocicpab
open Go.RowKit

theorem DD.Fit.small {d : DD} (h : d.Fit) : d.Small := ⟨by have := h.bl; omega, fun b hb => by have := h.bb b hb; omega, by have := h.wl; omega, fun x hx => by have := (h.wb x hx).2.2; omega⟩
theorem szBs_64 {l : List (List Nat)} (h : ∀ b, b ∈ l → b.length = 64) : szBs l = 64 * l.length := by
  induction l with
  | nil => simp [szBs]
  | cons x r ih =>
    have h1 := ih (fun b hb => h b (List.mem_cons_of_mem _ hb))
    have h2 := h x (List.mem_cons_self ..)
    simp only [szBs, List.length_cons]
    omega
theorem szWs_64 {l : List DW} (h : ∀ b, b ∈ l → b.bytes.length = 64) : szWs l = 64 * l.length := by
  induction l with
  | nil => simp [szWs]
  | cons x r ih =>
    have h1 := ih (fun b hb => h b (List.mem_cons_of_mem _ hb))
    have h2 := h x (List.mem_cons_self ..)
    simp only [szWs, List.length_cons]
    omega
theorem DD.Fit.mend {d : DD} (h : d.Fit) : d.mend 1 ≤ 1099511627776 := by
  have h1 := d.mend_sz 1
  unfold DD.sz at h1
  rw [szBs_64 h.bb, szWs_64 (fun b hb => (h.wb b hb).2.2)] at h1
  have := h.bl
  have := h.wl
  omega
theorem blank_fit : blankD.Fit := ⟨by simp [blankD], by simp [blankD], fun b hb => by rw [List.eq_of_mem_replicate hb]; simp, fun x hx => by cases hx⟩
theorem blank_ok : blankD.Ok := ⟨by simp [blankD, maxLen], fun b hb => by rw [List.eq_of_mem_replicate hb]; exact ⟨by simp [maxLen], fun x hx => by rw [List.eq_of_mem_replicate hx]; decide⟩, by simp [blankD], fun x hx => (by cases hx), fun x hx => (by cases hx)⟩

set_option maxHeartbeats 4000000 in
set_option maxRecDepth 100000 in
theorem lawBlank (w : World) : Calls Try.prog 5 #[] w fun e w' => e = .returned (.bool true) ∧ Below w.heap.size w w' := by
  obtain ⟨d, hd⟩ := hid_ex blankD
  have hfit : d.Fit := by rw [hd.out]; exact blank_fit
  have hok : d.Ok := by rw [hd.out]; exact blank_ok
  have hm := hfit.mend
  obtain ⟨m, hme⟩ := hid_ex (d.mend 1)
  have hmn : ¬ ((m : Int) < 0) := by omega
  have hmm : ((m : Int) != (m : Int)) = false := by simp
  go_enter Try.func5, Try.ntmps5
  go_upto_region 2 with (go_at_call 30; refine (specBlank_any _).mono ?_; rw [← hd.out]; rintro e w1 ⟨l0, rfl, hat0, hb1⟩)
  have hX0 := DBox.new w1 d l0 50
  have hA := gal hb1 (.cells #[.slice l0.ba d.blocks.length l0.bc, .slice l0.wa d.waiting.length l0.wc] 50)
  have hat := hat0.grow (gal (gre w1) (.cells #[.slice l0.ba d.blocks.length l0.bc, .slice l0.wa d.waiting.length l0.wc] 50))
  generalize w1.alloc (.cells #[.slice l0.ba d.blocks.length l0.bc, .slice l0.wa d.waiting.length l0.wc] 50) = wA at hX0 hA hat ⊢
  generalize w1.heap.size = P0 at hX0 ⊢
  clear hat0 hb1
  go_upto_region 3 with (go_at_call 31; refine (implBlank_any _).mono ?_; rw [← hd.out]; rintro e w2 ⟨lg, fa, ga, fc, gc, rfl, hmd0, hb2⟩)
  have hXG := DBox.new w2 d lg 50
  have hB2 := gal hb2 (.cells #[.slice lg.ba d.blocks.length lg.bc, .slice lg.wa d.waiting.length lg.wc] 50)
  have hmd := hmd0.grow (gal (gre w2) (.cells #[.slice lg.ba d.blocks.length lg.bc, .slice lg.wa d.waiting.length lg.wc] 50))
  have hsB : w2.heap.size ≤ (w2.alloc (.cells #[.slice lg.ba d.blocks.length lg.bc, .slice lg.wa d.waiting.length lg.wc] 50)).heap.size := by simp
  generalize w2.alloc (.cells #[.slice lg.ba d.blocks.length lg.bc, .slice lg.wa d.waiting.length lg.wc] 50) = wB at hXG hB2 hmd hsB ⊢
  have hPA := hX0.lt
  have hs2 := hb2.size
  generalize w2.heap.size = PG at hXG hmd hsB hs2 ⊢
  clear hmd0 hb2
  have hXB := hX0.grow hB2
  obtain ⟨_, x0, x1⟩ := id hXB
  obtain ⟨_, g0, g1⟩ := id hXG
  go_upto_region 5 with (go_at_call 32; refine (eqDisk_same d lg l0 _ hok hmd.at_ (hat.grow hB2)).mono ?_; rintro e w3 ⟨rfl, hb3⟩)
  have hB3 := gca hB2 hb3
  have hmd3 := hmd.grow hb3
  have hX3 := hXB.grow hb3
  have hG3 := hXG.grow hb3
  have hs3 := hb3.size
  clear x0 x1 g0 g1 hXB hXG hmd hX0
  obtain ⟨_, g0, g1⟩ := id hG3
  go_upto_region 7 with (go_at_call 33; rw [show (1 : Int) = ((1 : Nat) : Int) by rfl]; refine (markDisk_any d lg 1 wA.heap.size PG fa ga fc gc _ hfit.small hm (by omega) hmd3).mono ?_; rintro e w4 ⟨rfl, hM4, hK4⟩; rw [← hme.out])
  have hX4 := hX3.kept hK4 (fun e => by omega)
  have hG4 := hG3.kept hK4 (fun e => by omega)
  have hB4 := hB3.trans (hK4.below (B := wA.heap.size) hB3.size (fun z hz e => by omega))
  clear g0 g1 hX3 hG3 hmd3 hB3
  obtain ⟨_, g0, g1⟩ := id hG4
  go_upto_region 13 with (go_at_call 34; rw [show (1 : Int) = ((1 : Nat) : Int) by rfl]; refine (heldDisk_any d lg 1 wA.heap.size PG fa ga fc gc _ hfit.small hm hM4).mono ?_; rintro e w5 ⟨rfl, hb5⟩; rw [← hme.out])
  have hB5 := hB4.trans (hb5.mono hB4.size)
  have hX5 := hX4.grow hb5
  have hG5 := hG4.grow hb5
  have hM5 := hM4.grow hb5
  clear g0 g1 hX4 hG4 hM4 hB4
  go_upto_region 14 with (go_at_call 31; refine (implBlank_any _).mono ?_; rw [← hd.out]; rintro e w6 ⟨lh, fa6, ga6, fc6, gc6, rfl, hmd6, hb6⟩)
  have hXH := DBox.new w6 d lh 50
  have hb7 := gal hb6 (.cells #[.slice lh.ba d.blocks.length lh.bc, .slice lh.wa d.waiting.length lh.wc] 50)
  have hmd7 := hmd6.grow (gal (gre w6) (.cells #[.slice lh.ba d.blocks.length lh.bc, .slice lh.wa d.waiting.length lh.wc] 50))
  generalize w6.alloc (.cells #[.slice lh.ba d.blocks.length lh.bc, .slice lh.wa d.waiting.length lh.wc] 50) = w7 at hXH hb7 hmd7 ⊢
  generalize w6.heap.size = PH at hXH hmd7 ⊢
  have hB7 := hB5.trans (hb7.mono hB5.size)
  have hX7 := hX5.grow hb7
  have hG7 := hG5.grow hb7
  have hM7 := hM5.grow hb7
  clear hX5 hG5 hM5 hB5 hb6 hmd6
  obtain ⟨_, x0, x1⟩ := id hX7
  obtain ⟨_, g0, g1⟩ := id hXH
  go_upto_region 16 with (go_at_call 32; refine (eqDisk_same d lh l0 _ hok hmd7.at_ (hat.grow hB7)).mono ?_; rintro e w8 ⟨rfl, hb8⟩)
  have hB8 := hB7.trans (hb8.mono hB7.size)
  have hG8 := hG7.grow hb8
  have hM8 := hM7.grow hb8
  clear x0 x1 g0 g1 hX7 hXH hmd7 hB7 hG7 hM7
  obtain ⟨_, g0, g1⟩ := id hG8
  go_wp2_with (go_at_call 34; rw [show (1 : Int) = ((1 : Nat) : Int) by rfl]; refine (heldDisk_any d lg 1 wA.heap.size PG fa ga fc gc _ hfit.small hm hM8).mono ?_; rintro e w9 ⟨rfl, hb9⟩; rw [← hme.out])
  go_ret
  exact ⟨rfl, hA.trans ((hB8.trans (hb9.mono hB8.size)).mono hA.size)⟩

end Go.Proofs.Ytobfaielocicpab

/-
  DSZ: the laws' sizes of disks. Own work.
-/
namespace Go.Proofs.Ytobfaielocicpab
open Go.RowKit

set_option maxRecDepth 100000 in
theorem szByteS_any (a : Option Addr) (n cap : Nat) (left : Int) (w : World) (hl : n ≤ maxLen) (h0 : 0 ≤ left) (h1 : left ≤ 1048576) :
    Calls Try.prog 152 #[.slice a n cap, .int .i64 left] w fun e w' => e = .returned (.int .i64 (leftBy left n)) ∧ Below w.heap.size w w' := by
  unfold maxLen at hl
  go_enter Try.func152, Try.ntmps152
  go_wp2
  all_goals go_ret
  · exact ⟨ret_int (leftBy_neg (by assumption)).symm, gre _⟩
  · exact ⟨ret_int (leftBy_pos (Int.not_lt.2 (by assumption))).symm, gre _⟩

set_option maxRecDepth 100000 in
theorem szByteSS_any (a : Option Addr) (cap : Nat) (vs : List (List Nat)) (left : Int) (w : World) (hl : vs.length ≤ maxLen) (hv : ∀ v, v ∈ vs → v.length ≤ maxLen) (h0 : 0 ≤ left) (h1 : left ≤ 1048576) (ha : BlksAt w a vs) :
    Calls Try.prog 97 #[.slice a vs.length cap, .int .i64 left] w fun e w' => e = .returned (.int .i64 (leftBy left (vs.length + szBs vs))) ∧ Below w.heap.size w w' := by
  unfold maxLen at hl
  have hsn := szBs_nonneg vs
  go_enter Try.func97, Try.ntmps97
  go_wp2
  · go_ret
    exact ⟨ret_int (leftBy_neg (by omega)).symm, gre _⟩
  go_loopw [1, 5] (fun l i wr => ∃ k : Nat, k ≤ vs.length ∧ i = .int .i64 k ∧ l = .int .i64 (left - vs.length - szBs (vs.take k)) ∧ 0 ≤ left - vs.length - szBs (vs.take k) ∧ Below w.heap.size w wr) (fun _ i _ => vs.length - (intOf i).toNat)
  case atStart => exact ⟨0, Nat.zero_le _, rfl, by simp [szBs], by simp [szBs]; omega, gre _⟩
  case round =>
    obtain ⟨k, hk, rfl, rfl, hpos, hb⟩ := hrel
    by_cases hlt : k < vs.length
    · obtain ⟨v, b, off, a', c', hvk, hvm, rfl, hc, hva⟩ := (ha.grow hb).get hlt
      have hstep : Hid (szBs (vs.take (k + 1)) = szBs (vs.take k) + v.length) := by rw [hvk.out]; exact szBs_take_succ vs k hlt
      have hle := szBs_take_le vs (k + 1)
      have hn0 := szBs_nonneg (vs.take k)
      go_wp2_with (go_at_call 152; refine (szByteS_any a' v.length c' _ _ (hv v hvm) (by omega) (by omega)).mono ?_; rintro e w' ⟨rfl, hb'⟩)
      · go_ret
        have hn := leftBy_of_neg (by assumption)
        have hs := hstep.out
        exact ⟨ret_int (leftBy_neg (by omega)).symm, gca hb hb'⟩
      · have hn := leftBy_of_nonneg (by assumption)
        have hs := hstep.out
        go_roundw
        case rel => exact ⟨k + 1, by omega, by go_num, by rw [hn.1, hs]; go_num, by omega, gca hb hb'⟩
        case measure => simp [intOf]; omega
    · go_wp2
      go_ret
      have e : k = vs.length := by omega
      subst e
      rw [List.take_length] at hpos
      exact ⟨ret_int (by rw [List.take_length, leftBy_pos (by omega)]; omega), hb⟩

set_option maxRecDepth 100000 in
theorem szWrite_any (x : DW) (a : Option Addr) (cap : Nat) (left : Int) (w : World) (hl : x.bytes.length ≤ maxLen) (h0 : 0 ≤ left) (h1 : left ≤ 1048576) :
    Calls Try.prog 153 #[x.val a cap, .int .i64 left] w fun e w' => e = .returned (.int .i64 (leftBy left x.bytes.length)) ∧ Below w.heap.size w w' := by
  go_enter Try.func153, Try.ntmps153
  go_wp2_with (go_at_call 152; refine (szByteS_any a x.bytes.length cap _ _ hl h0 h1).mono ?_; rintro e w' ⟨rfl, hb'⟩)
  · go_ret
    have hneg := leftBy_of_neg (by assumption)
    exact ⟨ret_int (leftBy_neg (by omega)).symm, gca (gal (gre _) _) hb'⟩
  · go_ret
    exact ⟨rfl, gca (gal (gre _) _) hb'⟩

set_option maxRecDepth 100000 in
theorem szWriteS_any (a : Option Addr) (cap : Nat) (vs : List DW) (left : Int) (w : World) (hl : vs.length ≤ maxLen) (hv : ∀ v, v ∈ vs → v.bytes.length ≤ maxLen) (h0 : 0 ≤ left) (h1 : left ≤ 1048576) (ha : WrsAt w a vs) :
    Calls Try.prog 98 #[.slice a vs.length cap, .int .i64 left] w fun e w' => e = .returned (.int .i64 (leftBy left (vs.length + szWs vs))) ∧ Below w.heap.size w w' := by
  unfold maxLen at hl
  have hsn := szWs_nonneg vs
  go_enter Try.func98, Try.ntmps98
  go_wp2
  · go_ret
    exact ⟨ret_int (leftBy_neg (by omega)).symm, gre _⟩
  go_loopw [1, 5] (fun l i wr => ∃ k : Nat, k ≤ vs.length ∧ i = .int .i64 k ∧ l = .int .i64 (left - vs.length - szWs (vs.take k)) ∧ 0 ≤ left - vs.length - szWs (vs.take k) ∧ Below w.heap.size w wr) (fun _ i _ => vs.length - (intOf i).toNat)
  case atStart => exact ⟨0, Nat.zero_le _, rfl, by simp [szWs], by simp [szWs]; omega, gre _⟩
  case round =>
    obtain ⟨k, hk, rfl, rfl, hpos, hb⟩ := hrel
    by_cases hlt : k < vs.length
    · obtain ⟨v, b, off, a', c', hvk, hvm, rfl, hc, hc2, hva⟩ := (ha.grow hb).get hlt
      have hstep : Hid (szWs (vs.take (k + 1)) = szWs (vs.take k) + v.bytes.length) := by rw [hvk.out]; exact szWs_take_succ vs k hlt
      have hle := szWs_take_le vs (k + 1)
      have hn0 := szWs_nonneg (vs.take k)
      go_wp2_with (go_at_call 153; refine (szWrite_any v a' c' _ _ (hv v hvm) (by omega) (by omega)).mono ?_; rintro e w' ⟨rfl, hb'⟩)
      · go_ret
        have hn := leftBy_of_neg (by assumption)
        have hs := hstep.out
        exact ⟨ret_int (leftBy_neg (by omega)).symm, gca hb hb'⟩
      · have hn := leftBy_of_nonneg (by assumption)
        have hs := hstep.out
        go_roundw
        case rel => exact ⟨k + 1, by omega, by go_num, by rw [hn.1, hs]; go_num, by omega, gca hb hb'⟩
        case measure => simp [intOf]; omega
    · go_wp2
      go_ret
      have e : k = vs.length := by omega
      subst e
      rw [List.take_length] at hpos
      exact ⟨ret_int (by rw [List.take_length, leftBy_pos (by omega)]; omega), hb⟩

set_option maxRecDepth 100000 in
theorem szDisk_any (d : DD) (l : DL) (left : Int) (w : World) (hd : d.Ok) (h0 : 0 ≤ left) (h1 : left ≤ 1048576) (ha : DAt w l d) :
    Calls Try.prog 35 #[d.val l, .int .i64 left] w fun e w' => e = .returned (.int .i64 (leftBy left d.sz)) ∧ Below w.heap.size w w' := by
  have hz : Hid (d.sz = (d.blocks.length + szBs d.blocks) + (d.waiting.length + szWs d.waiting)) := rfl
  have hrz := szBs_nonneg d.blocks
  have hnz := szWs_nonneg d.waiting
  go_enter Try.func35, Try.ntmps35
  go_wp2_with (go_at_call 97; refine (szByteSS_any l.ba l.bc d.blocks _ _ hd.bl (fun v hv => (hd.bb v hv).len) h0 h1 (ha.b.grow (gal (gre _) _))).mono ?_; rintro e w' ⟨rfl, hb'⟩; obtain ⟨hc, hf⟩ := bcell hb')
  · go_ret
    have hneg := leftBy_of_neg (by assumption)
    have := hz.out
    exact ⟨ret_int (leftBy_neg (by omega)).symm, gca (gal (gre _) _) hb'⟩
  · have hnn := leftBy_of_nonneg (by assumption)
    have hB : Below w.heap.size w w' := gca (gal (gre _) _) hb'
    have hle : leftBy left (d.blocks.length + szBs d.blocks) ≤ 1048576 := by omega
    have hge : 0 ≤ leftBy left (d.blocks.length + szBs d.blocks) := by omega
    have hnn' : Hid _ := hnn
    clear hnn
    go_wp2_with (go_at_call 98; refine (szWriteS_any l.wa l.wc d.waiting _ _ hd.wl (fun v hv => (hd.wb v hv).len) hge hle (ha.w.grow hB)).mono ?_; rintro e w'' ⟨rfl, hb''⟩)
    · go_ret
      have hneg := leftBy_of_neg (by assumption)
      have := hz.out
      have := hnn'.out
      exact ⟨ret_int (leftBy_neg (by omega)).symm, gca hB hb''⟩
    · go_ret
      have h1 := leftBy_of_nonneg (by assumption)
      have := hz.out
      have := hnn'.out
      exact ⟨ret_int (by rw [h1.1, leftBy_pos (s := d.sz) (by omega)]; omega), gca hB hb''⟩

end Go.Proofs.Ytobfaielocicpab

/-
  REGIONV: the end of a region that draws its order. Own work.
-/
namespace Go.Proofs.Ytobfaielocicpab
open Go.RowKit

/-- none may come up any more -/
theorem anyU_done {P : Program} {ops : Array Oper} {Q : Exit → Act → World → Prop} {md : Region.Mode} {S : World → Prop} {lst : Nat} {fuel : Nat} {listed : Array Bool} {a : Act} {w : World} (hd : Region.ready md ops listed = []) (hQ : Q .normal a w) : anyU P md ops Q S lst fuel listed a w := by
  cases fuel with
  | zero => exact ⟨hd, hQ⟩
  | succ f => exact ⟨fun _ => hQ, fun i hi => by rw [hd] at hi; cases hi⟩

end Go.Proofs.Ytobfaielocicpab

/-
  LAW: FnExactSync, walked. Own work.
-/
namespace Go.Proofs.Ytobfaielocicpab
open Go.RowKit

/-- disks that a law may hold against each other, and mark -/
structure DD.Tame (d : DD) : Prop where
  ok : d.Ok
  small : d.Small
  mend : d.mend 1 ≤ 1099511627776
theorem zero_tame : zeroD.Tame := ⟨⟨Nat.zero_le _, fun b hb => (by cases hb), Nat.zero_le _, fun x hx => (by cases hx), fun x hx => (by cases hx)⟩, ⟨Nat.zero_le _, fun b hb => (by cases hb), Nat.zero_le _, fun x hx => (by cases hx)⟩, by decide⟩
theorem DD.Fit.tame {d : DD} (h : d.Fit) (hok : d.Ok) : d.Tame := ⟨hok, h.small, h.mend⟩
theorem settle_tame {d : DD} (hd : d.Ok) (keep : Nat → Bool) : (d.settle keep).Tame := by
  cases hok : d.ok with
  | false => rw [settle_no hok]; exact zero_tame
  | true =>
    have hf := DD.fit hok
    rw [settle_yes hok]
    refine DD.Fit.tame ⟨by show (settleN _ _ _ _).length = 130; rw [settleN_length]; exact hf.bl, Nat.zero_le _, settleN_all hf.bb (fun x hx => (hf.wb x hx).2.2) _ (Nat.le_refl _), fun x hx => (by cases hx)⟩ ⟨by show (settleN _ _ _ _).length ≤ maxLen; rw [settleN_length]; exact hd.bl, settleN_all hd.bb hd.wb _ (Nat.le_refl _), Nat.zero_le _, fun x hx => (by cases hx), fun x hx => (by cases hx)⟩
theorem DD.small_mend {d : DD} (h : d.sz ≤ 1048576) : d.mend 1 ≤ 1099511627776 := by have := d.mend_sz 1; omega

set_option maxHeartbeats 4000000 in
set_option maxRecDepth 100000 in
theorem lawSync (d : DD) (l : DL) (w : World) (hd : d.Ok) (ha : DAt w l d) :
    Calls Try.prog 8 #[d.val l] w fun e w' => e = .returned (.bool true) ∧ Below w.heap.size w w' := by
  have hX0 := DBox.new w d l 57
  have hA0 := gal (gre w) (.cells #[.slice l.ba d.blocks.length l.bc, .slice l.wa d.waiting.length l.wc] 57)
  by_cases hs1 : d.sz ≤ 1048576
  · have hs := DD.small hs1
    have hm1 := DD.small_mend hs1
    have hle1 : Hid (leftBy 1048576 d.sz = 1048576 - d.sz) := leftBy_pos (by omega)
    have hd1 : ¬ (1048576 - d.sz < 0) := by omega
    obtain ⟨c, hc⟩ := hid_ex (d.settle keepAll)
    have hct : c.Tame := by rw [hc.out]; exact settle_tame hd _
    have hmc := hct.mend
    obtain ⟨mx, hmx⟩ := hid_ex (d.mend 1)
    have hmxn : ¬ ((mx : Int) < 0) := by omega
    obtain ⟨m, hme⟩ := hid_ex (c.mend 1)
    have hmn : ¬ ((m : Int) < 0) := by omega
    have hmm : ((m : Int) != (m : Int)) = false := by simp
    clear hs1
    go_enter Try.func8, Try.ntmps8
    go_upto_region 6 with (first
      | (go_at_call 35; refine (szDisk_any d l _ _ hd (by decide) (by decide) (ha.grow hA0)).mono ?_; rintro e w1 ⟨rfl, hb1⟩; rw [hle1.out]; obtain ⟨_, x0, x1⟩ := hX0.grow hb1)
      | (go_at_call 37; refine (toDisk_any d l _ hs (ha.grow (gca hA0 hb1))).mono ?_; rintro e w2 ⟨l2, bs2, xs2, rfl, hown2, hb2⟩)
      | (go_at_call 41; refine (specSync_any d l2 _ hd hown2.at_).mono ?_; rw [← hc.out]; rintro e w3 h3; obtain ⟨l0, rfl, hat0, hb3⟩ := h3.at_))
    have hA := gal (gca (gca (gca hA0 hb1) hb2) hb3) (.cells #[.slice l0.ba c.blocks.length l0.bc, .slice l0.wa c.waiting.length l0.wc] 50)
    have hXA := hX0.grow (gal (gca (gca hb1 hb2) hb3) (.cells #[.slice l0.ba c.blocks.length l0.bc, .slice l0.wa c.waiting.length l0.wc] 50))
    have hWA := DBox.new w3 c l0 50
    have hat := hat0.grow (gal (gre w3) (.cells #[.slice l0.ba c.blocks.length l0.bc, .slice l0.wa c.waiting.length l0.wc] 50))
    generalize w3.alloc (.cells #[.slice l0.ba c.blocks.length l0.bc, .slice l0.wa c.waiting.length l0.wc] 50) = wA at hA hXA hWA hat ⊢
    generalize w3.heap.size = P0 at hWA ⊢
    obtain ⟨PA, hPA⟩ := hid_ex w.heap.size
    rw [← hPA.out] at hXA ⊢
    clear x0 x1 hb1 hb2 hb3 hown2 hat0 hX0 hA0
    obtain ⟨_, x0, x1⟩ := id hXA
    go_upto_region 7 with (go_at_call 37; refine (toDisk_any d l _ hs (ha.grow hA)).mono ?_; rintro e w4 ⟨l4, bs4, xs4, rfl, hown4, hb4⟩)
    have hxB := DBox.new w4 d l4 50
    have hbB := gal hb4 (.cells #[.slice l4.ba d.blocks.length l4.bc, .slice l4.wa d.waiting.length l4.wc] 50)
    have hmx0 := hown4.md.grow (gal (gre w4) (.cells #[.slice l4.ba d.blocks.length l4.bc, .slice l4.wa d.waiting.length l4.wc] 50))
    have hs4 : (w4.alloc (.cells #[.slice l4.ba d.blocks.length l4.bc, .slice l4.wa d.waiting.length l4.wc] 50)).heap.size = w4.heap.size + 1 := by simp
    have hs4A := hb4.size
    generalize w4.alloc (.cells #[.slice l4.ba d.blocks.length l4.bc, .slice l4.wa d.waiting.length l4.wc] 50) = wB at hxB hbB hmx0 hs4 ⊢
    generalize w4.heap.size = PX at hxB hmx0 hs4 hs4A ⊢
    have hPAl := hXA.lt
    have hP0l := hWA.lt
    have hXB := hXA.grow hbB
    have hWB := hWA.grow hbB
    generalize hsAe : wA.heap.size = sA at hmx0 hbB hs4A hPAl hP0l
    clear x0 x1 hb4 hown4 hXA hWA
    obtain ⟨_, x0, x1⟩ := id hxB
    go_upto_region 8 with (go_at_call 42; refine (implSync_any d l4 _ hd hmx0.at_).mono ?_; rw [← hc.out]; rintro e w5 ⟨lg, fa, ga, fc, gc, rfl, hmd0, hb5⟩)
    have hGC := DBox.new w5 c lg 50
    have hbC := gal hb5 (.cells #[.slice lg.ba c.blocks.length lg.bc, .slice lg.wa c.waiting.length lg.wc] 50)
    have hmdC := hmd0.grow (gal (gre w5) (.cells #[.slice lg.ba c.blocks.length lg.bc, .slice lg.wa c.waiting.length lg.wc] 50))
    have hs5 : (w5.alloc (.cells #[.slice lg.ba c.blocks.length lg.bc, .slice lg.wa c.waiting.length lg.wc] 50)).heap.size = w5.heap.size + 1 := by simp
    have hs5B := hb5.size
    generalize w5.alloc (.cells #[.slice lg.ba c.blocks.length lg.bc, .slice lg.wa c.waiting.length lg.wc] 50) = wC at hGC hbC hmdC hs5 ⊢
    generalize w5.heap.size = PG at hGC hmdC hs5 hs5B ⊢
    have hxC := hxB.grow hbC
    have hXC := hXB.grow hbC
    have hWC := hWB.grow hbC
    have hmxC := hmx0.grow hbC
    have hAC : Below sA wA wC := by rw [hs4] at hbC; exact hbB.trans (hbC.mono (by omega))
    have hBwC : Below w.heap.size w wC := hA.trans (hAC.mono (by rw [← hsAe]; exact hA.size))
    generalize hsBe : wB.heap.size = sB at hmdC hs4 hs5B
    clear x0 x1 hmd0 hb5 hxB hXB hWB hmx0 hbB hbC
    obtain ⟨_, x0, x1⟩ := id hGC
    obtain ⟨_, g0, g1⟩ := id hWC
    go_upto_region 10 with (go_at_call 32; refine (eqDisk_same c lg l0 _ hct.ok hmdC.at_ (hat.grow (by rw [hsAe]; exact hAC))).mono ?_; rintro e w6 ⟨rfl, hb6⟩)
    have hx6 := hxC.grow hb6
    have hX6 := hXC.grow hb6
    have hW6 := hWC.grow hb6
    have hG6 := hGC.grow hb6
    have hmx6 := hmxC.grow hb6
    have hmd6 := hmdC.grow hb6
    have hA6 := hAC.trans (hb6.mono (by have := hAC.size; omega))
    have hBw6 := gca hBwC hb6
    have hs6 := hb6.size
    clear x0 x1 g0 g1 hxC hXC hWC hGC hmxC hmdC hAC hBwC
    have hB : Below w6.heap.size w6 w6.drew := gdr (gre _)
    refine wp_regionU (fun u => DBox u PX d l4 ∧ DBox u PA d l) 99 (by kernel_rfl) ⟨hx6.grow hB, hX6.grow hB⟩ (fun _ => ?_)
    refine anyU_take (i := 0) (v := ?_) rfl (by kernel_rfl) (by kernel_rfl) (by kernel_rfl) (by kernel_rfl) (fun _ _ _ h => h) (Or.inl ⟨by rfl, ?_⟩) ⟨hx6.grow hB, hX6.grow hB⟩ ?_
    rotate_left
    · intro u hSu; obtain ⟨⟨_, s0, s1⟩, ⟨_, t0, t1⟩⟩ := hSu; go_simp <;> with_reducible rfl
    simp only [Act.put, List.getElem_toArray, List.getElem_cons_zero, List.setIfInBounds_toArray, List.set_cons_zero, List.set_cons_succ]
    refine anyU_take (i := 1) (v := ?_) rfl (by kernel_rfl) (by kernel_rfl) (by kernel_rfl) (by kernel_rfl) (fun _ _ _ h => h) (Or.inl ⟨by rfl, ?_⟩) ⟨hx6.grow hB, hX6.grow hB⟩ ?_
    rotate_left
    · intro u hSu; obtain ⟨⟨_, s0, s1⟩, ⟨_, t0, t1⟩⟩ := hSu; go_simp <;> with_reducible rfl
    simp only [Act.put, List.getElem_toArray, List.getElem_cons_zero, List.getElem_cons_succ, List.setIfInBounds_toArray, List.set_cons_zero, List.set_cons_succ]
    refine anyU_one (i := 2) (by kernel_rfl) rfl (fun K hK => ?_)
    go_simp
    refine (toDisk_any d l _ hs (ha.grow (gca hBw6 hB))).mono ?_
    rintro e w7 ⟨l7, bs7, xs7, rfl, hown7, hb7⟩
    have hB := gca hB hb7
    refine hK.out _ _ ⟨hx6.grow hB, hX6.grow hB⟩ ?_
    clear hK
    refine anyU_one (i := 3) (by kernel_rfl) rfl (fun K hK => ?_)
    go_simp
    refine (eqDisk_same d _ _ _ hd (hmx6.at_.grow hB) hown7.at_).mono ?_
    rintro e w8 ⟨rfl, hb8⟩
    have hB := gca hB hb8
    refine hK.out _ _ ⟨hx6.grow hB, hX6.grow hB⟩ ?_
    clear hK
    refine anyU_one (i := 4) (by kernel_rfl) rfl (fun K hK => ?_)
    go_simp
    refine hK.out _ _ ⟨hx6.grow hB, hX6.grow hB⟩ ?_
    clear hK
    refine anyU_done (by kernel_rfl) ?_
    have hx8 := hx6.grow hB
    have hX8 := hX6.grow hB
    have hW8 := hW6.grow hB
    have hG8 := hG6.grow hB
    have hmx8 := hmx6.grow hB
    have hmd8 := hmd6.grow hB
    have hA8 := hA6.trans (hB.mono (by have := hA6.size; omega))
    have hBw8 := gca hBw6 hB
    have hs8 := hB.size
    clear hx6 hX6 hW6 hG6 hmx6 hmd6 hA6 hBw6 hB hown7 hb7 hb8
    obtain ⟨_, x0, x1⟩ := id hx8
    go_upto_region 14 with (go_at_call 33; rw [show (1 : Int) = ((1 : Nat) : Int) by rfl]; refine (markDisk_any d l4 1 sA PX _ _ _ _ _ hs hm1 (by omega) hmx8).mono ?_; rintro e w9 ⟨rfl, _, hK9⟩; rw [← hmx.out])
    have hX9 := hX8.kept hK9 (fun e => by omega)
    have hW9 := hW8.kept hK9 (fun e => by omega)
    have hG9 := hG8.kept hK9 (fun e => by omega)
    have hmd9 := hmd8.out hK9 (fun b hb _ e => by omega)
    have hA9 := hA8.trans (hK9.below (B := sA) (by have := hA8.size; omega) (fun z hz e => by omega))
    have hBw9 := hBw8.trans (hK9.below (B := w.heap.size) hBw8.size (fun z hz e => by have := hPA.out; omega))
    have hs9 := hK9.size
    clear x0 x1 hx8 hX8 hW8 hG8 hmx8 hmd8 hA8 hBw8 hK9
    obtain ⟨_, x0, x1⟩ := id hG9
    obtain ⟨_, g0, g1⟩ := id hW9
    go_upto_region 16 with (go_at_call 32; refine (eqDisk_same c lg l0 _ hct.ok hmd9.at_ (hat.grow (by rw [hsAe]; exact hA9))).mono ?_; rintro e w10 ⟨rfl, hb10⟩)
    have hX10 := hX9.grow hb10
    have hW10 := hW9.grow hb10
    have hG10 := hG9.grow hb10
    have hmd10 := hmd9.grow hb10
    have hA10 := hA9.trans (hb10.mono (by have := hA9.size; omega))
    have hBw10 := gca hBw9 hb10
    have hs10 := hb10.size
    clear x0 x1 g0 g1 hX9 hW9 hG9 hmd9 hA9 hBw9
    obtain ⟨_, x0, x1⟩ := id hG10
    go_upto_region 18 with (go_at_call 33; rw [show (1 : Int) = ((1 : Nat) : Int) by rfl]; refine (markDisk_any c lg 1 sB PG fa ga fc gc _ hct.small hmc (by omega) hmd10).mono ?_; rintro e w11 ⟨rfl, hM11, hK11⟩; rw [← hme.out])
    have hX11 := hX10.kept hK11 (fun e => by omega)
    have hW11 := hW10.kept hK11 (fun e => by omega)
    have hG11 := hG10.kept hK11 (fun e => by omega)
    have hA11 := hA10.trans (hK11.below (B := sA) (by have := hA10.size; omega) (fun z hz e => by omega))
    have hBw11 := hBw10.trans (hK11.below (B := w.heap.size) hBw10.size (fun z hz e => by have := hPA.out; omega))
    clear x0 x1 hX10 hW10 hG10 hmd10 hA10 hBw10 hK11
    obtain ⟨_, x0, x1⟩ := id hG11
    go_upto_region 24 with (go_at_call 34; rw [show (1 : Int) = ((1 : Nat) : Int) by rfl]; refine (heldDisk_any c lg 1 sB PG fa ga fc gc _ hct.small hmc hM11).mono ?_; rintro e w12 ⟨rfl, hb12⟩; rw [← hme.out])
    have hX12 := hX11.grow hb12
    have hW12 := hW11.grow hb12
    have hG12 := hG11.grow hb12
    have hM12 := hM11.grow hb12
    have hA12 := hA11.trans (hb12.mono (by have := hA11.size; omega))
    have hBw12 := gca hBw11 hb12
    clear x0 x1 hX11 hW11 hG11 hM11 hA11 hBw11
    obtain ⟨_, x0, x1⟩ := id hX12
    go_upto_region 25 with (first
      | (go_at_call 37; refine (toDisk_any d l _ hs (ha.grow hBw12)).mono ?_; rintro e w13 ⟨l13, bs13, xs13, rfl, hown13, hb13⟩)
      | (go_at_call 42; refine (implSync_any d l13 _ hd hown13.at_).mono ?_; rw [← hc.out]; rintro e w14 ⟨lh, fa14, ga14, fc14, gc14, rfl, hmd14, hb14⟩))
    have hHD := DBox.new w14 c lh 50
    have hbD := gal (gca hb13 hb14) (.cells #[.slice lh.ba c.blocks.length lh.bc, .slice lh.wa c.waiting.length lh.wc] 50)
    have hmdD := hmd14.grow (gal (gre w14) (.cells #[.slice lh.ba c.blocks.length lh.bc, .slice lh.wa c.waiting.length lh.wc] 50))
    generalize w14.alloc (.cells #[.slice lh.ba c.blocks.length lh.bc, .slice lh.wa c.waiting.length lh.wc] 50) = wD at hHD hbD hmdD ⊢
    generalize w14.heap.size = PH at hHD hmdD ⊢
    have hWD := hW12.grow hbD
    have hGD := hG12.grow hbD
    have hMD := hM12.grow hbD
    have hAD := hA12.trans (hbD.mono (by have := hA12.size; omega))
    have hBwD := gca hBw12 hbD
    clear x0 x1 hX12 hW12 hG12 hM12 hA12 hBw12 hb13 hb14 hmd14 hown13
    obtain ⟨_, x0, x1⟩ := id hHD
    obtain ⟨_, g0, g1⟩ := id hWD
    go_upto_region 27 with (go_at_call 32; refine (eqDisk_same c lh l0 _ hct.ok hmdD.at_ (hat.grow (by rw [hsAe]; exact hAD))).mono ?_; rintro e w15 ⟨rfl, hb15⟩)
    have hG15 := hGD.grow hb15
    have hM15 := hMD.grow hb15
    have hBw15 := gca hBwD hb15
    clear x0 x1 g0 g1 hWD hGD hMD hAD hBwD hmdD hHD
    obtain ⟨_, x0, x1⟩ := id hG15
    go_wp2_with (go_at_call 34; rw [show (1 : Int) = ((1 : Nat) : Int) by rfl]; refine (heldDisk_any c lg 1 sB PG fa ga fc gc _ hct.small hmc hM15).mono ?_; rintro e w16 ⟨rfl, hb16⟩; rw [← hme.out])
    go_ret
    exact ⟨rfl, gca hBw15 hb16⟩
  · have hle1 : Hid (leftBy 1048576 d.sz = -1) := leftBy_neg (by omega)
    go_enter Try.func8, Try.ntmps8
    go_wp2_with (go_at_call 35; refine (szDisk_any d l _ _ hd (by decide) (by decide) (ha.grow hA0)).mono ?_; rintro e w1 ⟨rfl, hb1⟩; rw [hle1.out])
    go_ret
    exact ⟨rfl, gca hA0 hb1⟩

end Go.Proofs.Ytobfaielocicpab

/-
  OPEND: what disks that come in read as. Own work.
-/
namespace Go.Proofs.Ytobfaielocicpab
open Go.RowKit Go.ChangeShapes Go.WideShapes Go.Deep

set_option maxRecDepth 100000 in
theorem dcellsInt : Try.prog.cellsOf 3 = 1 := by kernel_rfl
theorem dcellsU8 : Try.prog.cellsOf 5 = 1 := by kernel_rfl
theorem dcellsBytes : Try.prog.cellsOf 28 = 1 := by kernel_rfl
theorem dcellsWrite : Try.prog.cellsOf 187 = 2 := by kernel_rfl
theorem dcellsBlks : Try.prog.cellsOf 47 = 1 := by kernel_rfl
theorem dcellsWrites : Try.prog.cellsOf 55 = 1 := by kernel_rfl
theorem dcellsDisk : Try.prog.cellsOf 57 = 2 := by kernel_rfl

set_option maxRecDepth 100000 in
theorem di64_of_wf {n : Int} (h : (Lit.int .i64 n).wf = true) : I64 n := by
  have h := bounds_i64 h
  unfold I64
  omega
theorem dbyte_of_wf {x : Int} (h : (Lit.int .u8 x).wf = true) : 0 ≤ x ∧ x < 256 := by
  simp [Lit.wf, IntKind.min, IntKind.max, IntKind.signed, IntKind.bits] at h
  omega

section
variable {H : Type} {enc : TypeId × Value → H} {w : World} {base : Nat} {spare : Nat → Bool} {held : Bool}

set_option maxRecDepth 100000 in
/-- a list out of a family -/
theorem dlist_of {α : Type} [Inhabited α] {n : Nat} {p : Nat → α → Prop} (h : ∀ i, i < n → ∃ x, p i x) : ∃ l : List α, l.length = n ∧ ∀ i, i < n → p i l[i]! := by
  obtain ⟨f, hf⟩ := choose_lt h
  refine ⟨(List.range n).map f, by simp, fun i hi => ?_⟩
  have e : ((List.range n).map f)[i]! = f i := by
    rw [getElem!_pos _ i (by simpa using hi)]; simp
  rw [e]; exact hf i hi

set_option maxRecDepth 100000 in
theorem dall_of_at {α : Type} [Inhabited α] {p : α → Prop} {l : List α} (h : ∀ i, i < l.length → p l[i]!) : ∀ x, x ∈ l → p x := fun x hx => by
  obtain ⟨i, hi, e⟩ := List.getElem_of_mem hx
  have := h i hi
  rwa [getElem!_pos l i hi, e] at this

set_option maxRecDepth 100000 in
/-- an address at which elements lie is a plain one -/
theorem dplain_addr {a : Addr} {k : Nat} {cs : List Value} (hk : 0 < k) (h : w.cells? base (a.add (0 * k)) k = some cs) : a = ⟨a.block, a.off, none⟩ := by
  obtain ⟨_, hlen, hc⟩ := World.cells?_some h
  have h0 := hc 0 hk
  obtain ⟨b, off, spot⟩ := a
  match cs, hlen with
  | c :: _, _ =>
    have hspot : spot = none := by
      have h0' : w.cell? ((Addr.add ⟨b, off, spot⟩ (0 * k)).add 0) = some c := by simpa using h0
      simpa [Addr.add] using World.cell?_spot h0'
    rw [hspot]
  | [], h => simp at h; omega

set_option maxRecDepth 100000 in
theorem dcells_plain {b off n : Nat} {cs : List Value} (h : w.cells? base ⟨b, off, none⟩ n = some cs) : cs.length = n ∧ ∀ i, i < n → w.cell? ⟨b, off + i, none⟩ = cs[i]? := by
  obtain ⟨_, hlen, hc⟩ := World.cells?_some h
  exact ⟨hlen, fun i hi => by rw [← add_plain]; exact hc i hi⟩

set_option maxRecDepth 100000 in
theorem openByts {fuel : Nat} {cs : List Value} {x : DataW H × List MemPlace} (h : DataW.trod enc Try.prog w base spare held fuel 28 cs = some x) :
    ∃ (a : Option Addr) (cap : Nat) (bs : List Nat), cs = [.slice a bs.length cap] ∧ BOk bs ∧ BytesAt w a bs := by
  rcases open_slice Try.underlying28 h with ⟨rfl, _⟩ | ⟨a, len, cap, m, n, D, Pl, rfl, hb, hl, hm, hmm, _, hx⟩
  · exact ⟨none, 0, [], rfl, ⟨Nat.zero_le _, fun v hv => (by cases hv)⟩, fun i hi => absurd hi (Nat.not_lt_zero _)⟩
  · rw [dcellsU8] at hx
    have hle : len ≤ m := by rw [hmm]; split <;> omega
    obtain ⟨bs, hvl, hvs⟩ := dlist_of (α := Nat) (n := len) (p := fun i v => v < 256 ∧ w.cells? base (a.add (i * 1)) 1 = some [.int .u8 (v : Int)]) (fun i hi => by
      obtain ⟨cs', h1, h2⟩ := hx i (by omega)
      obtain ⟨z, e, _, hw⟩ := DataW.trod_int Try.underlying5 h2
      have hz := dbyte_of_wf hw
      refine ⟨z.toNat, by omega, ?_⟩
      rw [h1, e, Int.toNat_of_nonneg hz.1])
    subst hvl
    refine ⟨some a, cap, bs, rfl, ⟨by omega, dall_of_at fun i hi => (hvs i hi).1⟩, fun i hi => ?_⟩
    have hp := dplain_addr (by decide) (hvs 0 (by omega)).2
    have h1 := (hvs i hi).2
    rw [hp, add_plain] at h1
    obtain ⟨_, h2⟩ := dcells_plain h1
    have h3 := h2 0 (by decide)
    simp only [Nat.add_zero, Nat.mul_one] at h3
    exact ⟨a.block, a.off, by rw [← hp], h3⟩

set_option maxRecDepth 100000 in
theorem openBlks {fuel : Nat} {cs : List Value} {x : DataW H × List MemPlace} (h : DataW.trod enc Try.prog w base spare held fuel 47 cs = some x) :
    ∃ (a : Option Addr) (cap : Nat) (ls : List (List Nat)), cs = [.slice a ls.length cap] ∧ ls.length ≤ maxLen ∧ (∀ b, b ∈ ls → BOk b) ∧ BlksAt w a ls := by
  rcases open_slice Try.underlying47 h with ⟨rfl, _⟩ | ⟨a, len, cap, m, n, D, Pl, rfl, hb, hl, hm, hmm, _, hx⟩
  · exact ⟨none, 0, [], rfl, Nat.zero_le _, fun v hv => (by cases hv), fun i hi => absurd hi (Nat.not_lt_zero _)⟩
  · rw [dcellsBytes] at hx
    have hle : len ≤ m := by rw [hmm]; split <;> omega
    obtain ⟨ls, hvl, hvs⟩ := dlist_of (α := List Nat) (n := len) (p := fun i b => BOk b ∧ ∃ a' cap', w.cells? base (a.add (i * 1)) 1 = some [.slice a' b.length cap'] ∧ BytesAt w a' b) (fun i hi => by
      obtain ⟨cs', h1, h2⟩ := hx i (by omega)
      obtain ⟨a', cap', b, e, hok, hva⟩ := openByts h2
      exact ⟨b, hok, a', cap', by rw [h1, e], hva⟩)
    subst hvl
    refine ⟨some a, cap, ls, rfl, by omega, dall_of_at fun i hi => (hvs i hi).1, fun i hi => ?_⟩
    obtain ⟨_, _, _, hp0, _⟩ := hvs 0 (by omega)
    have hp := dplain_addr (by decide) hp0
    obtain ⟨_, a', cap', h1, hva⟩ := hvs i hi
    rw [hp, add_plain] at h1
    obtain ⟨_, h2⟩ := dcells_plain h1
    have h3 := h2 0 (by decide)
    simp only [Nat.add_zero, Nat.mul_one] at h3
    exact ⟨a.block, a.off, a', cap', by rw [← hp], h3, hva⟩

set_option maxRecDepth 100000 in
theorem openWrite {fuel : Nat} {cs : List Value} {x : DataW H × List MemPlace} (h : DataW.trod enc Try.prog w base spare held fuel 187 cs = some x) :
    ∃ (n : DW) (a : Option Addr) (cap : Nat), I64 n.block ∧ BOk n.bytes ∧ cs = [.int .i64 n.block, .slice a n.bytes.length cap] ∧ BytesAt w a n.bytes := by
  obtain ⟨xs, n, _, rfl, hl, hlen, hf⟩ := DataW.trod_struct Try.underlying187 h
  rw [dcellsWrite] at hl
  match xs, hlen, cs, hl with
  | [y0, y1], _, [c0, c1], _ =>
    have h0 := hf 0 _ rfl
    have h1 := hf 1 _ rfl
    simp [dcellsInt, dcellsBytes] at h0 h1
    obtain ⟨k, e0, rfl, w0⟩ := DataW.trod_int Try.underlying3 h0
    obtain ⟨a, cap, vs, e1, hok1, ha1⟩ := openByts h1
    simp at e0 e1
    subst e0 e1
    exact ⟨⟨k, vs⟩, a, cap, di64_of_wf w0, hok1, rfl, ha1⟩

set_option maxRecDepth 100000 in
theorem openWrites {fuel : Nat} {cs : List Value} {x : DataW H × List MemPlace} (h : DataW.trod enc Try.prog w base spare held fuel 55 cs = some x) :
    ∃ (a : Option Addr) (cap : Nat) (ls : List DW), cs = [.slice a ls.length cap] ∧ ls.length ≤ maxLen ∧ (∀ b, b ∈ ls → I64 b.block ∧ BOk b.bytes) ∧ WrsAt w a ls := by
  rcases open_slice Try.underlying55 h with ⟨rfl, _⟩ | ⟨a, len, cap, m, n, D, Pl, rfl, hb, hl, hm, hmm, _, hx⟩
  · exact ⟨none, 0, [], rfl, Nat.zero_le _, fun v hv => (by cases hv), fun i hi => absurd hi (Nat.not_lt_zero _)⟩
  · rw [dcellsWrite] at hx
    have hle : len ≤ m := by rw [hmm]; split <;> omega
    obtain ⟨ls, hvl, hvs⟩ := dlist_of (α := DW) (n := len) (p := fun i b => (I64 b.block ∧ BOk b.bytes) ∧ ∃ a' cap', w.cells? base (a.add (i * 2)) 2 = some [.int .i64 b.block, .slice a' b.bytes.length cap'] ∧ BytesAt w a' b.bytes) (fun i hi => by
      obtain ⟨cs', h1, h2⟩ := hx i (by omega)
      obtain ⟨b, a', cap', hi1, hok, e, hva⟩ := openWrite h2
      exact ⟨b, ⟨hi1, hok⟩, a', cap', by rw [h1, e], hva⟩)
    subst hvl
    refine ⟨some a, cap, ls, rfl, by omega, dall_of_at fun i hi => (hvs i hi).1, fun i hi => ?_⟩
    obtain ⟨_, _, _, hp0, _⟩ := hvs 0 (by omega)
    have hp := dplain_addr (by decide) hp0
    obtain ⟨_, a', cap', h1, hva⟩ := hvs i hi
    rw [hp, add_plain] at h1
    obtain ⟨_, h2⟩ := dcells_plain h1
    exact ⟨a.block, a.off, a', cap', by rw [← hp], h2 0 (by decide), h2 1 (by decide), hva⟩

set_option maxRecDepth 100000 in
theorem openDisk {v : Value} {d : DataW H} {ps : List MemPlace} {r : Reach} {bs : Nat} (hv : Value.okWide Try.prog w r bs 57 v) (h : DataW.Trod enc Try.prog w base spare held 57 v d ps) :
    ∃ (g : DD) (l : DL), g.Ok ∧ v = g.val l ∧ DAt w l g := by
  unfold Value.okWide at hv
  rw [Try.underlying57] at hv
  obtain ⟨cs, rfl, hsz, _⟩ := hv
  obtain ⟨fuel, h⟩ := h
  obtain ⟨xs, n, _, _, hl, hlen, hf⟩ := DataW.trod_struct Try.underlying57 h
  rw [dcellsDisk] at hsz
  obtain ⟨l⟩ := cs
  match xs, hlen, l, hsz with
  | [y0, y1], _, [c0, c1], _ =>
    have h0 := hf 0 _ rfl
    have h1 := hf 1 _ rfl
    simp [dcellsBlks, dcellsWrites, Value.cells] at h0 h1
    obtain ⟨a, cap, ls, e0, hl0, hb0, ha0⟩ := openBlks h0
    obtain ⟨a', cap', ws, e1, hl1, hw1, ha1⟩ := openWrites h1
    simp at e0 e1
    subst e0 e1
    exact ⟨⟨ls, ws⟩, ⟨a, cap, a', cap'⟩, ⟨hl0, hb0, hl1, fun x hx => (hw1 x hx).1, fun x hx => (hw1 x hx).2⟩, rfl, ha0, ha1⟩

end
end Go.Proofs.Ytobfaielocicpab

/-
  DONE: the row of FnExactSync, proved. Own work.
-/
namespace Go.Proofs.Ytobfaielocicpab
open Go.ChangeShapes Go.WideShapes Go.ChangeAt Go.RowKit

set_option maxRecDepth 100000 in
theorem ownSync : ownKnob Try.prog.godebug = none := by kernel_rfl
theorem laidOutSync : laidOutB Try.prog = true := by kernel_rfl

set_option maxRecDepth 100000 in
theorem liftedSync (os : Os) (started : os.Started) (H : Type) (enc : TypeId × Value → H) :
    ReturnsInHanded {} Try.checked os 8 .any (Rows.fnExactSyncSpec.pre6 enc Try.prog Try.f8 Rows.fnExactSyncRow.domain false) (Rows.fnExactSyncSpec.post enc Try.prog Try.f8 false true false false) := by
  refine returnsInHanded_of_change (C := Try.checked) ownSync started (by kernel_rfl) Try.func8
    (ChangeSpec.witness6 (enc := enc) (C := Try.checked) false ⟨#[], #[.agg #[.slice none 0 0, .slice none 0 0]], []⟩ 8 (by kernel_rfl) (by kernel_rfl) (by kernel_rfl) (by kernel_rfl)) ?_
  intro W base args ds gs before hval0 hW hcnd _
  have hval : ∀ (j : Nat) t v, Try.f8.params[j]? = some t → args[j]? = some v → Value.okWide Try.prog W .any base t v := hval0
  have hW' := hW
  obtain ⟨p, q, hA0, hV, rfl, hfz, hnd⟩ := hW
  have hA : DataW.TrodAll enc Try.prog W 0 (fun _ => true) true Try.f8.params.toList args.toList ds p := hA0
  rw [Try.params8] at hA hval
  obtain ⟨v0, vs0, d0, ds0, p0, q0, hargs, rfl, rfl, h0, r0⟩ := trodAll_cons hA
  obtain ⟨rfl, rfl, rfl⟩ := trodAll_nil r0
  obtain rfl : args = #[v0] := by cases args; simp_all
  obtain ⟨rfl, rfl⟩ := trodVars_none hV
  have k0 := h0
  have lt0 : ∀ x ∈ p0, x.block < W.heap.size := by obtain ⟨m, hm⟩ := k0; exact DataW.trod_lt m _ _ _ hm
  obtain ⟨g, l, hg, rfl, ha⟩ := openDisk (hval 0 57 v0 rfl rfl) h0
  clear hA0 hval0
  refine (lawSync g l W hg ha).mono fun e W' ⟨he, bel⟩ => ?_
  subst he
  exact ⟨_, rfl, _, _, _, [], _, [], hW', trodAll_mk1 (shut_bool Try.underlying4 _), (trodAll_cons_mk (Below.trod laidOutSync (by kernel_rfl) (of_decide_eq_true (by kernel_rfl)) k0 bel lt0) trodAll_mk0), rfl, bel.frame _, fun h => by cases h⟩

set_option maxRecDepth 100000 in
theorem sync_holds : Rows.FnExactSyncSaid :=
  OpenClaim.holds_of_wide 8 Try.f8 rfl rfl rfl rfl rfl rfl rfl ⟨rfl, rfl, rfl, rfl, rfl⟩ rfl rfl rfl rfl rfl (by kernel_rfl) Try.func8 (by kernel_rfl)
    (of_decide_eq_true (by kernel_rfl)) (by unfold Func.isWrapper; first | (rw [if_pos (by decide +kernel)]; kernel_rfl) | (rw [if_neg (by decide +kernel)]; exact ⟨rfl, rfl⟩))
    (fun os started H enc _ => liftedSync os started H enc)

end Go.Proofs.Ytobfaielocicpab
