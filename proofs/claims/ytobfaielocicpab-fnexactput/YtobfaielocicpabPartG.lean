import Derived.Test.YtobfaielocicpabPartF

/-
  LAW: FnExactBlank, walked. Own work.
-/
namespace Go.Proofs.Ytobfaielocicpab
open Go.RowKit

theorem DD.Fit.small {d : DD} (h : d.Fit) : d.Small := ⟨by have := h.bl; omega, fun b hb => by have := h.bb b hb; omega, by have := h.wl; omega, fun x hx => by have := (h.wb x hx).2.2; omega⟩
theorem szBs_64 {l : List (List Nat)} (h : ∀ b, b ∈ l → b.length = 64) : szBs l = 64 * l.length := by
  induction l with
  | nil => simp [szBs]
  | cons x r ih =>
    have h1 := ih (fun b hb => h b (List.mem_cons_of_mem _ hb))
    have h2 := h x (List.mem_cons_self ..)
    simp only [szBs, List.length_cons]
    omega
theorem szWs_64 {l : List DW} (h : ∀ b, b ∈ l → b.bytes.length = 64) : szWs l = 64 * l.length := by
  induction l with
  | nil => simp [szWs]
  | cons x r ih =>
    have h1 := ih (fun b hb => h b (List.mem_cons_of_mem _ hb))
    have h2 := h x (List.mem_cons_self ..)
    simp only [szWs, List.length_cons]
    omega
theorem DD.Fit.mend {d : DD} (h : d.Fit) : d.mend 1 ≤ 1099511627776 := by
  have h1 := d.mend_sz 1
  unfold DD.sz at h1
  rw [szBs_64 h.bb, szWs_64 (fun b hb => (h.wb b hb).2.2)] at h1
  have := h.bl
  have := h.wl
  omega
theorem blank_fit : blankD.Fit := ⟨by simp [blankD], by simp [blankD], fun b hb => by rw [List.eq_of_mem_replicate hb]; simp, fun x hx => by cases hx⟩
theorem blank_ok : blankD.Ok := ⟨by simp [blankD, maxLen], fun b hb => by rw [List.eq_of_mem_replicate hb]; exact ⟨by simp [maxLen], fun x hx => by rw [List.eq_of_mem_replicate hx]; decide⟩, by simp [blankD], fun x hx => (by cases hx), fun x hx => (by cases hx)⟩

set_option maxHeartbeats 4000000 in
set_option maxRecDepth 100000 in
theorem lawBlank (w : World) : Calls Try.prog 5 #[] w fun e w' => e = .returned (.bool true) ∧ Below w.heap.size w w' := by
  obtain ⟨d, hd⟩ := hid_ex blankD
  have hfit : d.Fit := by rw [hd.out]; exact blank_fit
  have hok : d.Ok := by rw [hd.out]; exact blank_ok
  have hm := hfit.mend
  obtain ⟨m, hme⟩ := hid_ex (d.mend 1)
  have hmn : ¬ ((m : Int) < 0) := by omega
  have hmm : ((m : Int) != (m : Int)) = false := by simp
  go_enter Try.func5, Try.ntmps5
  go_upto_region 2 with (go_at_call 30; refine (specBlank_any _).mono ?_; rw [← hd.out]; rintro e w1 ⟨l0, rfl, hat0, hb1⟩)
  have hX0 := DBox.new w1 d l0 50
  have hA := gal hb1 (.cells #[.slice l0.ba d.blocks.length l0.bc, .slice l0.wa d.waiting.length l0.wc] 50)
  have hat := hat0.grow (gal (gre w1) (.cells #[.slice l0.ba d.blocks.length l0.bc, .slice l0.wa d.waiting.length l0.wc] 50))
  generalize w1.alloc (.cells #[.slice l0.ba d.blocks.length l0.bc, .slice l0.wa d.waiting.length l0.wc] 50) = wA at hX0 hA hat ⊢
  generalize w1.heap.size = P0 at hX0 ⊢
  clear hat0 hb1
  go_upto_region 3 with (go_at_call 31; refine (implBlank_any _).mono ?_; rw [← hd.out]; rintro e w2 ⟨lg, fa, ga, fc, gc, rfl, hmd0, hb2⟩)
  have hXG := DBox.new w2 d lg 50
  have hB2 := gal hb2 (.cells #[.slice lg.ba d.blocks.length lg.bc, .slice lg.wa d.waiting.length lg.wc] 50)
  have hmd := hmd0.grow (gal (gre w2) (.cells #[.slice lg.ba d.blocks.length lg.bc, .slice lg.wa d.waiting.length lg.wc] 50))
  have hsB : w2.heap.size ≤ (w2.alloc (.cells #[.slice lg.ba d.blocks.length lg.bc, .slice lg.wa d.waiting.length lg.wc] 50)).heap.size := by simp
  generalize w2.alloc (.cells #[.slice lg.ba d.blocks.length lg.bc, .slice lg.wa d.waiting.length lg.wc] 50) = wB at hXG hB2 hmd hsB ⊢
  have hPA := hX0.lt
  have hs2 := hb2.size
  generalize w2.heap.size = PG at hXG hmd hsB hs2 ⊢
  clear hmd0 hb2
  have hXB := hX0.grow hB2
  obtain ⟨_, x0, x1⟩ := id hXB
  obtain ⟨_, g0, g1⟩ := id hXG
  go_upto_region 5 with (go_at_call 32; refine (eqDisk_same d lg l0 _ hok hmd.at_ (hat.grow hB2)).mono ?_; rintro e w3 ⟨rfl, hb3⟩)
  have hB3 := gca hB2 hb3
  have hmd3 := hmd.grow hb3
  have hX3 := hXB.grow hb3
  have hG3 := hXG.grow hb3
  have hs3 := hb3.size
  clear x0 x1 g0 g1 hXB hXG hmd hX0
  obtain ⟨_, g0, g1⟩ := id hG3
  go_upto_region 7 with (go_at_call 33; rw [show (1 : Int) = ((1 : Nat) : Int) by rfl]; refine (markDisk_any d lg 1 wA.heap.size PG fa ga fc gc _ hfit.small hm (by omega) hmd3).mono ?_; rintro e w4 ⟨rfl, hM4, hK4⟩; rw [← hme.out])
  have hX4 := hX3.kept hK4 (fun e => by omega)
  have hG4 := hG3.kept hK4 (fun e => by omega)
  have hB4 := hB3.trans (hK4.below (B := wA.heap.size) hB3.size (fun z hz e => by omega))
  clear g0 g1 hX3 hG3 hmd3 hB3
  obtain ⟨_, g0, g1⟩ := id hG4
  go_upto_region 13 with (go_at_call 34; rw [show (1 : Int) = ((1 : Nat) : Int) by rfl]; refine (heldDisk_any d lg 1 wA.heap.size PG fa ga fc gc _ hfit.small hm hM4).mono ?_; rintro e w5 ⟨rfl, hb5⟩; rw [← hme.out])
  have hB5 := hB4.trans (hb5.mono hB4.size)
  have hX5 := hX4.grow hb5
  have hG5 := hG4.grow hb5
  have hM5 := hM4.grow hb5
  clear g0 g1 hX4 hG4 hM4 hB4
  go_upto_region 14 with (go_at_call 31; refine (implBlank_any _).mono ?_; rw [← hd.out]; rintro e w6 ⟨lh, fa6, ga6, fc6, gc6, rfl, hmd6, hb6⟩)
  have hXH := DBox.new w6 d lh 50
  have hb7 := gal hb6 (.cells #[.slice lh.ba d.blocks.length lh.bc, .slice lh.wa d.waiting.length lh.wc] 50)
  have hmd7 := hmd6.grow (gal (gre w6) (.cells #[.slice lh.ba d.blocks.length lh.bc, .slice lh.wa d.waiting.length lh.wc] 50))
  generalize w6.alloc (.cells #[.slice lh.ba d.blocks.length lh.bc, .slice lh.wa d.waiting.length lh.wc] 50) = w7 at hXH hb7 hmd7 ⊢
  generalize w6.heap.size = PH at hXH hmd7 ⊢
  have hB7 := hB5.trans (hb7.mono hB5.size)
  have hX7 := hX5.grow hb7
  have hG7 := hG5.grow hb7
  have hM7 := hM5.grow hb7
  clear hX5 hG5 hM5 hB5 hb6 hmd6
  obtain ⟨_, x0, x1⟩ := id hX7
  obtain ⟨_, g0, g1⟩ := id hXH
  go_upto_region 16 with (go_at_call 32; refine (eqDisk_same d lh l0 _ hok hmd7.at_ (hat.grow hB7)).mono ?_; rintro e w8 ⟨rfl, hb8⟩)
  have hB8 := hB7.trans (hb8.mono hB7.size)
  have hG8 := hG7.grow hb8
  have hM8 := hM7.grow hb8
  clear x0 x1 g0 g1 hX7 hXH hmd7 hB7 hG7 hM7
  obtain ⟨_, g0, g1⟩ := id hG8
  go_wp2_with (go_at_call 34; rw [show (1 : Int) = ((1 : Nat) : Int) by rfl]; refine (heldDisk_any d lg 1 wA.heap.size PG fa ga fc gc _ hfit.small hm hM8).mono ?_; rintro e w9 ⟨rfl, hb9⟩; rw [← hme.out])
  go_ret
  exact ⟨rfl, hA.trans ((hB8.trans (hb9.mono hB8.size)).mono hA.size)⟩

end Go.Proofs.Ytobfaielocicpab

/-
  DSZ: the laws' sizes of disks. Own work.
-/
namespace Go.Proofs.Ytobfaielocicpab
open Go.RowKit

set_option maxRecDepth 100000 in
theorem szByteS_any (a : Option Addr) (n cap : Nat) (left : Int) (w : World) (hl : n ≤ maxLen) (h0 : 0 ≤ left) (h1 : left ≤ 1048576) :
    Calls Try.prog 152 #[.slice a n cap, .int .i64 left] w fun e w' => e = .returned (.int .i64 (leftBy left n)) ∧ Below w.heap.size w w' := by
  unfold maxLen at hl
  go_enter Try.func152, Try.ntmps152
  go_wp2
  all_goals go_ret
  · exact ⟨ret_int (leftBy_neg (by assumption)).symm, gre _⟩
  · exact ⟨ret_int (leftBy_pos (Int.not_lt.2 (by assumption))).symm, gre _⟩

set_option maxRecDepth 100000 in
theorem szByteSS_any (a : Option Addr) (cap : Nat) (vs : List (List Nat)) (left : Int) (w : World) (hl : vs.length ≤ maxLen) (hv : ∀ v, v ∈ vs → v.length ≤ maxLen) (h0 : 0 ≤ left) (h1 : left ≤ 1048576) (ha : BlksAt w a vs) :
    Calls Try.prog 97 #[.slice a vs.length cap, .int .i64 left] w fun e w' => e = .returned (.int .i64 (leftBy left (vs.length + szBs vs))) ∧ Below w.heap.size w w' := by
  unfold maxLen at hl
  have hsn := szBs_nonneg vs
  go_enter Try.func97, Try.ntmps97
  go_wp2
  · go_ret
    exact ⟨ret_int (leftBy_neg (by omega)).symm, gre _⟩
  go_loopw [1, 5] (fun l i wr => ∃ k : Nat, k ≤ vs.length ∧ i = .int .i64 k ∧ l = .int .i64 (left - vs.length - szBs (vs.take k)) ∧ 0 ≤ left - vs.length - szBs (vs.take k) ∧ Below w.heap.size w wr) (fun _ i _ => vs.length - (intOf i).toNat)
  case atStart => exact ⟨0, Nat.zero_le _, rfl, by simp [szBs], by simp [szBs]; omega, gre _⟩
  case round =>
    obtain ⟨k, hk, rfl, rfl, hpos, hb⟩ := hrel
    by_cases hlt : k < vs.length
    · obtain ⟨v, b, off, a', c', hvk, hvm, rfl, hc, hva⟩ := (ha.grow hb).get hlt
      have hstep : Hid (szBs (vs.take (k + 1)) = szBs (vs.take k) + v.length) := by rw [hvk.out]; exact szBs_take_succ vs k hlt
      have hle := szBs_take_le vs (k + 1)
      have hn0 := szBs_nonneg (vs.take k)
      go_wp2_with (go_at_call 152; refine (szByteS_any a' v.length c' _ _ (hv v hvm) (by omega) (by omega)).mono ?_; rintro e w' ⟨rfl, hb'⟩)
      · go_ret
        have hn := leftBy_of_neg (by assumption)
        have hs := hstep.out
        exact ⟨ret_int (leftBy_neg (by omega)).symm, gca hb hb'⟩
      · have hn := leftBy_of_nonneg (by assumption)
        have hs := hstep.out
        go_roundw
        case rel => exact ⟨k + 1, by omega, by go_num, by rw [hn.1, hs]; go_num, by omega, gca hb hb'⟩
        case measure => simp [intOf]; omega
    · go_wp2
      go_ret
      have e : k = vs.length := by omega
      subst e
      rw [List.take_length] at hpos
      exact ⟨ret_int (by rw [List.take_length, leftBy_pos (by omega)]; omega), hb⟩

set_option maxRecDepth 100000 in
theorem szWrite_any (x : DW) (a : Option Addr) (cap : Nat) (left : Int) (w : World) (hl : x.bytes.length ≤ maxLen) (h0 : 0 ≤ left) (h1 : left ≤ 1048576) :
    Calls Try.prog 153 #[x.val a cap, .int .i64 left] w fun e w' => e = .returned (.int .i64 (leftBy left x.bytes.length)) ∧ Below w.heap.size w w' := by
  go_enter Try.func153, Try.ntmps153
  go_wp2_with (go_at_call 152; refine (szByteS_any a x.bytes.length cap _ _ hl h0 h1).mono ?_; rintro e w' ⟨rfl, hb'⟩)
  · go_ret
    have hneg := leftBy_of_neg (by assumption)
    exact ⟨ret_int (leftBy_neg (by omega)).symm, gca (gal (gre _) _) hb'⟩
  · go_ret
    exact ⟨rfl, gca (gal (gre _) _) hb'⟩

set_option maxRecDepth 100000 in
theorem szWriteS_any (a : Option Addr) (cap : Nat) (vs : List DW) (left : Int) (w : World) (hl : vs.length ≤ maxLen) (hv : ∀ v, v ∈ vs → v.bytes.length ≤ maxLen) (h0 : 0 ≤ left) (h1 : left ≤ 1048576) (ha : WrsAt w a vs) :
    Calls Try.prog 98 #[.slice a vs.length cap, .int .i64 left] w fun e w' => e = .returned (.int .i64 (leftBy left (vs.length + szWs vs))) ∧ Below w.heap.size w w' := by
  unfold maxLen at hl
  have hsn := szWs_nonneg vs
  go_enter Try.func98, Try.ntmps98
  go_wp2
  · go_ret
    exact ⟨ret_int (leftBy_neg (by omega)).symm, gre _⟩
  go_loopw [1, 5] (fun l i wr => ∃ k : Nat, k ≤ vs.length ∧ i = .int .i64 k ∧ l = .int .i64 (left - vs.length - szWs (vs.take k)) ∧ 0 ≤ left - vs.length - szWs (vs.take k) ∧ Below w.heap.size w wr) (fun _ i _ => vs.length - (intOf i).toNat)
  case atStart => exact ⟨0, Nat.zero_le _, rfl, by simp [szWs], by simp [szWs]; omega, gre _⟩
  case round =>
    obtain ⟨k, hk, rfl, rfl, hpos, hb⟩ := hrel
    by_cases hlt : k < vs.length
    · obtain ⟨v, b, off, a', c', hvk, hvm, rfl, hc, hc2, hva⟩ := (ha.grow hb).get hlt
      have hstep : Hid (szWs (vs.take (k + 1)) = szWs (vs.take k) + v.bytes.length) := by rw [hvk.out]; exact szWs_take_succ vs k hlt
      have hle := szWs_take_le vs (k + 1)
      have hn0 := szWs_nonneg (vs.take k)
      go_wp2_with (go_at_call 153; refine (szWrite_any v a' c' _ _ (hv v hvm) (by omega) (by omega)).mono ?_; rintro e w' ⟨rfl, hb'⟩)
      · go_ret
        have hn := leftBy_of_neg (by assumption)
        have hs := hstep.out
        exact ⟨ret_int (leftBy_neg (by omega)).symm, gca hb hb'⟩
      · have hn := leftBy_of_nonneg (by assumption)
        have hs := hstep.out
        go_roundw
        case rel => exact ⟨k + 1, by omega, by go_num, by rw [hn.1, hs]; go_num, by omega, gca hb hb'⟩
        case measure => simp [intOf]; omega
    · go_wp2
      go_ret
      have e : k = vs.length := by omega
      subst e
      rw [List.take_length] at hpos
      exact ⟨ret_int (by rw [List.take_length, leftBy_pos (by omega)]; omega), hb⟩

set_option maxRecDepth 100000 in
theorem szDisk_any (d : DD) (l : DL) (left : Int) (w : World) (hd : d.Ok) (h0 : 0 ≤ left) (h1 : left ≤ 1048576) (ha : DAt w l d) :
    Calls Try.prog 35 #[d.val l, .int .i64 left] w fun e w' => e = .returned (.int .i64 (leftBy left d.sz)) ∧ Below w.heap.size w w' := by
  have hz : Hid (d.sz = (d.blocks.length + szBs d.blocks) + (d.waiting.length + szWs d.waiting)) := rfl
  have hrz := szBs_nonneg d.blocks
  have hnz := szWs_nonneg d.waiting
  go_enter Try.func35, Try.ntmps35
  go_wp2_with (go_at_call 97; refine (szByteSS_any l.ba l.bc d.blocks _ _ hd.bl (fun v hv => (hd.bb v hv).len) h0 h1 (ha.b.grow (gal (gre _) _))).mono ?_; rintro e w' ⟨rfl, hb'⟩; obtain ⟨hc, hf⟩ := bcell hb')
  · go_ret
    have hneg := leftBy_of_neg (by assumption)
    have := hz.out
    exact ⟨ret_int (leftBy_neg (by omega)).symm, gca (gal (gre _) _) hb'⟩
  · have hnn := leftBy_of_nonneg (by assumption)
    have hB : Below w.heap.size w w' := gca (gal (gre _) _) hb'
    have hle : leftBy left (d.blocks.length + szBs d.blocks) ≤ 1048576 := by omega
    have hge : 0 ≤ leftBy left (d.blocks.length + szBs d.blocks) := by omega
    have hnn' : Hid _ := hnn
    clear hnn
    go_wp2_with (go_at_call 98; refine (szWriteS_any l.wa l.wc d.waiting _ _ hd.wl (fun v hv => (hd.wb v hv).len) hge hle (ha.w.grow hB)).mono ?_; rintro e w'' ⟨rfl, hb''⟩)
    · go_ret
      have hneg := leftBy_of_neg (by assumption)
      have := hz.out
      have := hnn'.out
      exact ⟨ret_int (leftBy_neg (by omega)).symm, gca hB hb''⟩
    · go_ret
      have h1 := leftBy_of_nonneg (by assumption)
      have := hz.out
      have := hnn'.out
      exact ⟨ret_int (by rw [h1.1, leftBy_pos (s := d.sz) (by omega)]; omega), gca hB hb''⟩

end Go.Proofs.Ytobfaielocicpab

/-
  REGIONV: the end of a region that draws its order. Own work.
-/
namespace Go.Proofs.Ytobfaielocicpab
open Go.RowKit

/-- none may come up any more -/
theorem anyU_done {P : Program} {ops : Array Oper} {Q : Exit → Act → World → Prop} {md : Region.Mode} {S : World → Prop} {lst : Nat} {fuel : Nat} {listed : Array Bool} {a : Act} {w : World} (hd : Region.ready md ops listed = []) (hQ : Q .normal a w) : anyU P md ops Q S lst fuel listed a w := by
  cases fuel with
  | zero => exact ⟨hd, hQ⟩
  | succ f => exact ⟨fun _ => hQ, fun i hi => by rw [hd] at hi; cases hi⟩

end Go.Proofs.Ytobfaielocicpab

/-
  LAW: FnExactSync, walked. Own work.
-/
namespace Go.Proofs.Ytobfaielocicpab
open Go.RowKit

/-- disks that a law may hold against each other, and mark -/
structure DD.Tame (d : DD) : Prop where
  ok : d.Ok
  small : d.Small
  mend : d.mend 1 ≤ 1099511627776
theorem zero_tame : zeroD.Tame := ⟨⟨Nat.zero_le _, fun b hb => (by cases hb), Nat.zero_le _, fun x hx => (by cases hx), fun x hx => (by cases hx)⟩, ⟨Nat.zero_le _, fun b hb => (by cases hb), Nat.zero_le _, fun x hx => (by cases hx)⟩, by decide⟩
theorem DD.Fit.tame {d : DD} (h : d.Fit) (hok : d.Ok) : d.Tame := ⟨hok, h.small, h.mend⟩
theorem settle_tame {d : DD} (hd : d.Ok) (keep : Nat → Bool) : (d.settle keep).Tame := by
  cases hok : d.ok with
  | false => rw [settle_no hok]; exact zero_tame
  | true =>
    have hf := DD.fit hok
    rw [settle_yes hok]
    refine DD.Fit.tame ⟨by show (settleN _ _ _ _).length = 130; rw [settleN_length]; exact hf.bl, Nat.zero_le _, settleN_all hf.bb (fun x hx => (hf.wb x hx).2.2) _ (Nat.le_refl _), fun x hx => (by cases hx)⟩ ⟨by show (settleN _ _ _ _).length ≤ maxLen; rw [settleN_length]; exact hd.bl, settleN_all hd.bb hd.wb _ (Nat.le_refl _), Nat.zero_le _, fun x hx => (by cases hx), fun x hx => (by cases hx)⟩
theorem DD.small_mend {d : DD} (h : d.sz ≤ 1048576) : d.mend 1 ≤ 1099511627776 := by have := d.mend_sz 1; omega

set_option maxHeartbeats 4000000 in
set_option maxRecDepth 100000 in
theorem lawSync (d : DD) (l : DL) (w : World) (hd : d.Ok) (ha : DAt w l d) :
    Calls Try.prog 8 #[d.val l] w fun e w' => e = .returned (.bool true) ∧ Below w.heap.size w w' := by
  have hX0 := DBox.new w d l 57
  have hA0 := gal (gre w) (.cells #[.slice l.ba d.blocks.length l.bc, .slice l.wa d.waiting.length l.wc] 57)
  by_cases hs1 : d.sz ≤ 1048576
  · have hs := DD.small hs1
    have hm1 := DD.small_mend hs1
    have hle1 : Hid (leftBy 1048576 d.sz = 1048576 - d.sz) := leftBy_pos (by omega)
    have hd1 : ¬ (1048576 - d.sz < 0) := by omega
    obtain ⟨c, hc⟩ := hid_ex (d.settle keepAll)
    have hct : c.Tame := by rw [hc.out]; exact settle_tame hd _
    have hmc := hct.mend
    obtain ⟨mx, hmx⟩ := hid_ex (d.mend 1)
    have hmxn : ¬ ((mx : Int) < 0) := by omega
    obtain ⟨m, hme⟩ := hid_ex (c.mend 1)
    have hmn : ¬ ((m : Int) < 0) := by omega
    have hmm : ((m : Int) != (m : Int)) = false := by simp
    clear hs1
    go_enter Try.func8, Try.ntmps8
    go_upto_region 6 with (first
      | (go_at_call 35; refine (szDisk_any d l _ _ hd (by decide) (by decide) (ha.grow hA0)).mono ?_; rintro e w1 ⟨rfl, hb1⟩; rw [hle1.out]; obtain ⟨_, x0, x1⟩ := hX0.grow hb1)
      | (go_at_call 37; refine (toDisk_any d l _ hs (ha.grow (gca hA0 hb1))).mono ?_; rintro e w2 ⟨l2, bs2, xs2, rfl, hown2, hb2⟩)
      | (go_at_call 41; refine (specSync_any d l2 _ hd hown2.at_).mono ?_; rw [← hc.out]; rintro e w3 h3; obtain ⟨l0, rfl, hat0, hb3⟩ := h3.at_))
    have hA := gal (gca (gca (gca hA0 hb1) hb2) hb3) (.cells #[.slice l0.ba c.blocks.length l0.bc, .slice l0.wa c.waiting.length l0.wc] 50)
    have hXA := hX0.grow (gal (gca (gca hb1 hb2) hb3) (.cells #[.slice l0.ba c.blocks.length l0.bc, .slice l0.wa c.waiting.length l0.wc] 50))
    have hWA := DBox.new w3 c l0 50
    have hat := hat0.grow (gal (gre w3) (.cells #[.slice l0.ba c.blocks.length l0.bc, .slice l0.wa c.waiting.length l0.wc] 50))
    generalize w3.alloc (.cells #[.slice l0.ba c.blocks.length l0.bc, .slice l0.wa c.waiting.length l0.wc] 50) = wA at hA hXA hWA hat ⊢
    generalize w3.heap.size = P0 at hWA ⊢
    obtain ⟨PA, hPA⟩ := hid_ex w.heap.size
    rw [← hPA.out] at hXA ⊢
    clear x0 x1 hb1 hb2 hb3 hown2 hat0 hX0 hA0
    obtain ⟨_, x0, x1⟩ := id hXA
    go_upto_region 7 with (go_at_call 37; refine (toDisk_any d l _ hs (ha.grow hA)).mono ?_; rintro e w4 ⟨l4, bs4, xs4, rfl, hown4, hb4⟩)
    have hxB := DBox.new w4 d l4 50
    have hbB := gal hb4 (.cells #[.slice l4.ba d.blocks.length l4.bc, .slice l4.wa d.waiting.length l4.wc] 50)
    have hmx0 := hown4.md.grow (gal (gre w4) (.cells #[.slice l4.ba d.blocks.length l4.bc, .slice l4.wa d.waiting.length l4.wc] 50))
    have hs4 : (w4.alloc (.cells #[.slice l4.ba d.blocks.length l4.bc, .slice l4.wa d.waiting.length l4.wc] 50)).heap.size = w4.heap.size + 1 := by simp
    have hs4A := hb4.size
    generalize w4.alloc (.cells #[.slice l4.ba d.blocks.length l4.bc, .slice l4.wa d.waiting.length l4.wc] 50) = wB at hxB hbB hmx0 hs4 ⊢
    generalize w4.heap.size = PX at hxB hmx0 hs4 hs4A ⊢
    have hPAl := hXA.lt
    have hP0l := hWA.lt
    have hXB := hXA.grow hbB
    have hWB := hWA.grow hbB
    generalize hsAe : wA.heap.size = sA at hmx0 hbB hs4A hPAl hP0l
    clear x0 x1 hb4 hown4 hXA hWA
    obtain ⟨_, x0, x1⟩ := id hxB
    go_upto_region 8 with (go_at_call 42; refine (implSync_any d l4 _ hd hmx0.at_).mono ?_; rw [← hc.out]; rintro e w5 ⟨lg, fa, ga, fc, gc, rfl, hmd0, hb5⟩)
    have hGC := DBox.new w5 c lg 50
    have hbC := gal hb5 (.cells #[.slice lg.ba c.blocks.length lg.bc, .slice lg.wa c.waiting.length lg.wc] 50)
    have hmdC := hmd0.grow (gal (gre w5) (.cells #[.slice lg.ba c.blocks.length lg.bc, .slice lg.wa c.waiting.length lg.wc] 50))
    have hs5 : (w5.alloc (.cells #[.slice lg.ba c.blocks.length lg.bc, .slice lg.wa c.waiting.length lg.wc] 50)).heap.size = w5.heap.size + 1 := by simp
    have hs5B := hb5.size
    generalize w5.alloc (.cells #[.slice lg.ba c.blocks.length lg.bc, .slice lg.wa c.waiting.length lg.wc] 50) = wC at hGC hbC hmdC hs5 ⊢
    generalize w5.heap.size = PG at hGC hmdC hs5 hs5B ⊢
    have hxC := hxB.grow hbC
    have hXC := hXB.grow hbC
    have hWC := hWB.grow hbC
    have hmxC := hmx0.grow hbC
    have hAC : Below sA wA wC := by rw [hs4] at hbC; exact hbB.trans (hbC.mono (by omega))
    have hBwC : Below w.heap.size w wC := hA.trans (hAC.mono (by rw [← hsAe]; exact hA.size))
    generalize hsBe : wB.heap.size = sB at hmdC hs4 hs5B
    clear x0 x1 hmd0 hb5 hxB hXB hWB hmx0 hbB hbC
    obtain ⟨_, x0, x1⟩ := id hGC
    obtain ⟨_, g0, g1⟩ := id hWC
    go_upto_region 10 with (go_at_call 32; refine (eqDisk_same c lg l0 _ hct.ok hmdC.at_ (hat.grow (by rw [hsAe]; exact hAC))).mono ?_; rintro e w6 ⟨rfl, hb6⟩)
    have hx6 := hxC.grow hb6
    have hX6 := hXC.grow hb6
    have hW6 := hWC.grow hb6
    have hG6 := hGC.grow hb6
    have hmx6 := hmxC.grow hb6
    have hmd6 := hmdC.grow hb6
    have hA6 := hAC.trans (hb6.mono (by have := hAC.size; omega))
    have hBw6 := gca hBwC hb6
    have hs6 := hb6.size
    clear x0 x1 g0 g1 hxC hXC hWC hGC hmxC hmdC hAC hBwC
    have hB : Below w6.heap.size w6 w6.drew := gdr (gre _)
    refine wp_regionU (fun u => DBox u PX d l4 ∧ DBox u PA d l) 99 (by kernel_rfl) ⟨hx6.grow hB, hX6.grow hB⟩ (fun _ => ?_)
    refine anyU_take (i := 0) (v := ?_) rfl (by kernel_rfl) (by kernel_rfl) (by kernel_rfl) (by kernel_rfl) (fun _ _ _ h => h) (Or.inl ⟨by rfl, ?_⟩) ⟨hx6.grow hB, hX6.grow hB⟩ ?_
    rotate_left
    · intro u hSu; obtain ⟨⟨_, s0, s1⟩, ⟨_, t0, t1⟩⟩ := hSu; go_simp <;> with_reducible rfl
    simp only [Act.put, List.getElem_toArray, List.getElem_cons_zero, List.setIfInBounds_toArray, List.set_cons_zero, List.set_cons_succ]
    refine anyU_take (i := 1) (v := ?_) rfl (by kernel_rfl) (by kernel_rfl) (by kernel_rfl) (by kernel_rfl) (fun _ _ _ h => h) (Or.inl ⟨by rfl, ?_⟩) ⟨hx6.grow hB, hX6.grow hB⟩ ?_
    rotate_left
    · intro u hSu; obtain ⟨⟨_, s0, s1⟩, ⟨_, t0, t1⟩⟩ := hSu; go_simp <;> with_reducible rfl
    simp only [Act.put, List.getElem_toArray, List.getElem_cons_zero, List.getElem_cons_succ, List.setIfInBounds_toArray, List.set_cons_zero, List.set_cons_succ]
    refine anyU_one (i := 2) (by kernel_rfl) rfl (fun K hK => ?_)
    go_simp
    refine (toDisk_any d l _ hs (ha.grow (gca hBw6 hB))).mono ?_
    rintro e w7 ⟨l7, bs7, xs7, rfl, hown7, hb7⟩
    have hB := gca hB hb7
    refine hK.out _ _ ⟨hx6.grow hB, hX6.grow hB⟩ ?_
    clear hK
    refine anyU_one (i := 3) (by kernel_rfl) rfl (fun K hK => ?_)
    go_simp
    refine (eqDisk_same d _ _ _ hd (hmx6.at_.grow hB) hown7.at_).mono ?_
    rintro e w8 ⟨rfl, hb8⟩
    have hB := gca hB hb8
    refine hK.out _ _ ⟨hx6.grow hB, hX6.grow hB⟩ ?_
    clear hK
    refine anyU_one (i := 4) (by kernel_rfl) rfl (fun K hK => ?_)
    go_simp
    refine hK.out _ _ ⟨hx6.grow hB, hX6.grow hB⟩ ?_
    clear hK
    refine anyU_done (by kernel_rfl) ?_
    have hx8 := hx6.grow hB
    have hX8 := hX6.grow hB
    have hW8 := hW6.grow hB
    have hG8 := hG6.grow hB
    have hmx8 := hmx6.grow hB
    have hmd8 := hmd6.grow hB
    have hA8 := hA6.trans (hB.mono (by have := hA6.size; omega))
    have hBw8 := gca hBw6 hB
    have hs8 := hB.size
    clear hx6 hX6 hW6 hG6 hmx6 hmd6 hA6 hBw6 hB hown7 hb7 hb8
    obtain ⟨_, x0, x1⟩ := id hx8
    go_upto_region 14 with (go_at_call 33; rw [show (1 : Int) = ((1 : Nat) : Int) by rfl]; refine (markDisk_any d l4 1 sA PX _ _ _ _ _ hs hm1 (by omega) hmx8).mono ?_; rintro e w9 ⟨rfl, _, hK9⟩; rw [← hmx.out])
    have hX9 := hX8.kept hK9 (fun e => by omega)
    have hW9 := hW8.kept hK9 (fun e => by omega)
    have hG9 := hG8.kept hK9 (fun e => by omega)
    have hmd9 := hmd8.out hK9 (fun b hb _ e => by omega)
    have hA9 := hA8.trans (hK9.below (B := sA) (by have := hA8.size; omega) (fun z hz e => by omega))
    have hBw9 := hBw8.trans (hK9.below (B := w.heap.size) hBw8.size (fun z hz e => by have := hPA.out; omega))
    have hs9 := hK9.size
    clear x0 x1 hx8 hX8 hW8 hG8 hmx8 hmd8 hA8 hBw8 hK9
    obtain ⟨_, x0, x1⟩ := id hG9
    obtain ⟨_, g0, g1⟩ := id hW9
    go_upto_region 16 with (go_at_call 32; refine (eqDisk_same c lg l0 _ hct.ok hmd9.at_ (hat.grow (by rw [hsAe]; exact hA9))).mono ?_; rintro e w10 ⟨rfl, hb10⟩)
    have hX10 := hX9.grow hb10
    have hW10 := hW9.grow hb10
    have hG10 := hG9.grow hb10
    have hmd10 := hmd9.grow hb10
    have hA10 := hA9.trans (hb10.mono (by have := hA9.size; omega))
    have hBw10 := gca hBw9 hb10
    have hs10 := hb10.size
    clear x0 x1 g0 g1 hX9 hW9 hG9 hmd9 hA9 hBw9
    obtain ⟨_, x0, x1⟩ := id hG10
    go_upto_region 18 with (go_at_call 33; rw [show (1 : Int) = ((1 : Nat) : Int) by rfl]; refine (markDisk_any c lg 1 sB PG fa ga fc gc _ hct.small hmc (by omega) hmd10).mono ?_; rintro e w11 ⟨rfl, hM11, hK11⟩; rw [← hme.out])
    have hX11 := hX10.kept hK11 (fun e => by omega)
    have hW11 := hW10.kept hK11 (fun e => by omega)
    have hG11 := hG10.kept hK11 (fun e => by omega)
    have hA11 := hA10.trans (hK11.below (B := sA) (by have := hA10.size; omega) (fun z hz e => by omega))
    have hBw11 := hBw10.trans (hK11.below (B := w.heap.size) hBw10.size (fun z hz e => by have := hPA.out; omega))
    clear x0 x1 hX10 hW10 hG10 hmd10 hA10 hBw10 hK11
    obtain ⟨_, x0, x1⟩ := id hG11
    go_upto_region 24 with (go_at_call 34; rw [show (1 : Int) = ((1 : Nat) : Int) by rfl]; refine (heldDisk_any c lg 1 sB PG fa ga fc gc _ hct.small hmc hM11).mono ?_; rintro e w12 ⟨rfl, hb12⟩; rw [← hme.out])
    have hX12 := hX11.grow hb12
    have hW12 := hW11.grow hb12
    have hG12 := hG11.grow hb12
    have hM12 := hM11.grow hb12
    have hA12 := hA11.trans (hb12.mono (by have := hA11.size; omega))
    have hBw12 := gca hBw11 hb12
    clear x0 x1 hX11 hW11 hG11 hM11 hA11 hBw11
    obtain ⟨_, x0, x1⟩ := id hX12
    go_upto_region 25 with (first
      | (go_at_call 37; refine (toDisk_any d l _ hs (ha.grow hBw12)).mono ?_; rintro e w13 ⟨l13, bs13, xs13, rfl, hown13, hb13⟩)
      | (go_at_call 42; refine (implSync_any d l13 _ hd hown13.at_).mono ?_; rw [← hc.out]; rintro e w14 ⟨lh, fa14, ga14, fc14, gc14, rfl, hmd14, hb14⟩))
    have hHD := DBox.new w14 c lh 50
    have hbD := gal (gca hb13 hb14) (.cells #[.slice lh.ba c.blocks.length lh.bc, .slice lh.wa c.waiting.length lh.wc] 50)
    have hmdD := hmd14.grow (gal (gre w14) (.cells #[.slice lh.ba c.blocks.length lh.bc, .slice lh.wa c.waiting.length lh.wc] 50))
    generalize w14.alloc (.cells #[.slice lh.ba c.blocks.length lh.bc, .slice lh.wa c.waiting.length lh.wc] 50) = wD at hHD hbD hmdD ⊢
    generalize w14.heap.size = PH at hHD hmdD ⊢
    have hWD := hW12.grow hbD
    have hGD := hG12.grow hbD
    have hMD := hM12.grow hbD
    have hAD := hA12.trans (hbD.mono (by have := hA12.size; omega))
    have hBwD := gca hBw12 hbD
    clear x0 x1 hX12 hW12 hG12 hM12 hA12 hBw12 hb13 hb14 hmd14 hown13
    obtain ⟨_, x0, x1⟩ := id hHD
    obtain ⟨_, g0, g1⟩ := id hWD
    go_upto_region 27 with (go_at_call 32; refine (eqDisk_same c lh l0 _ hct.ok hmdD.at_ (hat.grow (by rw [hsAe]; exact hAD))).mono ?_; rintro e w15 ⟨rfl, hb15⟩)
    have hG15 := hGD.grow hb15
    have hM15 := hMD.grow hb15
    have hBw15 := gca hBwD hb15
    clear x0 x1 g0 g1 hWD hGD hMD hAD hBwD hmdD hHD
    obtain ⟨_, x0, x1⟩ := id hG15
    go_wp2_with (go_at_call 34; rw [show (1 : Int) = ((1 : Nat) : Int) by rfl]; refine (heldDisk_any c lg 1 sB PG fa ga fc gc _ hct.small hmc hM15).mono ?_; rintro e w16 ⟨rfl, hb16⟩; rw [← hme.out])
    go_ret
    exact ⟨rfl, gca hBw15 hb16⟩
  · have hle1 : Hid (leftBy 1048576 d.sz = -1) := leftBy_neg (by omega)
    go_enter Try.func8, Try.ntmps8
    go_wp2_with (go_at_call 35; refine (szDisk_any d l _ _ hd (by decide) (by decide) (ha.grow hA0)).mono ?_; rintro e w1 ⟨rfl, hb1⟩; rw [hle1.out])
    go_ret
    exact ⟨rfl, gca hA0 hb1⟩

end Go.Proofs.Ytobfaielocicpab

/-
  SPUT: the specification's Put. Own work.
-/
namespace Go.Proofs.Ytobfaielocicpab
open Go.RowKit

/-- a disk's variable -/
def IsD (w : World) (b : Nat) : Prop := ∃ c, w.heap[b]? = some (.cells c 50 (0, 0))
theorem IsD.kept {p : Nat → Prop} {w w' : World} {b : Nat} (h : IsD w b) (K : Kept p w w') (hn : ¬ p b) : IsD w' b := by
  obtain ⟨c, hc⟩ := h
  exact ⟨c, (K.block b (Array.getElem?_eq_some_iff.1 hc).1 hn).trans hc⟩
theorem IsD.grow {w w' : World} {b : Nat} (h : IsD w b) (hb : Below w.heap.size w w') : IsD w' b := h.kept (Kept.of_below hb (fun _ => False)) (fun e => e)
theorem not_W_of_D {w : World} {b : Nat} (h : IsD w b) : ¬ IsW w b := fun ⟨c, hc⟩ => by
  obtain ⟨c', hc'⟩ := h
  rw [hc] at hc'
  simp at hc'
theorem not_B_of_D {w : World} {b : Nat} (h : IsD w b) : ¬ IsB w b := fun ⟨c, hc⟩ => by
  obtain ⟨c', hc'⟩ := h
  rw [hc] at hc'
  simp at hc'
theorem not_S_of_D {w : World} {b : Nat} (h : IsD w b) : ¬ IsS w b := fun ⟨c, hc⟩ => by
  obtain ⟨c', hc'⟩ := h
  rw [hc] at hc'
  simp at hc'
theorem put_no1 {d : DD} {b : Int} {bs : List Nat} (h : d.ok = false) : d.put b bs = zeroD := by simp [DD.put, h]
theorem put_no2 {d : DD} {b : Int} {bs : List Nat} (h : wrOk ⟨b, bs⟩ = false) : d.put b bs = zeroD := by simp [DD.put, h]
theorem put_no3 {d : DD} {b : Int} {bs : List Nat} (h : d.waiting.length = 200) : d.put b bs = zeroD := by simp [DD.put, h]
theorem put_yes {d : DD} {b : Int} {bs : List Nat} (h : d.ok = true) (h2 : wrOk ⟨b, bs⟩ = true) (h3 : d.waiting.length ≠ 200) : d.put b bs = ⟨d.blocks, d.waiting ++ [⟨b, bs⟩]⟩ := by simp [DD.put, h, h2, h3]

set_option maxHeartbeats 4000000 in
set_option maxRecDepth 100000 in
theorem specPut_any (d : DD) (l : DL) (b : Int) (ka : Option Addr) (ks : List Nat) (kc : Nat) (w : World) (hd : d.Ok) (ha : DAt w l d) (_hb : I64 b) (hkl : ks.length ≤ maxLen) (hka : BytesAt w ka ks) : Calls Try.prog 39 #[d.val l, .int .i64 b, .slice ka ks.length kc] w (CPost (d.put b ks) w) := by
  have hA := gal (gal (gre w) (.cells #[.slice l.ba d.blocks.length l.bc, .slice l.wa d.waiting.length l.wc] 50)) (.cells #[.slice none 0 0, .slice none 0 0] 50)
  have hX0 := (DBox.new w d l 50).grow (gal (gre _) (.cells #[.slice none 0 0, .slice none 0 0] 50))
  have hR0 := VB.new_at (w.alloc (.cells #[.slice l.ba d.blocks.length l.bc, .slice l.wa d.waiting.length l.wc] 50)) (.slice none 0 0) (.slice none 0 0) 50 (w.heap.size + 1) (by simp)
  have hkl' := hkl
  unfold maxLen at hkl'
  cases hok : d.ok with
  | false =>
    have hok' : Hid _ := hok
    clear hok
    rw [put_no1 hok'.out]
    go_enter Try.func39, Try.ntmps39
    go_wp2_with (go_at_call 36; refine (specDiskOk_any d l _ hd (ha.grow hA)).mono ?_; rintro e w2 ⟨rfl, hb2⟩; rw [hok'.out]; obtain ⟨z0, z1, zf⟩ := hR0.grow hb2; obtain ⟨_, x0, x1⟩ := hX0.grow hb2)
    obtain ⟨c0, c1, K⟩ := ret2 (A := .slice none 0 0) (B := .slice none 0 0) z0 z1
    refine bodyPost_ret (v := .agg #[.slice none 0 0, .slice none 0 0]) (by simp [results, Try.results39, go_sem, c0, c1]) rfl (CPost.zero ?_)
    exact (gca hA hb2).trans (K.below (gca hA hb2).size (fun z hz e => by omega))
  | true =>
    have hok' : Hid _ := hok
    clear hok
    have hfit := DD.fit hok'.out
    by_cases g0 : b < 0
    · rw [put_no2 (by simp [wrOk]; omega)]
      go_enter Try.func39, Try.ntmps39
      go_wp2_with (go_at_call 36; refine (specDiskOk_any d l _ hd (ha.grow hA)).mono ?_; rintro e w2 ⟨rfl, hb2⟩; rw [hok'.out]; obtain ⟨z0, z1, zf⟩ := hR0.grow hb2; obtain ⟨_, x0, x1⟩ := hX0.grow hb2)
      obtain ⟨c0, c1, K⟩ := ret2 (A := .slice none 0 0) (B := .slice none 0 0) z0 z1
      refine bodyPost_ret (v := .agg #[.slice none 0 0, .slice none 0 0]) (by simp [results, Try.results39, go_sem, c0, c1]) rfl (CPost.zero ?_)
      exact (gca hA hb2).trans (K.below (gca hA hb2).size (fun z hz e => by omega))
    · by_cases g1 : b ≥ 130
      · rw [put_no2 (by simp [wrOk]; omega)]
        go_enter Try.func39, Try.ntmps39
        go_wp2_with (go_at_call 36; refine (specDiskOk_any d l _ hd (ha.grow hA)).mono ?_; rintro e w2 ⟨rfl, hb2⟩; rw [hok'.out]; obtain ⟨z0, z1, zf⟩ := hR0.grow hb2; obtain ⟨_, x0, x1⟩ := hX0.grow hb2)
        obtain ⟨c0, c1, K⟩ := ret2 (A := .slice none 0 0) (B := .slice none 0 0) z0 z1
        refine bodyPost_ret (v := .agg #[.slice none 0 0, .slice none 0 0]) (by simp [results, Try.results39, go_sem, c0, c1]) rfl (CPost.zero ?_)
        exact (gca hA hb2).trans (K.below (gca hA hb2).size (fun z hz e => by omega))
      · by_cases g2 : ks.length = 64
        · have hn64 : Hid _ := g2
          have t2 : ((ks.length : Int) != 64) = false := by simp; omega
          by_cases g3 : d.waiting.length = 200
          · have t3 : ((d.waiting.length : Int) == 200) = true := by simp; omega
            rw [put_no3 g3]
            clear g2 g3
            go_enter Try.func39, Try.ntmps39
            go_wp2_with (go_at_call 36; refine (specDiskOk_any d l _ hd (ha.grow hA)).mono ?_; rintro e w2 ⟨rfl, hb2⟩; rw [hok'.out]; obtain ⟨z0, z1, zf⟩ := hR0.grow hb2; obtain ⟨_, x0, x1⟩ := hX0.grow hb2)
            obtain ⟨c0, c1, K⟩ := ret2 (A := .slice none 0 0) (B := .slice none 0 0) z0 z1
            refine bodyPost_ret (v := .agg #[.slice none 0 0, .slice none 0 0]) (by simp [results, Try.results39, go_sem, c0, c1]) rfl (CPost.zero ?_)
            exact (gca hA hb2).trans (K.below (gca hA hb2).size (fun z hz e => by omega))
          · have t3 : ((d.waiting.length : Int) == 200) = false := by simp; omega
            rw [put_yes hok'.out (by simp [wrOk, g2]; omega) g3]
            obtain ⟨k0, hkk, hk0, hk1, hk2⟩ := info_parts info_implWrite
            have hs : d.Small := ⟨by have := hfit.bl; omega, fun b hb => by have := hfit.bb b hb; omega, by have := hfit.wl; omega, fun x hx => by have := (hfit.wb x hx).2.2; omega⟩
            clear g2 g3
            go_enter Try.func39, Try.ntmps39
            go_upto_region 4 with (first
              | (go_at_call 36; refine (specDiskOk_any d l _ hd (ha.grow hA)).mono ?_; rintro e w1 ⟨rfl, hb1⟩; rw [hok'.out]; obtain ⟨_, x0, x1⟩ := hX0.grow hb1)
              | (go_at_call 102; refine (l3copy_any d l _ hs (ha.grow (gca hA hb1))).mono ?_; rintro e w2 ⟨lb, lw, ba, bc, wa, wc, rfl, hlb, hlw, hL2, hW2, hb2⟩))
            have hAl := gal (gre w2) (.cells #[.slice ba d.blocks.length bc, .slice wa d.waiting.length wc] 50)
            have hL3 := hL2.grow hAl
            have hW3 := hW2.grow hAl
            have hV3 := VB.new w2 (.slice ba d.blocks.length bc) (.slice wa d.waiting.length wc) 50
            have hD3 : IsD (w2.alloc (.cells #[.slice ba d.blocks.length bc, .slice wa d.waiting.length wc] 50)) w2.heap.size := ⟨_, blk_new_at _ _ _ rfl⟩
            have hR3 := (hR0.grow hb1).grow (gca hb2 hAl)
            have hb3A := gca (gca hA hb1) (gca hb2 hAl)
            have hbs : Hid (w.heap.size + 1 < w1.heap.size) := (hR0.grow hb1).lt
            have hVb : Hid (w1.heap.size ≤ w2.heap.size) := hb2.size
            have hlwl : Hid (lw.length = d.waiting.length) := by show _ = _; rw [← hlw]; simp
            generalize w2.alloc (.cells #[.slice ba d.blocks.length bc, .slice wa d.waiting.length wc] 50) = w3 at hAl hL3 hW3 hV3 hD3 hR3 hb3A ⊢
            generalize w2.heap.size = V at hV3 hD3 hVb ⊢
            generalize w1.heap.size = base at hL3 hW3 hbs hVb
            clear hAl hL2 hW2 hb2 hb1 x0 x1 hX0 hA
            refine wp_regionU (fun u => u.cell? ⟨V, 1, none⟩ = some (.slice wa d.waiting.length wc)) 9 (by kernel_rfl) (hV3.grow (gdr (gre w3))).v1 (fun hS0 => ?_)
            have hLd := hL3.grow (gdr (gre w3))
            have hWd := hW3.grow (gdr (gre w3))
            have hVd := hV3.grow (gdr (gre w3))
            have hRd := hR3.grow (gdr (gre w3))
            have hDd := hD3.grow (gdr (gre w3))
            have hbd := gdr hb3A
            have hvd := (hka.grow hb3A).grow (gdr (gre w3))
            generalize w3.drew = wd at hLd hWd hVd hRd hDd hbd hvd hS0 ⊢
            refine anyU_take (i := 0) (v := ?_) rfl (by kernel_rfl) (by kernel_rfl) (by kernel_rfl) (by kernel_rfl) (fun _ _ _ h => h) (Or.inl ⟨by rfl, ?_⟩) hS0 ?_
            rotate_left
            · intro u hSu; (try dsimp only at hSu); go_simp <;> with_reducible rfl
            simp only [Act.put, List.getElem_toArray, List.getElem_cons_zero, List.setIfInBounds_toArray, List.set_cons_zero, List.set_cons_succ]
            refine anyU_take (i := 1) (v := ?_) rfl (by kernel_rfl) (by kernel_rfl) (by kernel_rfl) (by kernel_rfl) (fun _ _ _ h => h) (Or.inl ⟨by rfl, ?_⟩) hS0 ?_
            rotate_left
            · intro u hSu; (try dsimp only at hSu); go_simp <;> with_reducible rfl
            simp only [Act.put, List.getElem_toArray, List.getElem_cons_zero, List.getElem_cons_succ, List.setIfInBounds_toArray, List.set_cons_zero, List.set_cons_succ]
            refine anyU_take (i := 2) (v := ?_) rfl (by kernel_rfl) (by kernel_rfl) (by kernel_rfl) (by kernel_rfl) (fun _ _ _ h => h) (Or.inl ⟨by rfl, ?_⟩) hS0 ?_
            rotate_left
            · intro u hSu; (try dsimp only at hSu); go_simp <;> with_reducible rfl
            simp only [Act.put, List.getElem_toArray, List.getElem_cons_zero, List.getElem_cons_succ, List.setIfInBounds_toArray, List.set_cons_zero, List.set_cons_succ]
            refine anyU_take (i := 3) (v := ?_) rfl (by kernel_rfl) (by kernel_rfl) (by kernel_rfl) (by kernel_rfl) (fun _ _ _ h => h) (Or.inl ⟨by rfl, ?_⟩) hS0 ?_
            rotate_left
            · intro u hSu; (try dsimp only at hSu); go_simp <;> with_reducible rfl
            simp only [Act.put, List.getElem_toArray, List.getElem_cons_zero, List.getElem_cons_succ, List.setIfInBounds_toArray, List.set_cons_zero, List.set_cons_succ]
            refine anyU_one (i := 4) (by kernel_rfl) rfl (fun K hK => ?_)
            go_simp
            refine (l2copy_any ka ks kc _ (by have := hn64.out; omega) hvd).mono ?_
            rintro e w4 ⟨oa, oc, rfl, hoy, hB1⟩
            have hS1 := cell_later hB1 hS0
            refine hK.out _ _ hS1 ?_
            clear hK
            have hL1 := hLd.grow hB1
            have hW1 := hWd.grow hB1
            have hV1 := hVd.grow hB1
            have hR1 := hRd.grow hB1
            have hD1 := hDd.grow hB1
            have hbel1 := gca hbd hB1
            have hy : w4.ownsRow base 5 1 (.slice oa ks.length oc) ks.length (bcells ks) := owns_le hoy (by have := hVd.lt; have := hVb.out; omega)
            refine anyU_one (i := 5) (by kernel_rfl) rfl (fun K hK => ?_)
            go_simp
            refine hK.out _ _ hS1 ?_
            clear hK
            have hB2 := gal (gre w4) (.cells #[.int .i64 b, .slice oa ks.length oc] 133)
            have hS2 := cell_later hB2 hS1
            have hS2' : Hid _ := hS2
            clear hS2
            refine anyU_one (i := 6) (by kernel_rfl) rfl (fun K hK => ?_)
            go_simp
            refine hK.out _ _ hS2'.out ?_
            clear hK
            have hL2 := hL1.grow hB2
            have hW2 := hW1.grow hB2
            have hV2 := hV1.grow hB2
            have hR2 := hR1.grow hB2
            have hD2 := hD1.grow hB2
            have hbel2 := gca hbel1 hB2
            have hy2 := (Kept.of_below hB2 (fun _ => False)).owns hy (fun _ _ e => e)
            have hnew := World.news_of_block (cs := #[.int .i64 b, .slice oa ks.length oc]) (t := 133) (fr := (0, 0)) (blk_new_at w4 (.cells #[.int .i64 b, .slice oa ks.length oc] 133) _ rfl)
            have hs2 : (w4.alloc (.cells #[.int .i64 b, .slice oa ks.length oc] 133)).heap.size = w4.heap.size + 1 := by simp
            generalize w4.alloc (.cells #[.int .i64 b, .slice oa ks.length oc] 133) = w5 at hB2 hS2' hL2 hW2 hV2 hR2 hD2 hbel2 hy2 hnew hs2 ⊢
            have hwl := hfit.wl
            refine anyU_one (i := 7) (by kernel_rfl) rfl (fun K hK => ?_)
            refine step_append_lies _ (by rfl) (.tmp 34) (.tmp 39) 48 rfl base 133 k0 _ 2 32 Try.underlying48 hkk hk0 hk1 hk2 rfl (by decide) (.slice wa d.waiting.length wc) d.waiting.length (wCells lw) (by rfl) (by have := hW2.own; rw [hlwl.out] at this; exact this) ⟨w4.heap.size, 0, none⟩ 1 1 [.int .i64 b, .slice oa ks.length oc] (by rfl) rfl hnew (by simp [Value.oneCell']) (by decide) (by unfold maxLen; omega) (by omega) (by have := hV2.lt; have := hVb.out; omega) (w4.heap.size + 1) hs2 ?_
            intro gg cc w6 hown5 hgrow5 hat5 hlt5
            have K5 := Kept.of_grown hgrow5
            have hz5 : ∀ z, (Value.slice wa d.waiting.length wc).ownBlock = some z → IsW w5 z ∧ base ≤ z := fun z e => by have h8 := hW2.own; rw [hlwl.out] at h8; exact owns_isW h8 e
            have hW5 := hW2.push (y := ⟨⟨b, ks⟩, oa, oc⟩) hy2 (by rw [hlwl.out]; exact hown5) (by rw [hlwl.out]; exact hgrow5)
            have hL5 := hL2.kept K5 (fun z e _ => ⟨fun hS => not_W_of_S hS (hz5 z e).1, not_B_of_W (hz5 z e).1⟩)
            have hV5 := hV2.kept K5 (fun e => not_W_of_D hD2 (hz5 _ e).1)
            have hR5 := hR2.kept K5 (fun e => by have := (hz5 _ e).2; have := hbs.out; omega)
            have hD5 := hD2.kept K5 (fun e => not_W_of_D hD2 (hz5 _ e).1)
            refine hK.out _ _ hV5.v1 ?_
            clear hK
            simp only [Act.put, List.getElem_toArray, List.getElem_cons_zero, List.getElem_cons_succ, List.setIfInBounds_toArray, List.set_cons_zero, List.set_cons_succ]
            refine anyU_one (i := 8) (by kernel_rfl) rfl (fun K hK => ?_)
            go_simp
            refine hK.out _ _ hV5.v1 ?_
            clear hK
            have fz := hV5.vf
            have c8 := hV5.v1
            refine anyU_last (by kernel_rfl) rfl (by kernel_rfl) (fun K hK => ?_)
            go_simp
            refine hK.out _ _ ?_
            clear hK
            have hbel5 := hbel2.trans (K5.below (B := w.heap.size) hbel2.size (fun z hz e => by have := (hz5 _ e).2; have := hbs.out; omega))
            have K6 := Kept.one w6 V 1 (.slice (some ⟨gg, 0, none⟩) (d.waiting.length + 1) cc)
            have hW6 := hW5.kept K6 (fun z e _ => by subst e; exact ⟨not_W_of_D hD5, not_B_of_D hD5⟩)
            have hL6 := hL5.kept K6 (fun z e _ => by subst e; exact ⟨not_S_of_D hD5, not_B_of_D hD5⟩)
            have hV6 := hV5.set1 (.slice (some ⟨gg, 0, none⟩) (d.waiting.length + 1) cc)
            have hR6 := hR5.kept K6 (by have := hVb.out; have := hbs.out; omega)
            have hbel6 := hbel5.trans (K6.below (B := w.heap.size) hbel5.size (fun z hz e => by have := hVb.out; have := hbs.out; omega))
            generalize w6.setCell ⟨V, 1, none⟩ (.slice (some ⟨gg, 0, none⟩) (d.waiting.length + 1) cc) = w7 at hW6 hL6 hV6 hR6 hbel6 ⊢
            have y0 := hV6.v0
            have y1 := hV6.v1
            have z0 := hR6.v0
            have z1 := hR6.v1
            have zf := hR6.vf
            obtain ⟨c0, c1, K⟩ := ret2 (A := .slice ba d.blocks.length bc) (B := .slice (some ⟨gg, 0, none⟩) (d.waiting.length + 1) cc) z0 z1
            have hRb : w.heap.size + 1 < base := by have := hbs.out; omega
            have hfL := ((hL6.set (V := w.heap.size + 1) hRb 0 (.slice ba d.blocks.length bc)).set (V := w.heap.size + 1) hRb 1 (.slice (some ⟨gg, 0, none⟩) (d.waiting.length + 1) cc)).le (base' := w.heap.size) (by omega)
            have hfW := ((hW6.set (V := w.heap.size + 1) hRb 0 (.slice ba d.blocks.length bc)).set (V := w.heap.size + 1) hRb 1 (.slice (some ⟨gg, 0, none⟩) (d.waiting.length + 1) cc)).le (base' := w.heap.size) (by omega)
            have hbel := hbel6.trans (K.below hbel6.size (fun z hz e => by omega))
            clear K hRb
            go_wp2
            refine bodyPost_ret (v := .agg #[.slice ba d.blocks.length bc, .slice (some ⟨gg, 0, none⟩) (d.waiting.length + 1) cc]) (by simp [results, Try.results39, go_sem, c0, c1]) rfl ⟨lb, lw ++ [⟨⟨b, ks⟩, oa, oc⟩], ba, bc, some ⟨gg, 0, none⟩, cc, by simp [DD.val], hlb, by rw [List.map_append, hlw]; rfl, hfL, hfW, hbel⟩
        · have t2 : ((ks.length : Int) != 64) = true := by simp; omega
          rw [put_no2 (by simp [wrOk, g2])]
          clear g2
          go_enter Try.func39, Try.ntmps39
          go_wp2_with (go_at_call 36; refine (specDiskOk_any d l _ hd (ha.grow hA)).mono ?_; rintro e w2 ⟨rfl, hb2⟩; rw [hok'.out]; obtain ⟨z0, z1, zf⟩ := hR0.grow hb2; obtain ⟨_, x0, x1⟩ := hX0.grow hb2)
          obtain ⟨c0, c1, K⟩ := ret2 (A := .slice none 0 0) (B := .slice none 0 0) z0 z1
          refine bodyPost_ret (v := .agg #[.slice none 0 0, .slice none 0 0]) (by simp [results, Try.results39, go_sem, c0, c1]) rfl (CPost.zero ?_)
          exact (gca hA hb2).trans (K.below (gca hA hb2).size (fun z hz e => by omega))

end Go.Proofs.Ytobfaielocicpab

/-
  IPUT: the program's Put. Own work.
-/
namespace Go.Proofs.Ytobfaielocicpab
open Go.RowKit

set_option maxHeartbeats 1000000 in
set_option maxRecDepth 100000 in
theorem drvPut_no (x : DW) (a : Option Addr) (cap p : Nat) (bl : List (List Nat)) (pa : Option Addr) (pc : Nat) (ws : List DW) (kv : Value) (w : World) (hb : I64 x.block) (hkl : x.bytes.length ≤ maxLen) (_hw : ws.length ≤ 201) (hno : wrOk x = false ∨ ws.length = 200) (hDr : Dr w p bl pa pc ws kv) :
    Calls Try.prog 105 #[.pointer (some ⟨p, 0, none⟩), x.val a cap] w fun e w' => e = .returned (.bool false) ∧ Below w.heap.size w w' := by
  have hA := gal (gre w) (.cells #[.int .i64 x.block, .slice a x.bytes.length cap] 133)
  have hY0 := VB.new_at w (.int .i64 x.block) (.slice a x.bytes.length cap) 133 w.heap.size rfl
  cases hwr : wrOk x with
  | false =>
    have hwr' : Hid _ := hwr
    clear hwr hno
    obtain ⟨y0, y1, yf⟩ := id hY0
    go_enter Try.func105, Try.ntmps105
    go_wp2_with (go_at_call 101; refine (writeOk_any x a cap _ hb hkl).mono ?_; rintro e w3 ⟨rfl, hb3⟩; rw [hwr'.out])
    go_ret
    exact ⟨rfl, gca hA hb3⟩
  | true =>
    have g3 : ws.length = 200 := hno.resolve_left (by rw [hwr]; simp)
    have t3 : ((ws.length : Int) == 200) = true := by simp; omega
    have hwr' : Hid _ := hwr
    clear hwr hno g3
    obtain ⟨y0, y1, yf⟩ := id hY0
    go_enter Try.func105, Try.ntmps105
    go_wp2_with (go_at_call 101; refine (writeOk_any x a cap _ hb hkl).mono ?_; rintro e w3 ⟨rfl, hb3⟩; rw [hwr'.out]; have x0 := ((hDr.d.grow hA).grow hb3).ws)
    go_ret
    exact ⟨rfl, gca hA hb3⟩

set_option maxHeartbeats 1000000 in
set_option maxRecDepth 100000 in
theorem drvPut_yes (x : DW) (a : Option Addr) (cap p : Nat) (bl : List (List Nat)) (pa : Option Addr) (pc : Nat) (ws : List DW) (kv : Value) (w : World) (hb : I64 x.block) (hkl : x.bytes.length ≤ maxLen) (hw : ws.length ≤ 200) (hwr : wrOk x = true) (g3 : ws.length ≠ 200) (ha : BytesAt w a x.bytes) (hfar : ∀ b off, a = some ⟨b, off, none⟩ → b < p) (hDr : Dr w p bl pa pc ws kv) :
    Calls Try.prog 105 #[.pointer (some ⟨p, 0, none⟩), x.val a cap] w fun e w' => e = .returned (.bool true) ∧ ∃ pa' pc', Dr w' p bl pa' pc' (ws ++ [x]) kv ∧ Kept (fun b => p ≤ b) w w' := by
  have hA := gal (gre w) (.cells #[.int .i64 x.block, .slice a x.bytes.length cap] 133)
  have hY0 := VB.new_at w (.int .i64 x.block) (.slice a x.bytes.length cap) 133 w.heap.size rfl
  have t3 : ((ws.length : Int) == 200) = false := by simp; omega
  have hn64 : Hid (x.bytes.length = 64) := by have := hwr; simp only [wrOk, Bool.and_eq_true, decide_eq_true_eq] at this; exact this.2
  have hwr' : Hid _ := hwr
  clear hwr g3
  obtain ⟨y0, y1, yf⟩ := id hY0
  go_enter Try.func105, Try.ntmps105
  go_wp2_with (first
    | (go_at_call 101; refine (writeOk_any x a cap _ hb hkl).mono ?_; rintro e w3 ⟨rfl, hb3⟩; rw [hwr'.out]; have x0 := ((hDr.d.grow hA).grow hb3).ws; obtain ⟨y0, y1, yf⟩ := hY0.grow hb3)
    | (go_at_call 155; refine (take_any x a cap p bl pa pc ws kv _ hn64.out hw (ha.grow (gca hA hb3)) hfar (hDr.grow (gca hA hb3))).mono ?_; rintro e w5 ⟨rfl, pa5, pc5, hDr5, hK5⟩))
  go_ret
  exact ⟨rfl, pa5, pc5, hDr5, (Kept.of_below (gca hA hb3) _).trans hK5 (fun _ _ e => e)⟩

set_option maxHeartbeats 4000000 in
set_option maxRecDepth 100000 in
theorem implPut_any (d : DD) (l : DL) (b : Int) (ka : Option Addr) (ks : List Nat) (kc : Nat) (w : World) (hd : d.Ok) (ha : DAt w l d) (hb : I64 b) (hkl : ks.length ≤ maxLen) (hka : BytesAt w ka ks) : Calls Try.prog 40 #[d.val l, .int .i64 b, .slice ka ks.length kc] w (DPost (d.put b ks) w) := by
  have hA := gal (gal (gre w) (.cells #[.slice l.ba d.blocks.length l.bc, .slice l.wa d.waiting.length l.wc] 50)) (.cells #[.slice none 0 0, .slice none 0 0] 50)
  have hX0 := (DBox.new w d l 50).grow (gal (gre _) (.cells #[.slice none 0 0, .slice none 0 0] 50))
  have hR0 := VB.new_at (w.alloc (.cells #[.slice l.ba d.blocks.length l.bc, .slice l.wa d.waiting.length l.wc] 50)) (.slice none 0 0) (.slice none 0 0) 50 (w.heap.size + 1) (by simp)
  cases hok : d.ok with
  | false =>
    have hok' : Hid _ := hok
    clear hok
    rw [put_no1 hok'.out]
    go_enter Try.func40, Try.ntmps40
    go_wp2_with (go_at_call 38; refine (implDiskOk_any d l _ hd (ha.grow hA)).mono ?_; rintro e w2 ⟨rfl, hb2⟩; rw [hok'.out]; obtain ⟨z0, z1, zf⟩ := hR0.grow hb2)
    obtain ⟨c0, c1, K⟩ := ret2 (A := .slice none 0 0) (B := .slice none 0 0) z0 z1
    refine bodyPost_ret (v := .agg #[.slice none 0 0, .slice none 0 0]) (by simp [results, Try.results40, go_sem, c0, c1]) rfl (DPost.zero ?_)
    exact (gca hA hb2).trans (K.below (gca hA hb2).size (fun z hz e => by omega))
  | true =>
    have hok' : Hid _ := hok
    clear hok
    have hfit := DD.fit hok'.out
    have hwl := hfit.wl
    by_cases hno : wrOk ⟨b, ks⟩ = false ∨ d.waiting.length = 200
    · have hno' : Hid _ := hno
      have hz : d.put b ks = zeroD := by
        rcases hno with h | h
        · exact put_no2 h
        · exact put_no3 h
      rw [hz]
      clear hno hz
      go_enter Try.func40, Try.ntmps40
      go_wp2_with (first
        | (go_at_call 38; refine (implDiskOk_any d l _ hd (ha.grow hA)).mono ?_; rintro e w2 ⟨rfl, hb2⟩; rw [hok'.out]; obtain ⟨_, x0, x1⟩ := hX0.grow hb2)
        | (go_at_call 104; refine (driveOf_any d l _ hfit (ha.grow (gca hA hb2))).mono ?_; rintro e w4 ⟨p, pa, pc, rfl, hp4, hDr, hb4⟩)
        | (go_at_call 105; refine (drvPut_no ⟨b, ks⟩ ka kc p d.blocks pa pc d.waiting .nilFunc _ hb hkl (by omega) hno'.out hDr).mono ?_; rintro e w5 ⟨rfl, hb5⟩; obtain ⟨z0, z1, zf⟩ := ((hR0.grow hb2).grow hb4).grow hb5))
      obtain ⟨c0, c1, K⟩ := ret2 (A := .slice none 0 0) (B := .slice none 0 0) z0 z1
      refine bodyPost_ret (v := .agg #[.slice none 0 0, .slice none 0 0]) (by simp [results, Try.results40, go_sem, c0, c1]) rfl (DPost.zero ?_)
      exact (gca (gca (gca hA hb2) hb4) hb5).trans (K.below (gca (gca (gca hA hb2) hb4) hb5).size (fun z hz e => by omega))
    · obtain ⟨hwr, g3⟩ : wrOk ⟨b, ks⟩ = true ∧ d.waiting.length ≠ 200 := ⟨by cases h : wrOk ⟨b, ks⟩ with | true => rfl | false => exact absurd (Or.inl h) hno, fun h => hno (Or.inr h)⟩
      have hwr' : Hid _ := hwr
      have g3' : Hid _ := g3
      rw [put_yes hok'.out hwr g3]
      clear hwr g3 hno
      obtain ⟨d', hd'⟩ := hid_ex (DD.mk d.blocks (d.waiting ++ [⟨b, ks⟩]))
      rw [← hd'.out]
      have hn64 : Hid (ks.length = 64) := by have := hwr'.out; simp only [wrOk, Bool.and_eq_true, decide_eq_true_eq] at this; exact this.2
      have hfar0 : ∀ b off, ka = some ⟨b, off, none⟩ → b < w.heap.size := fun b off e => by
        obtain ⟨b', off', e', hc'⟩ := hka 0 (by have := hn64.out; omega)
        have h1 := World.block_lt_of_cell? _ _ hc'
        rw [e] at e'
        have h2 := congrArg (fun q => q.map Addr.block) e'
        simp at h1 h2
        omega
      go_enter Try.func40, Try.ntmps40
      go_wp2_with (first
        | (go_at_call 38; refine (implDiskOk_any d l _ hd (ha.grow hA)).mono ?_; rintro e w2 ⟨rfl, hb2⟩; rw [hok'.out]; obtain ⟨_, x0, x1⟩ := hX0.grow hb2)
        | (go_at_call 104; refine (driveOf_any d l _ hfit (ha.grow (gca hA hb2))).mono ?_; rintro e w4 ⟨p, pa, pc, rfl, hp4, hDr, hb4⟩; have hR4 := (hR0.grow hb2).grow hb4; have hb4A := gca (gca hA hb2) hb4; have hwp : w.heap.size + 1 < p := (by have := (hR0.grow hb2).lt; omega); have hfar : ∀ b off, ka = some ⟨b, off, none⟩ → b < p := (fun b off e => by have := hfar0 b off e; omega))
        | (go_at_call 105; refine (drvPut_yes ⟨b, ks⟩ ka kc p d.blocks pa pc d.waiting .nilFunc _ hb hkl (by omega) hwr'.out g3'.out (hka.grow hb4A) hfar hDr).mono ?_; rintro e w5 ⟨rfl, pa5, pc5, hDr5, hK5⟩; have hR5 := hR4.kept hK5 (by omega); have hb5A := hb4A.trans (hK5.below (B := w.heap.size) hb4A.size (fun z hz e => by omega)))
        | (go_at_call 90; refine (disk_any p _ pa5 pc5 _ _ _ (by rw [List.length_append]; simp; have := g3'.out; omega) hDr5).mono ?_; rw [← hd'.out]; rintro e w6 ⟨l6, fa, ga, fc, gc, rfl, hmd, hb6⟩; obtain ⟨z0, z1, zf⟩ := hR5.grow hb6))
      obtain ⟨c0, c1, K⟩ := ret2 (A := .slice l6.ba d'.blocks.length l6.bc) (B := .slice l6.wa d'.waiting.length l6.wc) z0 z1
      have hb6A := gca hb5A hb6
      refine bodyPost_ret (v := d'.val l6) (by simp [results, Try.results40, go_sem, c0, c1]) rfl ⟨l6, fa, ga, fc, gc, rfl, hmd.last K (by have := hR5.lt; omega) (by have := hb5A.size; omega) K.size, ?_⟩
      exact hb6A.trans (K.below hb6A.size (fun z hz e => by omega))

theorem put_tame {d : DD} {b : Int} {ks : List Nat} (hd : d.Ok) (hb : I64 b) (hk : BOk ks) : (d.put b ks).Ok ∧ (d.put b ks = zeroD ∨ (d.put b ks).Fit) := by
  cases hok : d.ok with
  | false => rw [put_no1 hok]; exact ⟨⟨Nat.zero_le _, fun b hb => (by cases hb), Nat.zero_le _, fun x hx => (by cases hx), fun x hx => (by cases hx)⟩, Or.inl rfl⟩
  | true =>
    cases hwr : wrOk ⟨b, ks⟩ with
    | false => rw [put_no2 hwr]; exact ⟨⟨Nat.zero_le _, fun b hb => (by cases hb), Nat.zero_le _, fun x hx => (by cases hx), fun x hx => (by cases hx)⟩, Or.inl rfl⟩
    | true =>
      by_cases h : d.waiting.length = 200
      · rw [put_no3 h]; exact ⟨⟨Nat.zero_le _, fun b hb => (by cases hb), Nat.zero_le _, fun x hx => (by cases hx), fun x hx => (by cases hx)⟩, Or.inl rfl⟩
      · have hf := DD.fit hok
        rw [put_yes hok hwr h]
        have hl : (d.waiting ++ [(⟨b, ks⟩ : DW)]).length = d.waiting.length + 1 := by simp
        have hw := hf.wl
        have hwr2 : 0 ≤ b ∧ b < 130 ∧ ks.length = 64 := by
          simp only [wrOk, Bool.and_eq_true, decide_eq_true_eq] at hwr
          exact ⟨hwr.1.1, hwr.1.2, hwr.2⟩
        refine ⟨⟨hd.bl, hd.bb, by show (d.waiting ++ [(⟨b, ks⟩ : DW)]).length ≤ maxLen; rw [hl]; unfold maxLen; omega, fun x hx => ?_, fun x hx => ?_⟩, Or.inr ⟨hf.bl, by show (d.waiting ++ [(⟨b, ks⟩ : DW)]).length ≤ 200; rw [hl]; omega, hf.bb, fun x hx => ?_⟩⟩
        all_goals
          rcases List.mem_append.1 hx with e | e
        · exact hd.wi x e
        · obtain rfl : x = (⟨b, ks⟩ : DW) := by simpa using e
          exact hb
        · exact hd.wb x e
        · obtain rfl : x = (⟨b, ks⟩ : DW) := by simpa using e
          exact hk
        · exact hf.wb x e
        · obtain rfl : x = (⟨b, ks⟩ : DW) := by simpa using e
          exact hwr2

end Go.Proofs.Ytobfaielocicpab
