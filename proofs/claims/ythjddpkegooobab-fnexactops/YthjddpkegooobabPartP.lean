import Derived.Deep.RegionHeld3
import Derived.ProofKit
import Derived.OpenShut
import Derived.Deep.Slices
import Derived.Test.YthjddpkegooobabPartO

/-
  OMARK: marks in ops. Own work.
-/
namespace Go.Proofs.Ythjddpkegooobab
open Go.RowKit

/-- one op, marked -/
theorem MOs.step {w w' : World} {lo hi : Nat} {a : Option Addr} {n : Nat} {S : Nat → Bool} {B : Nat → Int} {F : Nat → List Nat} {fa : Nat → Option Addr} {fc : Nat → Nat} (h : MOs w lo hi a n S B F fa fc) {j : Nat} (hj : j < n) {g : Nat} (hg : a = some ⟨g, 0, none⟩) (s : Bool) (k : Int) {ys : List Nat} (hy : ys.length = (F j).length) (hB : BB w' lo hi (fa j) ys) (hK : Kept (fun b => F j ≠ [] ∧ fa j = some ⟨b, 0, none⟩) ((w.setCell ⟨g, j * 3, none⟩ (.bool s)).setCell ⟨g, j * 3 + 1, none⟩ (.int .i64 k)) w') :
    MOs w' lo hi a n (fun i => if i = j then s else S i) (fun i => if i = j then k else B i) (fun i => if i = j then ys else F i) fa fc := by
  obtain ⟨g', m, f, h1, h2, h3, h4, h5, h6⟩ := h.row (by omega)
  rw [hg] at h1
  obtain rfl := some_addr h1
  have hp : ∀ b, F j ≠ [] ∧ fa j = some ⟨b, 0, none⟩ → IsB w b := fun b hb => (h.tb ⟨j, hj, hb.1, hb.2⟩).2.2
  have hS := ((Kept.refl (fun b => b = g) w).set (a := ⟨g, j * 3, none⟩) (fun _ => rfl) (.bool s)).set (a := ⟨g, j * 3 + 1, none⟩) (fun _ => rfl) (.int .i64 k)
  have hnil : ∀ i, (if i = j then ys else F i) ≠ [] → F i ≠ [] := fun i hi => by
    by_cases e : i = j
    · subst e
      rw [if_pos rfl] at hi
      intro e2
      rw [e2] at hy
      exact hi (List.eq_nil_of_length_eq_zero hy)
    · rw [if_neg e] at hi; exact hi
  refine ⟨fun _ => ?_, fun i hi => ?_, fun i i2 hij hj2 n1 n2 => h.far i i2 hij hj2 (hnil i n1) (hnil i2 n2)⟩
  · refine ⟨g, m, _, hg, h2, h3, hK.rowIs ((h4.set (j * 3) (.bool s)).set (j * 3 + 1) (.int .i64 k)) (fun hb => not_B_of_O (rowIs_isO h4) (hp g hb)), h5, fun i hi => ⟨?_, ?_, ?_⟩⟩
    · show (if i * 3 = j * 3 + 1 then _ else if i * 3 = j * 3 then _ else _) = _
      rw [if_neg (by omega)]
      by_cases e : i = j
      · subst e; simp
      · rw [if_neg (by omega), if_neg e]; exact (h6 i hi).1
    · show (if i * 3 + 1 = j * 3 + 1 then _ else if i * 3 + 1 = j * 3 then _ else _) = _
      by_cases e : i = j
      · subst e; simp
      · rw [if_neg (by omega), if_neg (by omega), if_neg e]; exact (h6 i hi).2.1
    · show (if i * 3 + 2 = j * 3 + 1 then _ else if i * 3 + 2 = j * 3 then _ else _) = Value.slice (fa i) (if i = j then ys else F i).length (fc i)
      rw [if_neg (by omega), if_neg (by omega)]
      split
      · rename_i e; subst e; rw [hy]; exact (h6 i hi).2.2
      · exact (h6 i hi).2.2
  · show BB w' lo _ (fa i) (if i = j then ys else F i)
    split
    · rename_i e; subst e; exact hB
    · rename_i e
      by_cases e0 : F i = []
      · exact Or.inl e0
      refine ((h.byt i hi).kept hS (fun b hb hne hq => ?_)).kept hK (fun b hb _ hq => h.ne hi hj e e0 hq.1 b hb hq.2)
      subst hq
      exact not_B_of_O (rowIs_isO h4) (h.tb ⟨i, hi, hne, hb⟩).2.2

theorem mod3_int (q : Nat) : ((q : Int) % 3 == 0) = decide (q % 3 = 0) := by
  by_cases h : q % 3 = 0
  · rw [show (q : Int) % 3 = 0 by omega]; simp [h]
  · have : ¬ ((q : Int) % 3 = 0) := by omega
    simp [h, this]

set_option maxRecDepth 100000 in
theorem markOpS_any (a : Option Addr) (n cap k lo hi : Nat) (S : Nat → Bool) (B : Nat → Int) (F : Nat → List Nat) (fa : Nat → Option Addr) (fc : Nat → Nat) (w : World) (hn : n ≤ 1048576) (hl : ∀ i, i < n → (F i).length ≤ 1048576) (hk : oE F k n ≤ 1099511627776) (h : MOs w lo hi a n S B F fa fc) :
    Calls Try.prog 64 #[.slice a n cap, .int .i64 k] w fun e w' => e = .returned (.int .i64 (oE F k n : Nat)) ∧ MOs w' lo hi a n (oS F k) (fun i => ((oE F k i + 1 : Nat) : Int)) (oM F k) fa fc ∧ Kept (fun b => lo ≤ b ∧ b < hi) w w' := by
  go_enter Try.func64, Try.ntmps64
  go_wp2
  go_loopw [1, 5] (fun c i wr => ∃ (j q : Nat) (T : Nat → Bool) (C : Nat → Int) (G : Nat → List Nat), j ≤ n ∧ Hid (q = oE F k j) ∧ c = .int .i64 (q : Int) ∧ i = .int .i64 (j : Int) ∧ MOs wr lo hi a n T C G fa fc ∧ (∀ i, i < j → T i = oS F k i ∧ C i = ((oE F k i + 1 : Nat) : Int) ∧ G i = oM F k i) ∧ (∀ i, j ≤ i → G i = F i) ∧ Kept (fun b => lo ≤ b ∧ b < hi) w wr) (fun _ i _ => n - (intOf i).toNat)
  case atStart => exact ⟨0, k, S, B, F, Nat.zero_le _, rfl, rfl, rfl, h, fun i hi => absurd hi (Nat.not_lt_zero _), fun _ _ => rfl, Kept.refl _ _⟩
  case round =>
    obtain ⟨j, q, T, C, G, hj, hq, rfl, rfl, hM, hG1, hG2, hK⟩ := hrel
    have hqle : q ≤ 1099511627776 := by have := oE_le F k hj; have := hq.out; omega
    by_cases hlt : j < n
    · obtain ⟨g, m, f, rfl, h2, h3, h4, h5, h6⟩ := hM.row (by omega)
      have hq2 : q + 2 ≤ 1099511627776 := by have h8 := oE_le F k (show j + 1 ≤ n by omega); have h9 := hq.out; simp only [oE] at h8; omega
      have c0 := h4.cell (i := j * 3) (by omega)
      have c1 := h4.cell (i := j * 3 + 1) (by omega)
      have c2 := h4.cell (i := j * 3 + 2) (by omega)
      have fz := h4.frozen
      rw [(h6 j hlt).1] at c0
      rw [(h6 j hlt).2.1] at c1
      rw [(h6 j hlt).2.2, hG2 j (Nat.le_refl _)] at c2
      obtain ⟨sb, hsb⟩ := hid_ex (decide (q % 3 = 0))
      have hm3 : ((q : Int) % 3 == 0) = sb := by rw [hsb.out]; exact mod3_int q
      have i0 : (0 : Int) ≤ (j : Int) := by omega
      have i1 : (j : Int) < (n : Int) := by omega
      have hBj := hM.byt j hlt
      have hBj := hBj.kept (((Kept.refl (fun b => b = g) wr).set (a := ⟨g, j * 3, none⟩) (fun _ => rfl) (.bool sb)).set (a := ⟨g, j * 3 + 1, none⟩) (fun _ => rfl) (.int .i64 ((q : Int) + 1))) (fun b hb hne hq => by subst hq; exact not_B_of_O (rowIs_isO h4) (hM.tb ⟨j, hlt, hne, hb⟩).2.2)
      rw [hG2 j (Nat.le_refl _)] at hBj
      have hlj := hl j hlt
      obtain ⟨ys, hys⟩ := hid_ex (F j)
      rw [← hys.out] at c2 hBj hlj
      go_wp2_with (go_at_call 22; rw [show ((q : Int) + 1 + 1) = ((q + 2 : Nat) : Int) by omega]; refine (markBytes_any (fa j) ys (fc j) (q + 2) lo hi _ hlj hq2 hBj).mono ?_; rintro e w2 ⟨rfl, hB2, hK2⟩)
      go_roundw
      case rel =>
        have e1 : G j = F j := hG2 j (Nat.le_refl _)
        have hb1 : marksB (q + 2) ys.length = oM F k j := by rw [hys.out, hq.out]; rfl
        refine ⟨j + 1, q + 2 + ys.length, _, _, _, by omega, by show _ = _; rw [hq.out, hys.out]; rfl, by go_num, by go_num, hM.step hlt rfl sb ((q : Int) + 1) (ys := marksB (q + 2) ys.length) (by rw [marksB_length, e1, hys.out]) hB2 (hK2.mono (fun b _ hb => by rw [e1, ← hys.out]; exact hb)), fun i hi => ⟨?_, ?_, ?_⟩, fun i hi => ?_, ((hK.set (fun _ => ⟨h2, h3⟩) _).set (fun _ => ⟨h2, h3⟩) _).trans hK2 (fun b _ hb => by rw [hys.out] at hb; have := h.tb (b := b) ⟨j, hlt, hb.1, hb.2⟩; exact ⟨this.1, this.2.1⟩)⟩
        · show (if i = j then _ else _) = _
          split
          · rename_i e; rw [e, hsb.out, hq.out]; rfl
          · exact (hG1 i (by omega)).1
        · show (if i = j then _ else _) = _
          split
          · rename_i e; rw [e, hq.out]; omega
          · exact (hG1 i (by omega)).2.1
        · show (if i = j then _ else _) = _
          split
          · rename_i e; rw [e]; exact hb1
          · exact (hG1 i (by omega)).2.2
        · show (if i = j then _ else _) = _
          rw [if_neg (by omega)]; exact hG2 i (by omega)
      case measure => simp [intOf]; omega
    · obtain rfl : j = n := by omega
      go_wp2
      go_ret
      exact ⟨by rw [hq.out]; rfl, hM.congr (fun i hi => (hG1 i hi).1.symm) (fun i hi => (hG1 i hi).2.1.symm) (fun i hi => (hG1 i hi).2.2.symm), hK⟩

set_option maxRecDepth 100000 in
theorem heldOpS_any (a : Option Addr) (n cap k lo hi : Nat) (F : Nat → List Nat) (fa : Nat → Option Addr) (fc : Nat → Nat) (w : World) (hn : n ≤ 1048576) (hl : ∀ i, i < n → (F i).length ≤ 1048576) (hk : oE F k n ≤ 1099511627776) (h : MOs w lo hi a n (oS F k) (fun i => ((oE F k i + 1 : Nat) : Int)) (oM F k) fa fc) :
    Calls Try.prog 65 #[.slice a n cap, .int .i64 k] w fun e w' => e = .returned (.int .i64 (oE F k n : Nat)) ∧ Below w.heap.size w w' := by
  go_enter Try.func65, Try.ntmps65
  go_wp2
  go_loopw [1, 5] (fun c i wr => ∃ (j q : Nat), j ≤ n ∧ Hid (q = oE F k j) ∧ c = .int .i64 (q : Int) ∧ i = .int .i64 (j : Int) ∧ Below w.heap.size w wr) (fun _ i _ => n - (intOf i).toNat)
  case atStart => exact ⟨0, k, Nat.zero_le _, rfl, rfl, rfl, gre _⟩
  case round =>
    obtain ⟨j, q, hj, hq, rfl, rfl, hb⟩ := hrel
    have hqle : q ≤ 1099511627776 := by have := oE_le F k hj; have := hq.out; omega
    have hM := h.out (Kept.of_below hb (fun _ => False)) (fun _ _ _ e => e)
    by_cases hlt : j < n
    · obtain ⟨g, m, f, rfl, h2, h3, h4, h5, h6⟩ := hM.row (by omega)
      have hq2 : q + 2 ≤ 1099511627776 := by have h8 := oE_le F k (show j + 1 ≤ n by omega); have h9 := hq.out; simp only [oE] at h8; omega
      have c0 := h4.cell (i := j * 3) (by omega)
      have c1 := h4.cell (i := j * 3 + 1) (by omega)
      have c2 := h4.cell (i := j * 3 + 2) (by omega)
      obtain ⟨sb, hsb⟩ := hid_ex (oS F k j)
      have hm3 : ((q : Int) % 3 == 0) = sb := by rw [hsb.out, mod3_int, hq.out]; rfl
      rw [(h6 j hlt).1, ← hsb.out] at c0
      rw [(h6 j hlt).2.1, ← hq.out, show ((q + 1 : Nat) : Int) = (q : Int) + 1 by omega] at c1
      rw [(h6 j hlt).2.2] at c2
      have i0 : (0 : Int) ≤ (j : Int) := by omega
      have i1 : (j : Int) < (n : Int) := by omega
      have hBj := (hM.byt j hlt).bytes
      have hlj := hl j hlt
      unfold oM at c2 hBj
      rw [marksB_length] at c2
      rw [← hq.out] at hBj
      obtain ⟨x, hx⟩ := hid_ex (F j).length
      rw [← hx.out] at c2 hBj hlj
      have hd : ¬ (((q + 2 : Nat) : Int) + (x : Int) < 0) := by omega
      have hd2 : ¬ (((q + 2 + x : Nat) : Int) < 0) := by omega
      have hn2 : ((q : Int) + 1 != (q : Int) + 1) = false := by simp
      have hn3 : (sb != sb) = false := by simp
      go_wp2_with (go_at_call 23; rw [show ((q : Int) + 1 + 1) = ((q + 2 : Nat) : Int) by omega]; refine (heldByteS_any (fa j) x (fc j) (q + 2) _ hlj hq2 hBj).mono ?_; rintro e w2 ⟨rfl, hb2⟩)
      go_roundw
      case rel => exact ⟨j + 1, q + 2 + x, by omega, by show _ = _; rw [hq.out, hx.out]; rfl, by go_num, by go_num, gca hb hb2⟩
      case measure => simp [intOf]; omega
    · obtain rfl : j = n := by omega
      go_wp2
      go_ret
      exact ⟨by rw [hq.out]; rfl, hb⟩

end Go.Proofs.Ythjddpkegooobab

/-
  DSZ: the laws' sizes of disks. Own work.
-/
namespace Go.Proofs.Ythjddpkegooobab
open Go.RowKit

set_option maxRecDepth 100000 in
theorem szByteS_any (a : Option Addr) (n cap : Nat) (left : Int) (w : World) (hl : n ≤ maxLen) (h0 : 0 ≤ left) (h1 : left ≤ 1048576) :
    Calls Try.prog 152 #[.slice a n cap, .int .i64 left] w fun e w' => e = .returned (.int .i64 (leftBy left n)) ∧ Below w.heap.size w w' := by
  unfold maxLen at hl
  go_enter Try.func152, Try.ntmps152
  go_wp2
  all_goals go_ret
  · exact ⟨ret_int (leftBy_neg (by assumption)).symm, gre _⟩
  · exact ⟨ret_int (leftBy_pos (Int.not_lt.2 (by assumption))).symm, gre _⟩

set_option maxRecDepth 100000 in
theorem szByteSS_any (a : Option Addr) (cap : Nat) (vs : List (List Nat)) (left : Int) (w : World) (hl : vs.length ≤ maxLen) (hv : ∀ v, v ∈ vs → v.length ≤ maxLen) (h0 : 0 ≤ left) (h1 : left ≤ 1048576) (ha : BlksAt w a vs) :
    Calls Try.prog 97 #[.slice a vs.length cap, .int .i64 left] w fun e w' => e = .returned (.int .i64 (leftBy left (vs.length + szBs vs))) ∧ Below w.heap.size w w' := by
  unfold maxLen at hl
  have hsn := szBs_nonneg vs
  go_enter Try.func97, Try.ntmps97
  go_wp2
  · go_ret
    exact ⟨ret_int (leftBy_neg (by omega)).symm, gre _⟩
  go_loopw [1, 5] (fun l i wr => ∃ k : Nat, k ≤ vs.length ∧ i = .int .i64 k ∧ l = .int .i64 (left - vs.length - szBs (vs.take k)) ∧ 0 ≤ left - vs.length - szBs (vs.take k) ∧ Below w.heap.size w wr) (fun _ i _ => vs.length - (intOf i).toNat)
  case atStart => exact ⟨0, Nat.zero_le _, rfl, by simp [szBs], by simp [szBs]; omega, gre _⟩
  case round =>
    obtain ⟨k, hk, rfl, rfl, hpos, hb⟩ := hrel
    by_cases hlt : k < vs.length
    · obtain ⟨v, b, off, a', c', hvk, hvm, rfl, hc, hva⟩ := (ha.grow hb).get hlt
      have hstep : Hid (szBs (vs.take (k + 1)) = szBs (vs.take k) + v.length) := by rw [hvk.out]; exact szBs_take_succ vs k hlt
      have hle := szBs_take_le vs (k + 1)
      have hn0 := szBs_nonneg (vs.take k)
      go_wp2_with (go_at_call 152; refine (szByteS_any a' v.length c' _ _ (hv v hvm) (by omega) (by omega)).mono ?_; rintro e w' ⟨rfl, hb'⟩)
      · go_ret
        have hn := leftBy_of_neg (by assumption)
        have hs := hstep.out
        exact ⟨ret_int (leftBy_neg (by omega)).symm, gca hb hb'⟩
      · have hn := leftBy_of_nonneg (by assumption)
        have hs := hstep.out
        go_roundw
        case rel => exact ⟨k + 1, by omega, by go_num, by rw [hn.1, hs]; go_num, by omega, gca hb hb'⟩
        case measure => simp [intOf]; omega
    · go_wp2
      go_ret
      have e : k = vs.length := by omega
      subst e
      rw [List.take_length] at hpos
      exact ⟨ret_int (by rw [List.take_length, leftBy_pos (by omega)]; omega), hb⟩

set_option maxRecDepth 100000 in
theorem szWrite_any (x : DW) (a : Option Addr) (cap : Nat) (left : Int) (w : World) (hl : x.bytes.length ≤ maxLen) (h0 : 0 ≤ left) (h1 : left ≤ 1048576) :
    Calls Try.prog 153 #[x.val a cap, .int .i64 left] w fun e w' => e = .returned (.int .i64 (leftBy left x.bytes.length)) ∧ Below w.heap.size w w' := by
  go_enter Try.func153, Try.ntmps153
  go_wp2_with (go_at_call 152; refine (szByteS_any a x.bytes.length cap _ _ hl h0 h1).mono ?_; rintro e w' ⟨rfl, hb'⟩)
  · go_ret
    have hneg := leftBy_of_neg (by assumption)
    exact ⟨ret_int (leftBy_neg (by omega)).symm, gca (gal (gre _) _) hb'⟩
  · go_ret
    exact ⟨rfl, gca (gal (gre _) _) hb'⟩

set_option maxRecDepth 100000 in
theorem szWriteS_any (a : Option Addr) (cap : Nat) (vs : List DW) (left : Int) (w : World) (hl : vs.length ≤ maxLen) (hv : ∀ v, v ∈ vs → v.bytes.length ≤ maxLen) (h0 : 0 ≤ left) (h1 : left ≤ 1048576) (ha : WrsAt w a vs) :
    Calls Try.prog 98 #[.slice a vs.length cap, .int .i64 left] w fun e w' => e = .returned (.int .i64 (leftBy left (vs.length + szWs vs))) ∧ Below w.heap.size w w' := by
  unfold maxLen at hl
  have hsn := szWs_nonneg vs
  go_enter Try.func98, Try.ntmps98
  go_wp2
  · go_ret
    exact ⟨ret_int (leftBy_neg (by omega)).symm, gre _⟩
  go_loopw [1, 5] (fun l i wr => ∃ k : Nat, k ≤ vs.length ∧ i = .int .i64 k ∧ l = .int .i64 (left - vs.length - szWs (vs.take k)) ∧ 0 ≤ left - vs.length - szWs (vs.take k) ∧ Below w.heap.size w wr) (fun _ i _ => vs.length - (intOf i).toNat)
  case atStart => exact ⟨0, Nat.zero_le _, rfl, by simp [szWs], by simp [szWs]; omega, gre _⟩
  case round =>
    obtain ⟨k, hk, rfl, rfl, hpos, hb⟩ := hrel
    by_cases hlt : k < vs.length
    · obtain ⟨v, b, off, a', c', hvk, hvm, rfl, hc, hc2, hva⟩ := (ha.grow hb).get hlt
      have hstep : Hid (szWs (vs.take (k + 1)) = szWs (vs.take k) + v.bytes.length) := by rw [hvk.out]; exact szWs_take_succ vs k hlt
      have hle := szWs_take_le vs (k + 1)
      have hn0 := szWs_nonneg (vs.take k)
      go_wp2_with (go_at_call 153; refine (szWrite_any v a' c' _ _ (hv v hvm) (by omega) (by omega)).mono ?_; rintro e w' ⟨rfl, hb'⟩)
      · go_ret
        have hn := leftBy_of_neg (by assumption)
        have hs := hstep.out
        exact ⟨ret_int (leftBy_neg (by omega)).symm, gca hb hb'⟩
      · have hn := leftBy_of_nonneg (by assumption)
        have hs := hstep.out
        go_roundw
        case rel => exact ⟨k + 1, by omega, by go_num, by rw [hn.1, hs]; go_num, by omega, gca hb hb'⟩
        case measure => simp [intOf]; omega
    · go_wp2
      go_ret
      have e : k = vs.length := by omega
      subst e
      rw [List.take_length] at hpos
      exact ⟨ret_int (by rw [List.take_length, leftBy_pos (by omega)]; omega), hb⟩

set_option maxRecDepth 100000 in
theorem szDisk_any (d : DD) (l : DL) (left : Int) (w : World) (hd : d.Ok) (h0 : 0 ≤ left) (h1 : left ≤ 1048576) (ha : DAt w l d) :
    Calls Try.prog 35 #[d.val l, .int .i64 left] w fun e w' => e = .returned (.int .i64 (leftBy left d.sz)) ∧ Below w.heap.size w w' := by
  have hz : Hid (d.sz = (d.blocks.length + szBs d.blocks) + (d.waiting.length + szWs d.waiting)) := rfl
  have hrz := szBs_nonneg d.blocks
  have hnz := szWs_nonneg d.waiting
  go_enter Try.func35, Try.ntmps35
  go_wp2_with (go_at_call 97; refine (szByteSS_any l.ba l.bc d.blocks _ _ hd.bl (fun v hv => (hd.bb v hv).len) h0 h1 (ha.b.grow (gal (gre _) _))).mono ?_; rintro e w' ⟨rfl, hb'⟩; obtain ⟨hc, hf⟩ := bcell hb')
  · go_ret
    have hneg := leftBy_of_neg (by assumption)
    have := hz.out
    exact ⟨ret_int (leftBy_neg (by omega)).symm, gca (gal (gre _) _) hb'⟩
  · have hnn := leftBy_of_nonneg (by assumption)
    have hB : Below w.heap.size w w' := gca (gal (gre _) _) hb'
    have hle : leftBy left (d.blocks.length + szBs d.blocks) ≤ 1048576 := by omega
    have hge : 0 ≤ leftBy left (d.blocks.length + szBs d.blocks) := by omega
    have hnn' : Hid _ := hnn
    clear hnn
    go_wp2_with (go_at_call 98; refine (szWriteS_any l.wa l.wc d.waiting _ _ hd.wl (fun v hv => (hd.wb v hv).len) hge hle (ha.w.grow hB)).mono ?_; rintro e w'' ⟨rfl, hb''⟩)
    · go_ret
      have hneg := leftBy_of_neg (by assumption)
      have := hz.out
      have := hnn'.out
      exact ⟨ret_int (leftBy_neg (by omega)).symm, gca hB hb''⟩
    · go_ret
      have h1 := leftBy_of_nonneg (by assumption)
      have := hz.out
      have := hnn'.out
      exact ⟨ret_int (by rw [h1.1, leftBy_pos (s := d.sz) (by omega)]; omega), gca hB hb''⟩

end Go.Proofs.Ythjddpkegooobab

/-
  DEQ: the laws' comparisons of disks, where both are the same. Own work.
-/
namespace Go.Proofs.Ythjddpkegooobab
open Go.RowKit

set_option maxRecDepth 100000 in
theorem eqByteSS_same (a a' : Option Addr) (cap cap' : Nat) (ns : List (List Nat)) (w : World) (hl : ns.length ≤ maxLen) (hv : ∀ n, n ∈ ns → n.length ≤ maxLen) (ha : BlksAt w a ns) (ha' : BlksAt w a' ns) :
    Calls Try.prog 91 #[.slice a ns.length cap, .slice a' ns.length cap'] w fun e w' => e = .returned (.bool true) ∧ Below w.heap.size w w' := by
  unfold maxLen at hl
  have hne : ((ns.length : Int) != (ns.length : Int)) = false := by simp
  go_enter Try.func91, Try.ntmps91
  go_wp2
  go_loopw [5] (fun i wr => ∃ k : Nat, k ≤ ns.length ∧ i = .int .i64 k ∧ Below w.heap.size w wr) (fun i _ => ns.length - (intOf i).toNat)
  case atStart => exact ⟨0, Nat.zero_le _, rfl, Below.refl _ _⟩
  case round =>
    obtain ⟨k, hk, rfl, hb⟩ := hrel
    by_cases hlt : k < ns.length
    · obtain ⟨n, b, off, av, cv, hvk, hvm, rfl, c0, hva⟩ := (ha.grow hb).get hlt
      obtain ⟨n', b', off', av', cv', hvk', hvm', rfl, d0, hva'⟩ := (ha'.grow hb).get hlt
      have e : n' = n := by rw [hvk.out, hvk'.out]
      subst e
      have i0 : (0 : Int) ≤ (k : Int) := by omega
      have i1 : (k : Int) < (ns.length : Int) := by omega
      have hvl := hv n' hvm
      have hv1 : BytesAt wr.drew av n' := hva.grow (gdr (gre _))
      have hv2 : BytesAt wr.drew av' n' := hva'.grow (gdr (gre _))
      clear ha ha' hvk hvk' hva hva'
      go_wp2
      go_region_held3 (fun w' => w'.cell? ⟨b, off + k, none⟩ = some (.slice av n'.length cv) ∧ w'.cell? ⟨b', off' + k, none⟩ = some (.slice av' n'.length cv')) (first | go_keep | (go_split_ands; refine ⟨?_, ?_⟩ <;> exact cell_later hb' (by assumption))) ((go_at_call 19; refine (eqByteS_same av av' n' cv cv' _ hvl hv1 hv2).mono ?_; rintro e w' ⟨rfl, hb'⟩))
      go_wp2
      go_roundw
      case rel => exact ⟨k + 1, by omega, by go_num, gca (gdr hb) hb'⟩
      case measure => simp [intOf]; omega
    · go_wp2
      go_ret
      exact ⟨rfl, hb⟩

set_option maxRecDepth 100000 in
theorem eqWrite_same (x : DW) (a a' : Option Addr) (cap cap' : Nat) (w : World) (hl : x.bytes.length ≤ maxLen) (ha : BytesAt w a x.bytes) (ha' : BytesAt w a' x.bytes) :
    Calls Try.prog 151 #[x.val a cap, x.val a' cap'] w fun e w' => e = .returned (.bool true) ∧ Below w.heap.size w w' := by
  have hne : ((x.block : Int) != (x.block : Int)) = false := by simp
  go_enter Try.func151, Try.ntmps151
  go_wp2_with (go_at_call 19; refine (eqByteS_same a a' x.bytes cap cap' _ hl (ha.grow (gal (gal (gre _) _) _)) (ha'.grow (gal (gal (gre _) _) _))).mono ?_; rintro e w' ⟨rfl, hb'⟩)
  go_ret
  exact ⟨rfl, gca (gal (gal (gre _) _) _) hb'⟩

set_option maxRecDepth 100000 in
theorem eqWriteS_same (a a' : Option Addr) (cap cap' : Nat) (ns : List DW) (w : World) (hl : ns.length ≤ maxLen) (hv : ∀ n, n ∈ ns → n.bytes.length ≤ maxLen) (ha : WrsAt w a ns) (ha' : WrsAt w a' ns) :
    Calls Try.prog 92 #[.slice a ns.length cap, .slice a' ns.length cap'] w fun e w' => e = .returned (.bool true) ∧ Below w.heap.size w w' := by
  unfold maxLen at hl
  have hne : ((ns.length : Int) != (ns.length : Int)) = false := by simp
  go_enter Try.func92, Try.ntmps92
  go_wp2
  go_loopw [5] (fun i wr => ∃ k : Nat, k ≤ ns.length ∧ i = .int .i64 k ∧ Below w.heap.size w wr) (fun i _ => ns.length - (intOf i).toNat)
  case atStart => exact ⟨0, Nat.zero_le _, rfl, Below.refl _ _⟩
  case round =>
    obtain ⟨k, hk, rfl, hb⟩ := hrel
    by_cases hlt : k < ns.length
    · obtain ⟨n, b, off, av, cv, hvk, hvm, rfl, c0, c1, hva⟩ := (ha.grow hb).get hlt
      obtain ⟨n', b', off', av', cv', hvk', hvm', rfl, d0, d1, hva'⟩ := (ha'.grow hb).get hlt
      have e : n' = n := by rw [hvk.out, hvk'.out]
      subst e
      have i0 : (0 : Int) ≤ (k : Int) := by omega
      have i1 : (k : Int) < (ns.length : Int) := by omega
      have hvl := hv n' hvm
      have hv1 : BytesAt wr.drew av n'.bytes := hva.grow (gdr (gre _))
      have hv2 : BytesAt wr.drew av' n'.bytes := hva'.grow (gdr (gre _))
      clear ha ha' hvk hvk' hva hva'
      go_wp2
      go_region_held3 (fun w' => w'.cell? ⟨b, off + k * 2, none⟩ = some (.int .i64 n'.block) ∧ w'.cell? ⟨b, off + k * 2 + 1, none⟩ = some (.slice av n'.bytes.length cv) ∧ w'.cell? ⟨b', off' + k * 2, none⟩ = some (.int .i64 n'.block) ∧ w'.cell? ⟨b', off' + k * 2 + 1, none⟩ = some (.slice av' n'.bytes.length cv')) (first | go_keep | (go_split_ands; refine ⟨?_, ?_, ?_, ?_⟩ <;> exact cell_later hb' (by assumption))) ((go_at_call 151; refine (eqWrite_same n' av av' cv cv' _ hvl hv1 hv2).mono ?_; rintro e w' ⟨rfl, hb'⟩))
      go_wp2
      go_roundw
      case rel => exact ⟨k + 1, by omega, by go_num, gca (gdr hb) hb'⟩
      case measure => simp [intOf]; omega
    · go_wp2
      go_ret
      exact ⟨rfl, hb⟩

set_option maxRecDepth 100000 in
theorem eqDisk_same (d : DD) (l l' : DL) (w : World) (hd : d.Ok) (ha : DAt w l d) (ha' : DAt w l' d) :
    Calls Try.prog 32 #[d.val l, d.val l'] w fun e w' => e = .returned (.bool true) ∧ Below w.heap.size w w' := by
  have hA := gal (gal (gre w) (.cells #[.slice l.ba d.blocks.length l.bc, .slice l.wa d.waiting.length l.wc] 50)) (.cells #[.slice l'.ba d.blocks.length l'.bc, .slice l'.wa d.waiting.length l'.wc] 50)
  go_enter Try.func32, Try.ntmps32
  go_wp2_with (first
    | (go_at_call 91; refine (eqByteSS_same l.ba l'.ba l.bc l'.bc d.blocks _ hd.bl (fun n hn => (hd.bb n hn).len) (ha.b.grow hA) (ha'.b.grow hA)).mono ?_; rintro e w' ⟨rfl, hb'⟩; obtain ⟨hc, hf⟩ := bcell hb')
    | (go_at_call 92; refine (eqWriteS_same l.wa l'.wa l.wc l'.wc d.waiting _ hd.wl (fun n hn => (hd.wb n hn).len) (ha.w.grow (gca hA hb')) (ha'.w.grow (gca hA hb'))).mono ?_; rintro e w'' ⟨rfl, hb''⟩))
  go_ret
  exact ⟨rfl, gca (gca hA hb') hb''⟩

end Go.Proofs.Ythjddpkegooobab

/-
  LAW: FnExactOps, walked. Own work.
-/
namespace Go.Proofs.Ythjddpkegooobab
open Go.RowKit

theorem BRow.growL {w w' : World} {a n : Nat} {xs : List Nat} (h : BRow w a n xs) (hb : Below w.heap.size w w') : BRow w' a n xs := h.of_block (hb.block a h.lt)
theorem DD.small_mendL {d : DD} (h : d.sz ≤ 1048576) : d.mend 1 ≤ 1099511627776 := by have := d.mend_sz 1; omega
/-- what ops' answers are, marked or not -/
structure OpsFew (c : List OP) : Prop where
  len : c.length ≤ 67
  byt : ∀ x, x ∈ c → x.bytes.length ≤ 64
theorem ops_few (d : DD) (im : List Nat) : OpsFew (d.ops im) := by
  unfold DD.ops
  split
  · rename_i h
    unfold DD.lay
    split
    · exact ⟨Nat.zero_le _, fun x hx => by cases hx⟩
    · refine ⟨?_, fun x hx => ?_⟩
      · have := nBlk_le h.2.2.2
        rw [List.length_append, imgOps_len]
        simp
        omega
      · rcases List.mem_append.1 hx with e | e
        · obtain ⟨i, _, rfl⟩ := List.mem_map.1 e
          show (blkOf im i).length ≤ 64
          rw [blkOf_len]
          omega
        · simp only [List.mem_cons, List.not_mem_nil, or_false] at e
          rcases e with rfl | rfl | rfl
          · exact Nat.zero_le _
          · show (headB _ _ _).length ≤ 64
            rw [headB_length]
            omega
          · exact Nat.zero_le _
  · exact ⟨Nat.zero_le _, fun x hx => by cases hx⟩
theorem few_sum {B : Nat} : ∀ (c : List OP), (∀ x, x ∈ c → x.bytes.length ≤ B) → szOs c ≤ (c.length * B : Nat)
  | [], _ => by simp [szOs]
  | x :: r, h => by
    have h1 := few_sum r (fun y hy => h y (List.mem_cons_of_mem _ hy))
    have h2 := h x (List.mem_cons_self ..)
    simp only [szOs, List.length_cons]
    rw [Nat.add_mul, Nat.one_mul]
    omega
theorem OpsFew.end_ {c : List OP} (h : OpsFew c) : oE (fun i => c[i]!.bytes) 1 c.length ≤ 1099511627776 := by
  have h1 := oE_sz c 1 c.length (Nat.le_refl _)
  rw [List.take_length] at h1
  have h2 := few_sum c h.byt
  have h3 := h.len
  have h4 : c.length * 64 ≤ 67 * 64 := Nat.mul_le_mul_right 64 h3
  omega
theorem OAns.mo {c : List OP} {w : World} {e : Ending} {w' : World} (h : OAns c w e w') : ∃ og oc fa fc, e = .returned (.slice og c.length oc) ∧ MOs w' w.heap.size w'.heap.size og c.length (fun i => c[i]!.sync) (fun i => c[i]!.block) (fun i => c[i]!.bytes) fa fc ∧ Below w.heap.size w w' := by
  obtain ⟨og, oc, lo, rfl, rfl, hS, hb⟩ := h
  have := hS.mo
  rw [← List.length_map (f := LO.x)] at this
  exact ⟨og, oc, _, _, rfl, this, hb⟩

set_option maxHeartbeats 8000000 in
set_option maxRecDepth 100000 in
theorem lawOps (d : DD) (l : DL) (ka : Option Addr) (ks : List Nat) (kc : Nat) (w : World) (hd : d.Ok) (ha : DAt w l d) (hkok : BOk ks) (hkl : ks.length ≤ maxLen) (hk0 : BytesAt w ka ks) :
    Calls Try.prog 14 #[d.val l, .slice ka ks.length kc] w fun e w' => e = .returned (.bool true) ∧ Below w.heap.size w w' := by
  have hX0 := DBox.new w d l 57
  have hA0 := gal (gre w) (.cells #[.slice l.ba d.blocks.length l.bc, .slice l.wa d.waiting.length l.wc] 57)
  have hkl' := hkl
  unfold maxLen at hkl'
  by_cases hks : ks.length ≤ 1048576
  · have hks2 : ¬ ((1048576 : Int) < (ks.length : Int)) := by omega
    by_cases hs1 : d.sz ≤ 1048576
    · have hs := DD.small hs1
      have hm1 := DD.small_mendL hs1
      have hle1 : Hid (leftBy 1048576 d.sz = 1048576 - d.sz) := leftBy_pos (by omega)
      have hd1 : ¬ (1048576 - d.sz < 0) := by omega
      obtain ⟨c, hc⟩ := hid_ex (d.ops ks)
      have hct : OpsFew c := by rw [hc.out]; exact ops_few d ks
      have hcl := hct.len
      have hcm : c.length ≤ maxLen := by unfold maxLen; omega
      have hcb : ∀ x, x ∈ c → x.bytes.length ≤ maxLen := fun x hx => by have := hct.byt x hx; unfold maxLen; omega
      have hcb2 : ∀ i, i < c.length → c[i]!.bytes.length ≤ 1048576 := fun i hi => by have := hct.byt _ (mem_at hi); omega
      have hmc := hct.end_
      obtain ⟨mx, hmx⟩ := hid_ex (d.mend 1)
      have hmx2 : mx ≤ 1099511627776 := by rw [hmx.out]; exact hm1
      have hmxn : ¬ ((mx : Int) + (ks.length : Int) < 0) := by omega
      have hmxn2 : ¬ (((mx + ks.length : Nat) : Int) < 0) := by omega
      obtain ⟨m, hme⟩ := hid_ex (oE (fun i => c[i]!.bytes) 1 c.length)
      have hmn : ¬ ((m : Int) < 0) := by omega
      have hmm : ((m : Int) != (m : Int)) = false := by simp
      clear hs1
      go_enter Try.func14, Try.ntmps14
      go_upto_region 8 with (first
        | (go_at_call 35; refine (szDisk_any d l _ _ hd (by decide) (by decide) (ha.grow hA0)).mono ?_; rintro e w1 ⟨rfl, hb1⟩; rw [hle1.out]; obtain ⟨_, x0, x1⟩ := hX0.grow hb1)
        | (go_at_call 37; refine (toDisk_any d l _ hs (ha.grow (gca hA0 hb1))).mono ?_; rintro e w2 ⟨l2, bs2, xs2, rfl, hown2, hb2⟩)
        | (go_at_call 25; refine (toByteS_any ka ks kc _ hks (hk0.grow (gca (gca hA0 hb1) hb2))).mono ?_; rintro e w2b ⟨b2, rfl, _, hk2, hb2b⟩)
        | (go_at_call 61; refine (specOps_any d l2 _ ks _ _ hd (hown2.at_.grow hb2b) (brow_bytes hk2) hkok.byte hks).mono ?_; rw [← hc.out]; rintro e wA h3; obtain ⟨oa0, oc0, fa0, fc0, rfl, hmo0, hb3⟩ := h3.mo; have hat := hmo0.at_))
      have hA := gca (gca (gca (gca hA0 hb1) hb2) hb2b) hb3
      have hXA := hX0.grow (gca (gca (gca hb1 hb2) hb2b) hb3)
      obtain ⟨PA, hPA⟩ := hid_ex w.heap.size
      rw [← hPA.out] at hXA ⊢
      clear x0 x1 hb1 hb2 hb3 hb2b hk2 hown2 hX0 hA0 hmo0
      obtain ⟨_, x0, x1⟩ := id hXA
      go_upto_region 9 with (go_at_call 37; refine (toDisk_any d l _ hs (ha.grow hA)).mono ?_; rintro e w4 ⟨l4, bs4, xs4, rfl, hown4, hb4⟩)
      have hxB := DBox.new w4 d l4 50
      have hbB := gal hb4 (.cells #[.slice l4.ba d.blocks.length l4.bc, .slice l4.wa d.waiting.length l4.wc] 50)
      have hmx0 := hown4.md.grow (gal (gre w4) (.cells #[.slice l4.ba d.blocks.length l4.bc, .slice l4.wa d.waiting.length l4.wc] 50))
      have hs4 : (w4.alloc (.cells #[.slice l4.ba d.blocks.length l4.bc, .slice l4.wa d.waiting.length l4.wc] 50)).heap.size = w4.heap.size + 1 := by simp
      have hs4A := hb4.size
      generalize w4.alloc (.cells #[.slice l4.ba d.blocks.length l4.bc, .slice l4.wa d.waiting.length l4.wc] 50) = wB at hxB hbB hmx0 hs4 ⊢
      generalize w4.heap.size = PX at hxB hmx0 hs4 hs4A ⊢
      have hPAl := hXA.lt
      have hXB := hXA.grow hbB
      generalize hsAe : wA.heap.size = sA at hmx0 hbB hs4A hPAl
      have hBwB : Below w.heap.size w wB := hA.trans (hbB.mono (by rw [← hsAe]; exact hA.size))
      clear x0 x1 hb4 hown4 hXA
      go_upto_region 10 with (go_at_call 25; refine (toByteS_any ka ks kc _ hks (hk0.grow hBwB)).mono ?_; rintro e w4b ⟨BX, rfl, hBX, hkx, hb4b⟩)
      have hx4 := hxB.grow hb4b
      have hX4 := hXB.grow hb4b
      have hmx4 := hmx0.grow hb4b
      have hA4 : Below sA wA w4b := by rw [hs4] at hb4b; exact hbB.trans (hb4b.mono (by omega))
      have hBw4 := gca hBwB hb4b
      have hkxl := hkx.lt
      have hs4b := hb4b.size
      clear hxB hXB hmx0 hbB hBwB hb4b
      obtain ⟨_, x0, x1⟩ := id hx4
      go_upto_region 11 with (go_at_call 62; refine (implOps_any d l4 _ ks _ _ hd hmx4.at_ (brow_bytes hkx) hkok.byte hks (Nat.le_refl _)).mono ?_; rw [← hc.out]; rintro e wC h5; obtain ⟨og, oc, fa, fc, rfl, hmdC, hbC⟩ := h5.mo)
      have hs5B := hbC.size
      obtain ⟨PG, hPG⟩ := hid_ex wC.heap.size
      rw [← hPG.out] at hmdC
      have hxC := hx4.grow hbC
      have hXC := hX4.grow hbC
      have hmxC := hmx4.grow hbC
      have hkxC := hkx.growL hbC
      have hAC : Below sA wA wC := hA4.trans (hbC.mono (by omega))
      have hBwC : Below w.heap.size w wC := gca hBw4 hbC
      generalize hsBe : w4b.heap.size = sB at hmdC hs4b hs5B hkxl
      clear x0 x1 hx4 hX4 hmx4 hbC hkx hA4 hBw4
      go_upto_region 13 with (go_at_call 63; refine (eqOpS_same og oa0 oc oc0 c _ hcm hcb hmdC.at_ (hat.grow (by rw [hsAe]; exact hAC))).mono ?_; rintro e w6 ⟨rfl, hb6⟩)
      have hx6 := hxC.grow hb6
      have hX6 := hXC.grow hb6
      have hmx6 := hmxC.grow hb6
      have hmd6 := hmdC.grow hb6
      have hkx6 := hkxC.growL hb6
      have hA6 := hAC.trans (hb6.mono (by have := hAC.size; omega))
      have hBw6 := gca hBwC hb6
      have hs6 := hb6.size
      clear hxC hXC hmxC hmdC hAC hBwC hkxC
      have hB : Below w6.heap.size w6 w6.drew := gdr (gre _)
      refine wp_regionU (fun u => DBox u PX d l4 ∧ DBox u PA d l) 99 (by kernel_rfl) ⟨hx6.grow hB, hX6.grow hB⟩ (fun _ => ?_)
      refine anyU_take (i := 0) (v := ?_) rfl (by kernel_rfl) (by kernel_rfl) (by kernel_rfl) (by kernel_rfl) (fun _ _ _ h => h) (Or.inl ⟨by rfl, ?_⟩) ⟨hx6.grow hB, hX6.grow hB⟩ ?_
      rotate_left
      · intro u hSu; obtain ⟨⟨_, s0, s1⟩, ⟨_, t0, t1⟩⟩ := hSu; go_simp <;> with_reducible rfl
      simp only [Act.put, List.getElem_toArray, List.getElem_cons_zero, List.setIfInBounds_toArray, List.set_cons_zero, List.set_cons_succ]
      refine anyU_take (i := 1) (v := ?_) rfl (by kernel_rfl) (by kernel_rfl) (by kernel_rfl) (by kernel_rfl) (fun _ _ _ h => h) (Or.inl ⟨by rfl, ?_⟩) ⟨hx6.grow hB, hX6.grow hB⟩ ?_
      rotate_left
      · intro u hSu; obtain ⟨⟨_, s0, s1⟩, ⟨_, t0, t1⟩⟩ := hSu; go_simp <;> with_reducible rfl
      simp only [Act.put, List.getElem_toArray, List.getElem_cons_zero, List.getElem_cons_succ, List.setIfInBounds_toArray, List.set_cons_zero, List.set_cons_succ]
      refine anyU_one (i := 2) (by kernel_rfl) rfl (fun K hK => ?_)
      go_simp
      refine (toDisk_any d l _ hs (ha.grow (gca hBw6 hB))).mono ?_
      rintro e w7 ⟨l7, bs7, xs7, rfl, hown7, hb7⟩
      have hB := gca hB hb7
      refine hK.out _ _ ⟨hx6.grow hB, hX6.grow hB⟩ ?_
      clear hK
      refine anyU_one (i := 3) (by kernel_rfl) rfl (fun K hK => ?_)
      go_simp
      refine (eqDisk_same d _ _ _ hd (hmx6.at_.grow hB) hown7.at_).mono ?_
      rintro e w8 ⟨rfl, hb8⟩
      have hB := gca hB hb8
      refine hK.out _ _ ⟨hx6.grow hB, hX6.grow hB⟩ ?_
      clear hK
      refine anyU_one (i := 4) (by kernel_rfl) rfl (fun K hK => ?_)
      go_simp
      refine hK.out _ _ ⟨hx6.grow hB, hX6.grow hB⟩ ?_
      clear hK
      refine anyU_done (by kernel_rfl) ?_
      have hx8 := hx6.grow hB
      have hX8 := hX6.grow hB
      have hmx8 := hmx6.grow hB
      have hmd8 := hmd6.grow hB
      have hkx8 := hkx6.growL hB
      have hA8 := hA6.trans (hB.mono (by have := hA6.size; omega))
      have hBw8 := gca hBw6 hB
      have hs8 := hB.size
      clear hx6 hX6 hmx6 hmd6 hA6 hBw6 hB hown7 hb7 hb8 hkx6
      go_upto_region 17 with (first
        | (go_at_call 25; refine (toByteS_any ka ks kc _ hks (hk0.grow hBw8)).mono ?_; rintro e w8b ⟨b8, rfl, _, hk8, hb8b⟩)
        | (go_at_call 19; refine (eqByteS_same _ _ ks _ _ _ hkl (brow_bytes (hkx8.growL hb8b)) (brow_bytes hk8)).mono ?_; rintro e w8c ⟨rfl, hb8c⟩))
      have hb8d := gca hb8b hb8c
      have hxm := hx8.grow hb8d
      have hXm := hX8.grow hb8d
      have hmxm := hmx8.grow hb8d
      have hmdm := hmd8.grow hb8d
      have hkxm := hkx8.growL hb8d
      have hAm := hA8.trans (hb8d.mono (by have := hA8.size; omega))
      have hBwm := gca hBw8 hb8d
      have hsm := hb8d.size
      clear hx8 hX8 hmx8 hmd8 hkx8 hA8 hBw8 hb8b hb8c hb8d hk8
      obtain ⟨_, x0, x1⟩ := id hxm
      go_upto_region 19 with (go_at_call 33; rw [show (1 : Int) = ((1 : Nat) : Int) by rfl]; refine (markDisk_any d l4 1 sA PX _ _ _ _ _ hs hm1 (by omega) hmxm).mono ?_; rintro e w9 ⟨rfl, _, hK9⟩; rw [← hmx.out])
      have hX9 := hXm.kept hK9 (fun e => by omega)
      have hmd9 := hmdm.out hK9 (fun b hb _ e => by omega)
      have hkx9 := hkxm.kept hK9 (by omega)
      have hA9 := hAm.trans (hK9.below (B := sA) (by have := hAm.size; omega) (fun z hz e => by omega))
      have hBw9 := hBwm.trans (hK9.below (B := w.heap.size) hBwm.size (fun z hz e => by have := hPA.out; omega))
      have hs9 := hK9.size
      clear x0 x1 hxm hXm hmxm hmdm hAm hBwm hK9 hkxm
      go_upto_region 20 with (go_at_call 22; refine (markBytes_any (some ⟨BX, 0, none⟩) ks _ mx BX (BX + 1) _ hks (by omega) (Or.inr ⟨BX, _, rfl, Nat.le_refl _, Nat.lt_succ_self _, hkx9⟩)).mono ?_; rintro e w9b ⟨rfl, _, hK9b⟩)
      have hX9b := hX9.kept hK9b (fun e => by have he := some_addr e.2; omega)
      have hmd9b := hmd9.out hK9b (fun b hb _ e => by have he := some_addr e.2; omega)
      have hA9b := hA9.trans (hK9b.below (B := sA) (by have := hA9.size; omega) (fun z hz e => by have he := some_addr e.2; omega))
      have hBw9b := hBw9.trans (hK9b.below (B := w.heap.size) hBw9.size (fun z hz e => by have := hPA.out; have he := some_addr e.2; omega))
      have hs9b := hK9b.size
      clear hX9 hmd9 hA9 hBw9 hK9b hkx9
      go_upto_region 22 with (go_at_call 63; refine (eqOpS_same og oa0 oc oc0 c _ hcm hcb hmd9b.at_ (hat.grow (by rw [hsAe]; exact hA9b))).mono ?_; rintro e w10 ⟨rfl, hb10⟩)
      have hX10 := hX9b.grow hb10
      have hmd10 := hmd9b.grow hb10
      have hA10 := hA9b.trans (hb10.mono (by have := hA9b.size; omega))
      have hBw10 := gca hBw9b hb10
      have hs10 := hb10.size
      clear hX9b hmd9b hA9b hBw9b
      go_upto_region 24 with (go_at_call 64; rw [show (1 : Int) = ((1 : Nat) : Int) by rfl]; refine (markOpS_any og c.length oc 1 sB PG _ _ (fun i => c[i]!.bytes) fa fc _ (by omega) hcb2 hmc hmd10).mono ?_; rintro e w11 ⟨rfl, hM11, hK11⟩; rw [← hme.out])
      have hX11 := hX10.kept hK11 (fun e => by omega)
      have hA11 := hA10.trans (hK11.below (B := sA) (by have := hA10.size; omega) (fun z hz e => by omega))
      have hBw11 := hBw10.trans (hK11.below (B := w.heap.size) hBw10.size (fun z hz e => by have := hPA.out; omega))
      clear hX10 hmd10 hA10 hBw10 hK11
      go_upto_region 30 with (go_at_call 65; rw [show (1 : Int) = ((1 : Nat) : Int) by rfl]; refine (heldOpS_any og c.length oc 1 sB PG (fun i => c[i]!.bytes) fa fc _ (by omega) hcb2 hmc hM11).mono ?_; rintro e w12 ⟨rfl, hb12⟩; rw [← hme.out])
      have hX12 := hX11.grow hb12
      have hM12 := hM11.grow hb12
      have hA12 := hA11.trans (hb12.mono (by have := hA11.size; omega))
      have hBw12 := gca hBw11 hb12
      clear hX11 hM11 hA11 hBw11
      obtain ⟨_, x0, x1⟩ := id hX12
      go_upto_region 31 with (first
        | (go_at_call 37; refine (toDisk_any d l _ hs (ha.grow hBw12)).mono ?_; rintro e w13 ⟨l13, bs13, xs13, rfl, hown13, hb13⟩)
        | (go_at_call 25; refine (toByteS_any ka ks kc _ hks (hk0.grow (gca hBw12 hb13))).mono ?_; rintro e w13b ⟨b13, rfl, _, hk13, hb13b⟩)
        | (go_at_call 62; refine (implOps_any d l13 _ ks _ _ hd (hown13.at_.grow hb13b) (brow_bytes hk13) hkok.byte hks (Nat.le_refl _)).mono ?_; rw [← hc.out]; rintro e wD h14; obtain ⟨oh, oc14, fa14, fc14, rfl, hmdD, hb14⟩ := h14.mo))
      have hbD := gca (gca hb13 hb13b) hb14
      have hMD := hM12.grow hbD
      have hAD := hA12.trans (hbD.mono (by have := hA12.size; omega))
      have hBwD := gca hBw12 hbD
      clear x0 x1 hX12 hM12 hA12 hBw12 hb13 hb13b hb14 hown13 hk13
      go_upto_region 33 with (go_at_call 63; refine (eqOpS_same oh oa0 oc14 oc0 c _ hcm hcb hmdD.at_ (hat.grow (by rw [hsAe]; exact hAD))).mono ?_; rintro e w15 ⟨rfl, hb15⟩)
      have hM15 := hMD.grow hb15
      have hBw15 := gca hBwD hb15
      clear hMD hAD hBwD hmdD
      go_wp2_with (go_at_call 65; rw [show (1 : Int) = ((1 : Nat) : Int) by rfl]; refine (heldOpS_any og c.length oc 1 sB PG (fun i => c[i]!.bytes) fa fc _ (by omega) hcb2 hmc hM15).mono ?_; rintro e w16 ⟨rfl, hb16⟩; rw [← hme.out])
      go_ret
      exact ⟨rfl, gca hBw15 hb16⟩
    · have hle1 : Hid (leftBy 1048576 d.sz = -1) := leftBy_neg (by omega)
      go_enter Try.func14, Try.ntmps14
      go_wp2_with (go_at_call 35; refine (szDisk_any d l _ _ hd (by decide) (by decide) (ha.grow hA0)).mono ?_; rintro e w1 ⟨rfl, hb1⟩; rw [hle1.out])
      go_ret
      exact ⟨rfl, gca hA0 hb1⟩
  · have hks' : ((1048576 : Int) < (ks.length : Int)) := by omega
    go_enter Try.func14, Try.ntmps14
    go_wp2
    go_ret
    exact ⟨rfl, hA0⟩

end Go.Proofs.Ythjddpkegooobab

/-
  OPEND: what disks that come in read as. Own work.
-/
namespace Go.Proofs.Ythjddpkegooobab
open Go.RowKit Go.ChangeShapes Go.WideShapes Go.Deep

set_option maxRecDepth 100000 in
theorem dcellsInt : Try.prog.cellsOf 3 = 1 := by kernel_rfl
theorem dcellsU8 : Try.prog.cellsOf 5 = 1 := by kernel_rfl
theorem dcellsBytes : Try.prog.cellsOf 28 = 1 := by kernel_rfl
theorem dcellsWrite : Try.prog.cellsOf 187 = 2 := by kernel_rfl
theorem dcellsBlks : Try.prog.cellsOf 47 = 1 := by kernel_rfl
theorem dcellsWrites : Try.prog.cellsOf 55 = 1 := by kernel_rfl
theorem dcellsDisk : Try.prog.cellsOf 57 = 2 := by kernel_rfl

set_option maxRecDepth 100000 in
theorem di64_of_wf {n : Int} (h : (Lit.int .i64 n).wf = true) : I64 n := by
  have h := bounds_i64 h
  unfold I64
  omega
theorem dbyte_of_wf {x : Int} (h : (Lit.int .u8 x).wf = true) : 0 ≤ x ∧ x < 256 := by
  simp [Lit.wf, IntKind.min, IntKind.max, IntKind.signed, IntKind.bits] at h
  omega

section
variable {H : Type} {enc : TypeId × Value → H} {w : World} {base : Nat} {spare : Nat → Bool} {held : Bool}

set_option maxRecDepth 100000 in
/-- a list out of a family -/
theorem dlist_of {α : Type} [Inhabited α] {n : Nat} {p : Nat → α → Prop} (h : ∀ i, i < n → ∃ x, p i x) : ∃ l : List α, l.length = n ∧ ∀ i, i < n → p i l[i]! := by
  obtain ⟨f, hf⟩ := choose_lt h
  refine ⟨(List.range n).map f, by simp, fun i hi => ?_⟩
  have e : ((List.range n).map f)[i]! = f i := by
    rw [getElem!_pos _ i (by simpa using hi)]; simp
  rw [e]; exact hf i hi

set_option maxRecDepth 100000 in
theorem dall_of_at {α : Type} [Inhabited α] {p : α → Prop} {l : List α} (h : ∀ i, i < l.length → p l[i]!) : ∀ x, x ∈ l → p x := fun x hx => by
  obtain ⟨i, hi, e⟩ := List.getElem_of_mem hx
  have := h i hi
  rwa [getElem!_pos l i hi, e] at this

set_option maxRecDepth 100000 in
/-- an address at which elements lie is a plain one -/
theorem dplain_addr {a : Addr} {k : Nat} {cs : List Value} (hk : 0 < k) (h : w.cells? base (a.add (0 * k)) k = some cs) : a = ⟨a.block, a.off, none⟩ := by
  obtain ⟨_, hlen, hc⟩ := World.cells?_some h
  have h0 := hc 0 hk
  obtain ⟨b, off, spot⟩ := a
  match cs, hlen with
  | c :: _, _ =>
    have hspot : spot = none := by
      have h0' : w.cell? ((Addr.add ⟨b, off, spot⟩ (0 * k)).add 0) = some c := by simpa using h0
      simpa [Addr.add] using World.cell?_spot h0'
    rw [hspot]
  | [], h => simp at h; omega

set_option maxRecDepth 100000 in
theorem dcells_plain {b off n : Nat} {cs : List Value} (h : w.cells? base ⟨b, off, none⟩ n = some cs) : cs.length = n ∧ ∀ i, i < n → w.cell? ⟨b, off + i, none⟩ = cs[i]? := by
  obtain ⟨_, hlen, hc⟩ := World.cells?_some h
  exact ⟨hlen, fun i hi => by rw [← add_plain]; exact hc i hi⟩

set_option maxRecDepth 100000 in
theorem openByts {fuel : Nat} {cs : List Value} {x : DataW H × List MemPlace} (h : DataW.trod enc Try.prog w base spare held fuel 28 cs = some x) :
    ∃ (a : Option Addr) (cap : Nat) (bs : List Nat), cs = [.slice a bs.length cap] ∧ BOk bs ∧ BytesAt w a bs := by
  rcases open_slice Try.underlying28 h with ⟨rfl, _⟩ | ⟨a, len, cap, m, n, D, Pl, rfl, hb, hl, hm, hmm, _, hx⟩
  · exact ⟨none, 0, [], rfl, ⟨Nat.zero_le _, fun v hv => (by cases hv)⟩, fun i hi => absurd hi (Nat.not_lt_zero _)⟩
  · rw [dcellsU8] at hx
    have hle : len ≤ m := by rw [hmm]; split <;> omega
    obtain ⟨bs, hvl, hvs⟩ := dlist_of (α := Nat) (n := len) (p := fun i v => v < 256 ∧ w.cells? base (a.add (i * 1)) 1 = some [.int .u8 (v : Int)]) (fun i hi => by
      obtain ⟨cs', h1, h2⟩ := hx i (by omega)
      obtain ⟨z, e, _, hw⟩ := DataW.trod_int Try.underlying5 h2
      have hz := dbyte_of_wf hw
      refine ⟨z.toNat, by omega, ?_⟩
      rw [h1, e, Int.toNat_of_nonneg hz.1])
    subst hvl
    refine ⟨some a, cap, bs, rfl, ⟨by omega, dall_of_at fun i hi => (hvs i hi).1⟩, fun i hi => ?_⟩
    have hp := dplain_addr (by decide) (hvs 0 (by omega)).2
    have h1 := (hvs i hi).2
    rw [hp, add_plain] at h1
    obtain ⟨_, h2⟩ := dcells_plain h1
    have h3 := h2 0 (by decide)
    simp only [Nat.add_zero, Nat.mul_one] at h3
    exact ⟨a.block, a.off, by rw [← hp], h3⟩

set_option maxRecDepth 100000 in
theorem openBlks {fuel : Nat} {cs : List Value} {x : DataW H × List MemPlace} (h : DataW.trod enc Try.prog w base spare held fuel 47 cs = some x) :
    ∃ (a : Option Addr) (cap : Nat) (ls : List (List Nat)), cs = [.slice a ls.length cap] ∧ ls.length ≤ maxLen ∧ (∀ b, b ∈ ls → BOk b) ∧ BlksAt w a ls := by
  rcases open_slice Try.underlying47 h with ⟨rfl, _⟩ | ⟨a, len, cap, m, n, D, Pl, rfl, hb, hl, hm, hmm, _, hx⟩
  · exact ⟨none, 0, [], rfl, Nat.zero_le _, fun v hv => (by cases hv), fun i hi => absurd hi (Nat.not_lt_zero _)⟩
  · rw [dcellsBytes] at hx
    have hle : len ≤ m := by rw [hmm]; split <;> omega
    obtain ⟨ls, hvl, hvs⟩ := dlist_of (α := List Nat) (n := len) (p := fun i b => BOk b ∧ ∃ a' cap', w.cells? base (a.add (i * 1)) 1 = some [.slice a' b.length cap'] ∧ BytesAt w a' b) (fun i hi => by
      obtain ⟨cs', h1, h2⟩ := hx i (by omega)
      obtain ⟨a', cap', b, e, hok, hva⟩ := openByts h2
      exact ⟨b, hok, a', cap', by rw [h1, e], hva⟩)
    subst hvl
    refine ⟨some a, cap, ls, rfl, by omega, dall_of_at fun i hi => (hvs i hi).1, fun i hi => ?_⟩
    obtain ⟨_, _, _, hp0, _⟩ := hvs 0 (by omega)
    have hp := dplain_addr (by decide) hp0
    obtain ⟨_, a', cap', h1, hva⟩ := hvs i hi
    rw [hp, add_plain] at h1
    obtain ⟨_, h2⟩ := dcells_plain h1
    have h3 := h2 0 (by decide)
    simp only [Nat.add_zero, Nat.mul_one] at h3
    exact ⟨a.block, a.off, a', cap', by rw [← hp], h3, hva⟩

set_option maxRecDepth 100000 in
theorem openWrite {fuel : Nat} {cs : List Value} {x : DataW H × List MemPlace} (h : DataW.trod enc Try.prog w base spare held fuel 187 cs = some x) :
    ∃ (n : DW) (a : Option Addr) (cap : Nat), I64 n.block ∧ BOk n.bytes ∧ cs = [.int .i64 n.block, .slice a n.bytes.length cap] ∧ BytesAt w a n.bytes := by
  obtain ⟨xs, n, _, rfl, hl, hlen, hf⟩ := DataW.trod_struct Try.underlying187 h
  rw [dcellsWrite] at hl
  match xs, hlen, cs, hl with
  | [y0, y1], _, [c0, c1], _ =>
    have h0 := hf 0 _ rfl
    have h1 := hf 1 _ rfl
    simp [dcellsInt, dcellsBytes] at h0 h1
    obtain ⟨k, e0, rfl, w0⟩ := DataW.trod_int Try.underlying3 h0
    obtain ⟨a, cap, vs, e1, hok1, ha1⟩ := openByts h1
    simp at e0 e1
    subst e0 e1
    exact ⟨⟨k, vs⟩, a, cap, di64_of_wf w0, hok1, rfl, ha1⟩

set_option maxRecDepth 100000 in
theorem openWrites {fuel : Nat} {cs : List Value} {x : DataW H × List MemPlace} (h : DataW.trod enc Try.prog w base spare held fuel 55 cs = some x) :
    ∃ (a : Option Addr) (cap : Nat) (ls : List DW), cs = [.slice a ls.length cap] ∧ ls.length ≤ maxLen ∧ (∀ b, b ∈ ls → I64 b.block ∧ BOk b.bytes) ∧ WrsAt w a ls := by
  rcases open_slice Try.underlying55 h with ⟨rfl, _⟩ | ⟨a, len, cap, m, n, D, Pl, rfl, hb, hl, hm, hmm, _, hx⟩
  · exact ⟨none, 0, [], rfl, Nat.zero_le _, fun v hv => (by cases hv), fun i hi => absurd hi (Nat.not_lt_zero _)⟩
  · rw [dcellsWrite] at hx
    have hle : len ≤ m := by rw [hmm]; split <;> omega
    obtain ⟨ls, hvl, hvs⟩ := dlist_of (α := DW) (n := len) (p := fun i b => (I64 b.block ∧ BOk b.bytes) ∧ ∃ a' cap', w.cells? base (a.add (i * 2)) 2 = some [.int .i64 b.block, .slice a' b.bytes.length cap'] ∧ BytesAt w a' b.bytes) (fun i hi => by
      obtain ⟨cs', h1, h2⟩ := hx i (by omega)
      obtain ⟨b, a', cap', hi1, hok, e, hva⟩ := openWrite h2
      exact ⟨b, ⟨hi1, hok⟩, a', cap', by rw [h1, e], hva⟩)
    subst hvl
    refine ⟨some a, cap, ls, rfl, by omega, dall_of_at fun i hi => (hvs i hi).1, fun i hi => ?_⟩
    obtain ⟨_, _, _, hp0, _⟩ := hvs 0 (by omega)
    have hp := dplain_addr (by decide) hp0
    obtain ⟨_, a', cap', h1, hva⟩ := hvs i hi
    rw [hp, add_plain] at h1
    obtain ⟨_, h2⟩ := dcells_plain h1
    exact ⟨a.block, a.off, a', cap', by rw [← hp], h2 0 (by decide), h2 1 (by decide), hva⟩

set_option maxRecDepth 100000 in
theorem openDisk {v : Value} {d : DataW H} {ps : List MemPlace} {r : Reach} {bs : Nat} (hv : Value.okWide Try.prog w r bs 57 v) (h : DataW.Trod enc Try.prog w base spare held 57 v d ps) :
    ∃ (g : DD) (l : DL), g.Ok ∧ v = g.val l ∧ DAt w l g := by
  unfold Value.okWide at hv
  rw [Try.underlying57] at hv
  obtain ⟨cs, rfl, hsz, _⟩ := hv
  obtain ⟨fuel, h⟩ := h
  obtain ⟨xs, n, _, _, hl, hlen, hf⟩ := DataW.trod_struct Try.underlying57 h
  rw [dcellsDisk] at hsz
  obtain ⟨l⟩ := cs
  match xs, hlen, l, hsz with
  | [y0, y1], _, [c0, c1], _ =>
    have h0 := hf 0 _ rfl
    have h1 := hf 1 _ rfl
    simp [dcellsBlks, dcellsWrites, Value.cells] at h0 h1
    obtain ⟨a, cap, ls, e0, hl0, hb0, ha0⟩ := openBlks h0
    obtain ⟨a', cap', ws, e1, hl1, hw1, ha1⟩ := openWrites h1
    simp at e0 e1
    subst e0 e1
    exact ⟨⟨ls, ws⟩, ⟨a, cap, a', cap'⟩, ⟨hl0, hb0, hl1, fun x hx => (hw1 x hx).1, fun x hx => (hw1 x hx).2⟩, rfl, ha0, ha1⟩

end
end Go.Proofs.Ythjddpkegooobab
