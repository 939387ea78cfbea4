/-
  IHEAD: the program's HeadBlock. Own work.
-/
import Derived.Test.YthjddpkegooobabHWr
namespace Go.Proofs.Ythjddpkegooobab
open Go.RowKit

def headBB (ok : Bool) (gen len sum : Int) : List Nat := if headOkB ok gen len = true then headB gen len sum else []
theorem headBB_len (ok : Bool) (gen len sum : Int) : (headBB ok gen len sum).length ≤ 64 := by
  unfold headBB
  split
  · rw [headB_length]; omega
  · exact Nat.zero_le _

/-- bytes that are handed back, zero or more, at the head of memory of their own -/
def HPost (ys : List Nat) (w : World) (e : Ending) (w' : World) : Prop := ∃ oa c, e = .returned (.slice oa ys.length c) ∧ MB w' w.heap.size oa ys ∧ Below w.heap.size w w'

set_option maxRecDepth 100000 in
theorem zwr_new (w : World) (M : Array Value) (hM : M = madeCells #[Value.int .u8 0] 64) : ZWr ((w.alloc (.cells M 5)).alloc (.cells #[.slice (some ⟨w.heap.size, 0, none⟩) 64 64, .int .i64 0] 100)) (w.heap.size + 1) w.heap.size [] := by
  subst hM
  have h1 := rowIs_made_any w #[Value.int .u8 0] 64 5
  have e : (fun i => (#[Value.int .u8 0])[i % (#[Value.int .u8 0]).size]!) = (fun i : Nat => Value.int .u8 ((([] : List Nat)[i]! : Nat) : Int)) := by
    funext i
    have : i % (#[Value.int .u8 0]).size = 0 := by simp [Nat.mod_one]
    rw [this, getElem!_neg ([] : List Nat) i (by simp)]
    rfl
  rw [e] at h1
  refine ⟨⟨by simp, by simp, by simp, fun o => by simp⟩, by omega, ⟨by simp, ?_⟩⟩
  obtain ⟨c, hc, r⟩ := h1
  exact ⟨c, by rw [Below.heap_alloc _ _ _ (by simp)]; exact hc, r⟩

theorem app_zero (zs : List Nat) (n i : Nat) : (zs ++ List.replicate n 0)[i]! = zs[i]! := by
  by_cases h : i < zs.length
  · rw [getElem!_pos _ i (by simp; omega), getElem!_pos zs i h, List.getElem_append_left h]
  · rw [getElem!_neg zs i h]
    by_cases h2 : i < (zs ++ List.replicate n 0).length
    · rw [getElem!_pos _ i h2, List.getElem_append_right (by omega)]
      simp
    · rw [getElem!_neg _ i h2]
theorem ZRow.full {w : World} {a : Nat} {zs : List Nat} (h : ZRow w a 64 zs) {n : Nat} (hn : zs.length + n = 64) : BRow w a 64 (zs ++ List.replicate n 0) :=
  BRow.of_row h.2 (by simp; omega) (fun i _ => by rw [app_zero])
theorem headN_byte (gen len sum : Int) : ∀ x, x ∈ headN gen len sum → x < 256 := fun x hx => by
  unfold headN at hx
  rcases List.mem_append.1 hx with hx | hx
  · rcases List.mem_append.1 hx with hx | hx
    · rcases List.mem_append.1 hx with hx | hx
      · simp at hx; omega
      · exact lowB_byte _ _ _ hx
    · exact lowB_byte _ _ _ hx
  · exact lowB_byte _ _ _ hx
theorem u64n_wrapH {n : Nat} (h : n < 18446744073709551616) : u64n (wrap64 (n : Int)) = n := by unfold u64n wrap64; omega
theorem bsOf_head : bsOf ⟨#[72, 69, 65, 68]⟩ = [72, 69, 65, 68] := by decide

set_option maxHeartbeats 1000000 in
set_option maxRecDepth 100000 in
theorem implHeadBlock_any (ok : Bool) (gen len sum : Int) (w : World) :
    Calls Try.prog 55 #[headV ok gen len sum] w (HPost (headBB ok gen len sum) w) := by
  by_cases hk : headOkB ok gen len = true
  · have hz : Hid (headBB ok gen len sum = headB gen len sum) := if_pos hk
    obtain ⟨rfl, g1, g2, g3, g4⟩ : ok = true ∧ ¬ gen < 1 ∧ ¬ (1000000000000 < gen) ∧ ¬ len < 1 ∧ ¬ (4096 < len) := by
      unfold headOkB at hk
      simp at hk
      exact ⟨hk.1.1.1.1, by omega, by omega, by omega, by omega⟩
    have hH0 := HBox.new w true gen len sum 74
    have hA := gal (gre w) (.cells #[.bool true, .int .i64 gen, .int .i64 len, .int .i64 sum] 74)
    obtain ⟨i0, hi, hz0, hz1, hz2⟩ := info_parts info_u8
    obtain ⟨M, hM⟩ := hid_ex (madeCells #[Value.int .u8 0] 64)
    have hmk : ∀ u : World, (Instr.makeSlice 28 (.int .i64 64) (.int .i64 64)).run Try.prog u = .ok (.slice (some ⟨u.heap.size, 0, none⟩) 64 64) (u.alloc (.cells M 5)) := fun u => by
      have h := run_make (P := Try.prog) u 28 5 i0 _ Try.underlying28 hi hz0 .i64 .i64 64 64 (by omega) (Int.le_refl _) (by rw [hz2]; omega) (by omega)
      rw [hM.out]
      simpa [hz1, Value.cells] using h
    have hgw : wrap64 gen = gen := by unfold wrap64; omega
    have hlw : wrap64 len = len := by unfold wrap64; omega
    have hlow : ∀ n, (lowB 8 n).length = 8 := lowB_length 8
    go_enter Try.func55, Try.ntmps55
    have hW0 := zwr_new (w.alloc (.cells #[.bool true, .int .i64 gen, .int .i64 len, .int .i64 sum] 74)) M hM.out
    have hH1 := (hH0.kept (Kept.of_below (gal (gal (gre _) (.cells M 5)) (.cells #[.slice (some ⟨(w.alloc (.cells #[.bool true, .int .i64 gen, .int .i64 len, .int .i64 sum] 74)).heap.size, 0, none⟩) 64 64, .int .i64 0] 100)) (fun _ => False)) (fun e => e))
    have hA3 := gal (gal hA (.cells M 5)) (.cells #[.slice (some ⟨(w.alloc (.cells #[.bool true, .int .i64 gen, .int .i64 len, .int .i64 sum] 74)).heap.size, 0, none⟩) 64 64, .int .i64 0] 100)
    simp only [World.size_alloc] at hW0 hH1 hA3
    go_upto_region 99 with (first
      | (go_at_call 118; refine (zWriteText _ _ _ _ hW0 (by decide) (by decide)).mono ?_; rintro e w1 ⟨rfl, hW1, hK1⟩; rw [bsOf_head] at hW1; have hH2 := hH1.kept hK1 (by omega); obtain ⟨_, _, b1, b2, b3⟩ := id hH2)
      | (go_at_call 77; refine (zWriteWord _ _ z5 _ _ hW6 (by have := hl4.out; omega)).mono ?_; rintro e w7 ⟨rfl, hW7, hK7⟩; have c7 := hW7.cur.c0)
      | (go_at_call 78; refine (implSumOf_any _ z5 64 _ (brow_bytes hW5.row.brow) (by have := hl4.out; unfold maxLen; omega) hb5).mono ?_; rintro e w6 ⟨rfl, hb6'⟩; have hW6 := hW5.grow hb6')
      | (go_at_call 79; refine (passed_any _ _ 64 64 z5.length _ hW4.cur (by omega) (by decide) (by have := hl4.out; omega)).mono ?_; rintro e w5 ⟨rfl, hb5'⟩; have hW5 := hW4.grow hb5')
      | (go_at_call 77; refine (zWriteWord _ _ z3 sum _ hW3 (by have := hl3.out; omega)).mono ?_; rintro e w4 ⟨rfl, hW4, hK4⟩; obtain ⟨z5, hz5⟩ := hid_ex (z3 ++ lowB 8 (u64n sum)); rw [← hz5.out] at hW4; have hl4 : Hid (z5.length = 28) := (by show _ = _; rw [hz5.out, List.length_append, hl3.out, hlow]); have hzn : Hid (z5 = headN gen len sum) := (by show _ = _; rw [hz5.out, hz3.out, hz2.out]; rfl); have hb5 : ∀ x, x ∈ z5 → x < 256 := (by rw [hzn.out]; exact headN_byte gen len sum))
      | (go_at_call 77; refine (zWriteWord _ _ z2 len _ hW2 (by have := hl2.out; omega)).mono ?_; rintro e w3 ⟨rfl, hW3, hK3⟩; obtain ⟨z3, hz3⟩ := hid_ex (z2 ++ lowB 8 (u64n len)); rw [← hz3.out] at hW3; have hl3 : Hid (z3.length = 20) := (by show _ = _; rw [hz3.out, List.length_append, hl2.out, hlow]); have hH4 := hH3.kept hK3 (by omega); obtain ⟨_, _, e1, e2, e3⟩ := id hH4)
      | (go_at_call 77; refine (zWriteWord _ _ _ gen _ hW1 (by simp)).mono ?_; rintro e w2 ⟨rfl, hW2, hK2⟩; obtain ⟨z2, hz2⟩ := hid_ex ([72, 69, 65, 68] ++ lowB 8 (u64n gen)); rw [← hz2.out] at hW2; have hl2 : Hid (z2.length = 12) := (by show _ = _; rw [hz2.out, List.length_append, hlow]; rfl); have hH3 := hH2.kept hK2 (by omega); obtain ⟨_, _, d1, d2, d3⟩ := id hH3))
    go_ret
    have hB1 := hA3.trans (hK1.below (B := w.heap.size) hA3.size (fun k hk e => by omega))
    have hB2 := hB1.trans (hK2.below (B := w.heap.size) hB1.size (fun k hk e => by omega))
    have hB3 := hB2.trans (hK3.below (B := w.heap.size) hB2.size (fun k hk e => by omega))
    have hB4 := hB3.trans (hK4.below (B := w.heap.size) hB3.size (fun k hk e => by omega))
    have hB6 := gca (gca hB4 hb5') hb6'
    have hB7 := hB6.trans (hK7.below (B := w.heap.size) hB6.size (fun k hk e => by omega))
    refine ⟨some ⟨w.heap.size + 1, 0, none⟩, 64, by rw [hz.out, headB_length]; rfl, Or.inr ⟨w.heap.size + 1, 64, rfl, by omega, ?_⟩, hB7⟩
    have hr := hW7.row.full (n := 28) (by rw [List.length_append, hlow, hl4.out])
    rw [u64n_wrapH (sumN_lt z5), hzn.out] at hr
    rw [hz.out]
    exact hr
  · have hz : headBB ok gen len sum = [] := if_neg hk
    rw [hz]
    have hA := gal (gre w) (.cells #[.bool ok, .int .i64 gen, .int .i64 len, .int .i64 sum] 74)
    have hc : ok = false ∨ (ok = true ∧ gen < 1) ∨ (ok = true ∧ ¬ gen < 1 ∧ 1000000000000 < gen) ∨ (ok = true ∧ ¬ gen < 1 ∧ ¬ (1000000000000 < gen) ∧ len < 1) ∨ (ok = true ∧ ¬ gen < 1 ∧ ¬ (1000000000000 < gen) ∧ ¬ len < 1 ∧ 4096 < len) := by
      unfold headOkB at hk
      cases ok
      · exact Or.inl rfl
      · simp at hk
        by_cases h1 : gen < 1
        · exact Or.inr (Or.inl ⟨rfl, h1⟩)
        · by_cases h2 : 1000000000000 < gen
          · exact Or.inr (Or.inr (Or.inl ⟨rfl, h1, h2⟩))
          · by_cases h3 : len < 1
            · exact Or.inr (Or.inr (Or.inr (Or.inl ⟨rfl, h1, h2, h3⟩)))
            · exact Or.inr (Or.inr (Or.inr (Or.inr ⟨rfl, h1, h2, h3, by have := hk (by omega) (by omega) (by omega); omega⟩)))
    clear hk hz
    rcases hc with rfl | ⟨rfl, g1⟩ | ⟨rfl, g1, g2⟩ | ⟨rfl, g1, g2, g3⟩ | ⟨rfl, g1, g2, g3, g4⟩
    all_goals
      go_enter Try.func55, Try.ntmps55
      go_wp2
      go_ret
      exact ⟨none, 0, rfl, Or.inl rfl, hA⟩

theorem MB.atH {w : World} {lo : Nat} {oa : Option Addr} {ys : List Nat} (h : MB w lo oa ys) : BytesAt w oa ys := by
  rcases h with rfl | ⟨G, n, rfl, _, hB⟩
  · exact fun i hi => absurd hi (Nat.not_lt_zero _)
  · exact brow_bytes hB

end Go.Proofs.Ythjddpkegooobab
