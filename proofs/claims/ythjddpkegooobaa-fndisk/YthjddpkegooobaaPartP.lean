import Derived.Test.YthjddpkegooobaaPartO

/-
  HWR: the program's writer over a block that is zero behind what is written. Own work.
-/
namespace Go.Proofs.Ythjddpkegooobaa
open Go.RowKit

/-- a row of bytes, zero behind the first ones -/
def ZRow (w : World) (a n : Nat) (xs : List Nat) : Prop := xs.length ≤ n ∧ w.rowIs a 5 n (fun i => .int .u8 ((xs[i]! : Nat) : Int))

theorem ZRow.brow {w : World} {a n : Nat} {xs : List Nat} (h : ZRow w a n xs) : BRow w a n xs := BRow.of_row h.2 h.1 (fun _ _ => rfl)
theorem ZRow.kept {p : Nat → Prop} {w w' : World} {a n : Nat} {xs : List Nat} (h : ZRow w a n xs) (k : Kept p w w') (hn : ¬ p a) : ZRow w' a n xs := by
  have hlt := h.brow.lt
  obtain ⟨hl, c, hc, r⟩ := h
  exact ⟨hl, c, (k.block a hlt hn).trans hc, r⟩

theorem snoc_any (xs : List Nat) (x i : Nat) : (xs ++ [x])[i]! = if i = xs.length then x else xs[i]! := by
  by_cases hi : i < (xs ++ [x]).length
  · exact snoc_get hi
  · have h2 : ¬ i < xs.length := by simp at hi; omega
    have h3 : i ≠ xs.length := by simp at hi; omega
    rw [if_neg h3, getElem!_neg _ i hi, getElem!_neg xs i h2]

set_option maxRecDepth 100000 in
theorem ZRow.push {w : World} {a n : Nat} {xs : List Nat} (h : ZRow w a n xs) (hl : xs.length < n) (x : Nat) : ZRow (w.setCell ⟨a, xs.length, none⟩ (.int .u8 (x : Int))) a n (xs ++ [x]) := by
  refine ⟨by simp; omega, ?_⟩
  have h1 := h.2.set xs.length (.int .u8 (x : Int))
  have e : (fun i => Value.int .u8 (((xs ++ [x])[i]! : Nat) : Int)) = (fun i => if i = xs.length then Value.int .u8 (x : Int) else .int .u8 ((xs[i]! : Nat) : Int)) := by
    funext i
    rw [snoc_any]
    split <;> rfl
  rw [e]
  exact h1

/-- a writer of a block -/
structure ZWr (w : World) (b a : Nat) (xs : List Nat) : Prop where
  cur : Cur w b (some ⟨a, 0, none⟩) 64 64 xs.length
  ne : a ≠ b
  row : ZRow w a 64 xs
theorem ZWr.kept {p : Nat → Prop} {w w' : World} {b a : Nat} {xs : List Nat} (h : ZWr w b a xs) (k : Kept p w w') (hb : ¬ p b) (ha : ¬ p a) : ZWr w' b a xs := ⟨h.cur.kept k hb, h.ne, h.row.kept k ha⟩
theorem ZWr.grow {w w' : World} {b a : Nat} {xs : List Nat} (h : ZWr w b a xs) (k : Below w.heap.size w w') : ZWr w' b a xs := h.kept (Kept.of_below k (fun _ => False)) (fun e => e) (fun e => e)

set_option maxRecDepth 100000 in
theorem zWriteByte (b a : Nat) (xs : List Nat) (x : Nat) (z : Int) (w : World) (hW : ZWr w b a xs) (hz : z = (x : Int)) (hl : xs.length + 1 ≤ 64) :
    Calls Try.prog 118 #[.pointer (some ⟨b, 0, none⟩), .int .u8 z] w fun e w' => e = .returned (.tuple #[]) ∧ ZWr w' b a (xs ++ [x]) ∧ Kept (fun k => k = b ∨ k = a) w w' := by
  subst hz
  go_enter Try.func118, Try.ntmps118
  go_wp2_with (go_at_call 137; refine (next_fits b _ 64 64 xs.length 1 _ hW.cur (by omega) (by decide) hl).mono ?_; rintro e w1 ⟨p, c, rfl, hp, hC, hK⟩; obtain rfl := hp (by omega) _ _ rfl; have hB := hW.row.kept hK hW.ne; obtain ⟨v, hv⟩ := hB.brow.any (i := xs.length) (by omega); have hfz := hB.brow.frozen xs.length)
  go_end0
  have hB2 := hB.push (by omega) x
  exact ⟨rfl, ⟨by rw [List.length_append]; exact hC.setOther (fun e => hW.ne e.symm) _, hW.ne, hB2⟩, (hK.mono (q := fun k => k = b ∨ k = a) (fun _ _ h => Or.inl h)).set (fun _ => Or.inr rfl) _⟩

set_option maxRecDepth 100000 in
theorem zWriteWord (b a : Nat) (xs : List Nat) (n : Int) (w : World) (hW : ZWr w b a xs) (hl : xs.length + 8 ≤ 64) :
    Calls Try.prog 63 #[.pointer (some ⟨b, 0, none⟩), .int .i64 n] w fun e w' => e = .returned (.tuple #[]) ∧ ZWr w' b a (xs ++ lowB 8 (u64n n)) ∧ Kept (fun k => k = b ∨ k = a) w w' := by
  go_enter Try.func63, Try.ntmps63
  go_wp2
  go_loopw [5] (fun i ws => ∃ (k : Nat), i = .int .i64 k ∧ k ≤ 8 ∧ ZWr ws b a (xs ++ lowB k (u64n n)) ∧ Kept (fun k => k = b ∨ k = a) w ws) (fun i _ => 8 - (intOf i).toNat)
  case atStart => exact ⟨0, rfl, by omega, by rw [lowB, List.append_nil]; exact hW, Kept.refl _ _⟩
  case round =>
    obtain ⟨k, rfl, hk, hWm, hK⟩ := hrel
    by_cases hlt : k < 8
    · have hd : (k : Int) < 8 := by omega
      go_wp2_with (go_at_call 118; refine (zWriteByte b a _ (u64n n / 256 ^ k % 256) _ _ hWm (word_byte n k hlt) (by simp [lowB_length]; omega)).mono ?_; rintro e w1 ⟨rfl, hW1, hK1⟩)
      go_roundw
      case rel => exact ⟨k + 1, by go_num, by omega, by rw [lowB_snoc, ← List.append_assoc]; exact hW1, hK.trans hK1 (fun _ _ h => h)⟩
      case measure => simp [intOf]; omega
    · obtain rfl : k = 8 := by omega
      go_wp2
      go_end0
      exact ⟨rfl, hWm, hK⟩

set_option maxRecDepth 100000 in
theorem ZRow.text {w : World} {a n : Nat} {cur : Array Value} (hc : w.heap[a]? = some (.cells cur 5 (0, 0))) (h : ZRow w a n []) (s : ByteArray) (hl : s.size ≤ n) :
    ZRow (w.setRow a (Lib.byteCells s.data.toList ++ cur.toList.drop s.size).toArray) a n (bsOf s) := by
  obtain ⟨_, c, hc', hs, hx⟩ := h
  rw [hc] at hc'
  obtain rfl : cur = c := by simpa using hc'
  have e2 : (Lib.byteCells s.data.toList).length = s.size := by rw [Lib.byteCells_length, ← Lib.size_eq]
  refine ⟨by rw [bsOf_length]; exact hl, _, setRow_heap _ _ _ _ _ _ hc, ?_, fun i hi => ?_⟩
  · simp only [List.size_toArray, List.length_append, e2, List.length_drop, Array.length_toList]; omega
  · rw [List.getElem?_toArray]
    by_cases h : i < s.size
    · rw [List.getElem?_append_left (by omega)]
      exact bsOf_get h
    · rw [List.getElem?_append_right (by omega), e2, List.getElem?_drop, Array.getElem?_toList, show s.size + (i - s.size) = i by omega, hx i hi]
      show some (Value.int .u8 ((([] : List Nat)[i]! : Nat) : Int)) = some (Value.int .u8 (((bsOf s)[i]! : Nat) : Int))
      rw [getElem!_neg (bsOf s) i (by rw [bsOf_length]; exact h), getElem!_neg ([] : List Nat) i (by simp)]

set_option maxRecDepth 100000 in
theorem zWriteText (b a : Nat) (s : ByteArray) (w : World) (hW : ZWr w b a []) (hs : s.size ≤ 64) (h0 : 0 < s.size) :
    Calls Try.prog 93 #[.pointer (some ⟨b, 0, none⟩), .string s] w fun e w' => e = .returned (.tuple #[]) ∧ ZWr w' b a (bsOf s) ∧ Kept (fun k => k = b ∨ k = a) w w' := by
  have hbl := bsOf_length s
  go_enter Try.func93, Try.ntmps93
  go_wp2_with (go_at_call 137; refine (next_fits b _ 64 64 0 s.size _ hW.cur (by omega) (by decide) (by omega)).mono ?_; rintro e w1 ⟨p, c, rfl, hp, hC, hK⟩; obtain rfl := hp (by omega) _ _ rfl; have hB := hW.row.kept hK hW.ne; obtain ⟨cur, hcur, hcs, _⟩ := hB.brow; have hcp := Lib.run_copy_row_string (P := Try.prog) w1 22 9 3 5 a 0 s.size c s cur 5 Try.underlying22 size_byte hcur (Nat.le_refl _) (by omega))
  go_end0
  have hB2 := hB.text hcur s hs
  have hKs : Kept (fun k => k = a) w1 (w1.setRow a (Lib.byteCells s.data.toList ++ cur.toList.drop s.size).toArray) := ⟨rfl, rfl, rfl, by simp, fun k _ hn => setRow_other _ _ _ _ hn⟩
  have e0 : (0 : Nat) + s.size = s.size := by omega
  rw [e0] at hC
  refine ⟨rfl, ?_, ?_⟩
  · try simp only [List.take_zero, List.nil_append, Nat.zero_add]
    exact ⟨by rw [hbl]; exact hC.kept hKs (fun e => hW.ne e.symm), hW.ne, hB2⟩
  · try simp only [List.take_zero, List.nil_append, Nat.zero_add]
    exact (hK.mono (q := fun k => k = b ∨ k = a) (fun _ _ h => Or.inl h)).trans hKs (fun _ _ h => Or.inr h)

end Go.Proofs.Ythjddpkegooobaa

/-
  IHEAD: the program's HeadBlock. Own work.
-/
namespace Go.Proofs.Ythjddpkegooobaa
open Go.RowKit

def headBB (ok : Bool) (gen len sum : Int) : List Nat := if headOkB ok gen len = true then headB gen len sum else []
theorem headBB_len (ok : Bool) (gen len sum : Int) : (headBB ok gen len sum).length ≤ 64 := by
  unfold headBB
  split
  · rw [headB_length]; omega
  · exact Nat.zero_le _

/-- bytes that are handed back, zero or more, at the head of memory of their own -/
def HPost (ys : List Nat) (w : World) (e : Ending) (w' : World) : Prop := ∃ oa c, e = .returned (.slice oa ys.length c) ∧ MB w' w.heap.size oa ys ∧ Below w.heap.size w w'

set_option maxRecDepth 100000 in
theorem zwr_new (w : World) (M : Array Value) (hM : M = madeCells #[Value.int .u8 0] 64) : ZWr ((w.alloc (.cells M 5)).alloc (.cells #[.slice (some ⟨w.heap.size, 0, none⟩) 64 64, .int .i64 0] 91)) (w.heap.size + 1) w.heap.size [] := by
  subst hM
  have h1 := rowIs_made_any w #[Value.int .u8 0] 64 5
  have e : (fun i => (#[Value.int .u8 0])[i % (#[Value.int .u8 0]).size]!) = (fun i : Nat => Value.int .u8 ((([] : List Nat)[i]! : Nat) : Int)) := by
    funext i
    have : i % (#[Value.int .u8 0]).size = 0 := by simp [Nat.mod_one]
    rw [this, getElem!_neg ([] : List Nat) i (by simp)]
    rfl
  rw [e] at h1
  refine ⟨⟨by simp, by simp, by simp, fun o => by simp⟩, by omega, ⟨by simp, ?_⟩⟩
  obtain ⟨c, hc, r⟩ := h1
  exact ⟨c, by rw [Below.heap_alloc _ _ _ (by simp)]; exact hc, r⟩

theorem app_zero (zs : List Nat) (n i : Nat) : (zs ++ List.replicate n 0)[i]! = zs[i]! := by
  by_cases h : i < zs.length
  · rw [getElem!_pos _ i (by simp; omega), getElem!_pos zs i h, List.getElem_append_left h]
  · rw [getElem!_neg zs i h]
    by_cases h2 : i < (zs ++ List.replicate n 0).length
    · rw [getElem!_pos _ i h2, List.getElem_append_right (by omega)]
      simp
    · rw [getElem!_neg _ i h2]
theorem ZRow.full {w : World} {a : Nat} {zs : List Nat} (h : ZRow w a 64 zs) {n : Nat} (hn : zs.length + n = 64) : BRow w a 64 (zs ++ List.replicate n 0) :=
  BRow.of_row h.2 (by simp; omega) (fun i _ => by rw [app_zero])
theorem headN_byte (gen len sum : Int) : ∀ x, x ∈ headN gen len sum → x < 256 := fun x hx => by
  unfold headN at hx
  rcases List.mem_append.1 hx with hx | hx
  · rcases List.mem_append.1 hx with hx | hx
    · rcases List.mem_append.1 hx with hx | hx
      · simp at hx; omega
      · exact lowB_byte _ _ _ hx
    · exact lowB_byte _ _ _ hx
  · exact lowB_byte _ _ _ hx
theorem u64n_wrapH {n : Nat} (h : n < 18446744073709551616) : u64n (wrap64 (n : Int)) = n := by unfold u64n wrap64; omega
theorem bsOf_head : bsOf ⟨#[72, 69, 65, 68]⟩ = [72, 69, 65, 68] := by decide

set_option maxHeartbeats 1000000 in
set_option maxRecDepth 100000 in
theorem implHeadBlock_any (ok : Bool) (gen len sum : Int) (w : World) :
    Calls Try.prog 36 #[headV ok gen len sum] w (HPost (headBB ok gen len sum) w) := by
  by_cases hk : headOkB ok gen len = true
  · have hz : Hid (headBB ok gen len sum = headB gen len sum) := if_pos hk
    obtain ⟨rfl, g1, g2, g3, g4⟩ : ok = true ∧ ¬ gen < 1 ∧ ¬ (1000000000000 < gen) ∧ ¬ len < 1 ∧ ¬ (4096 < len) := by
      unfold headOkB at hk
      simp at hk
      exact ⟨hk.1.1.1.1, by omega, by omega, by omega, by omega⟩
    have hH0 := HBox.new w true gen len sum 55
    have hA := gal (gre w) (.cells #[.bool true, .int .i64 gen, .int .i64 len, .int .i64 sum] 55)
    obtain ⟨i0, hi, hz0, hz1, hz2⟩ := info_parts info_u8
    obtain ⟨M, hM⟩ := hid_ex (madeCells #[Value.int .u8 0] 64)
    have hmk : ∀ u : World, (Instr.makeSlice 22 (.int .i64 64) (.int .i64 64)).run Try.prog u = .ok (.slice (some ⟨u.heap.size, 0, none⟩) 64 64) (u.alloc (.cells M 5)) := fun u => by
      have h := run_make (P := Try.prog) u 22 5 i0 _ Try.underlying22 hi hz0 .i64 .i64 64 64 (by omega) (Int.le_refl _) (by rw [hz2]; omega) (by omega)
      rw [hM.out]
      simpa [hz1, Value.cells] using h
    have hgw : wrap64 gen = gen := by unfold wrap64; omega
    have hlw : wrap64 len = len := by unfold wrap64; omega
    have hlow : ∀ n, (lowB 8 n).length = 8 := lowB_length 8
    go_enter Try.func36, Try.ntmps36
    have hW0 := zwr_new (w.alloc (.cells #[.bool true, .int .i64 gen, .int .i64 len, .int .i64 sum] 55)) M hM.out
    have hH1 := (hH0.kept (Kept.of_below (gal (gal (gre _) (.cells M 5)) (.cells #[.slice (some ⟨(w.alloc (.cells #[.bool true, .int .i64 gen, .int .i64 len, .int .i64 sum] 55)).heap.size, 0, none⟩) 64 64, .int .i64 0] 91)) (fun _ => False)) (fun e => e))
    have hA3 := gal (gal hA (.cells M 5)) (.cells #[.slice (some ⟨(w.alloc (.cells #[.bool true, .int .i64 gen, .int .i64 len, .int .i64 sum] 55)).heap.size, 0, none⟩) 64 64, .int .i64 0] 91)
    simp only [World.size_alloc] at hW0 hH1 hA3
    go_upto_region 99 with (first
      | (go_at_call 93; refine (zWriteText _ _ _ _ hW0 (by decide) (by decide)).mono ?_; rintro e w1 ⟨rfl, hW1, hK1⟩; rw [bsOf_head] at hW1; have hH2 := hH1.kept hK1 (by omega); obtain ⟨_, _, b1, b2, b3⟩ := id hH2)
      | (go_at_call 63; refine (zWriteWord _ _ z5 _ _ hW6 (by have := hl4.out; omega)).mono ?_; rintro e w7 ⟨rfl, hW7, hK7⟩; have c7 := hW7.cur.c0)
      | (go_at_call 50; refine (implSumOf_any _ z5 64 _ (brow_bytes hW5.row.brow) (by have := hl4.out; unfold maxLen; omega) hb5).mono ?_; rintro e w6 ⟨rfl, hb6'⟩; have hW6 := hW5.grow hb6')
      | (go_at_call 64; refine (passed_any _ _ 64 64 z5.length _ hW4.cur (by omega) (by decide) (by have := hl4.out; omega)).mono ?_; rintro e w5 ⟨rfl, hb5'⟩; have hW5 := hW4.grow hb5')
      | (go_at_call 63; refine (zWriteWord _ _ z3 sum _ hW3 (by have := hl3.out; omega)).mono ?_; rintro e w4 ⟨rfl, hW4, hK4⟩; obtain ⟨z5, hz5⟩ := hid_ex (z3 ++ lowB 8 (u64n sum)); rw [← hz5.out] at hW4; have hl4 : Hid (z5.length = 28) := (by show _ = _; rw [hz5.out, List.length_append, hl3.out, hlow]); have hzn : Hid (z5 = headN gen len sum) := (by show _ = _; rw [hz5.out, hz3.out, hz2.out]; rfl); have hb5 : ∀ x, x ∈ z5 → x < 256 := (by rw [hzn.out]; exact headN_byte gen len sum))
      | (go_at_call 63; refine (zWriteWord _ _ z2 len _ hW2 (by have := hl2.out; omega)).mono ?_; rintro e w3 ⟨rfl, hW3, hK3⟩; obtain ⟨z3, hz3⟩ := hid_ex (z2 ++ lowB 8 (u64n len)); rw [← hz3.out] at hW3; have hl3 : Hid (z3.length = 20) := (by show _ = _; rw [hz3.out, List.length_append, hl2.out, hlow]); have hH4 := hH3.kept hK3 (by omega); obtain ⟨_, _, e1, e2, e3⟩ := id hH4)
      | (go_at_call 63; refine (zWriteWord _ _ _ gen _ hW1 (by simp)).mono ?_; rintro e w2 ⟨rfl, hW2, hK2⟩; obtain ⟨z2, hz2⟩ := hid_ex ([72, 69, 65, 68] ++ lowB 8 (u64n gen)); rw [← hz2.out] at hW2; have hl2 : Hid (z2.length = 12) := (by show _ = _; rw [hz2.out, List.length_append, hlow]; rfl); have hH3 := hH2.kept hK2 (by omega); obtain ⟨_, _, d1, d2, d3⟩ := id hH3))
    go_ret
    have hB1 := hA3.trans (hK1.below (B := w.heap.size) hA3.size (fun k hk e => by omega))
    have hB2 := hB1.trans (hK2.below (B := w.heap.size) hB1.size (fun k hk e => by omega))
    have hB3 := hB2.trans (hK3.below (B := w.heap.size) hB2.size (fun k hk e => by omega))
    have hB4 := hB3.trans (hK4.below (B := w.heap.size) hB3.size (fun k hk e => by omega))
    have hB6 := gca (gca hB4 hb5') hb6'
    have hB7 := hB6.trans (hK7.below (B := w.heap.size) hB6.size (fun k hk e => by omega))
    refine ⟨some ⟨w.heap.size + 1, 0, none⟩, 64, by rw [hz.out, headB_length]; rfl, Or.inr ⟨w.heap.size + 1, 64, rfl, by omega, ?_⟩, hB7⟩
    have hr := hW7.row.full (n := 28) (by rw [List.length_append, hlow, hl4.out])
    rw [u64n_wrapH (sumN_lt z5), hzn.out] at hr
    rw [hz.out]
    exact hr
  · have hz : headBB ok gen len sum = [] := if_neg hk
    rw [hz]
    have hA := gal (gre w) (.cells #[.bool ok, .int .i64 gen, .int .i64 len, .int .i64 sum] 55)
    have hc : ok = false ∨ (ok = true ∧ gen < 1) ∨ (ok = true ∧ ¬ gen < 1 ∧ 1000000000000 < gen) ∨ (ok = true ∧ ¬ gen < 1 ∧ ¬ (1000000000000 < gen) ∧ len < 1) ∨ (ok = true ∧ ¬ gen < 1 ∧ ¬ (1000000000000 < gen) ∧ ¬ len < 1 ∧ 4096 < len) := by
      unfold headOkB at hk
      cases ok
      · exact Or.inl rfl
      · simp at hk
        by_cases h1 : gen < 1
        · exact Or.inr (Or.inl ⟨rfl, h1⟩)
        · by_cases h2 : 1000000000000 < gen
          · exact Or.inr (Or.inr (Or.inl ⟨rfl, h1, h2⟩))
          · by_cases h3 : len < 1
            · exact Or.inr (Or.inr (Or.inr (Or.inl ⟨rfl, h1, h2, h3⟩)))
            · exact Or.inr (Or.inr (Or.inr (Or.inr ⟨rfl, h1, h2, h3, by have := hk (by omega) (by omega) (by omega); omega⟩)))
    clear hk hz
    rcases hc with rfl | ⟨rfl, g1⟩ | ⟨rfl, g1, g2⟩ | ⟨rfl, g1, g2, g3⟩ | ⟨rfl, g1, g2, g3, g4⟩
    all_goals
      go_enter Try.func36, Try.ntmps36
      go_wp2
      go_ret
      exact ⟨none, 0, rfl, Or.inl rfl, hA⟩

theorem MB.atH {w : World} {lo : Nat} {oa : Option Addr} {ys : List Nat} (h : MB w lo oa ys) : BytesAt w oa ys := by
  rcases h with rfl | ⟨G, n, rfl, _, hB⟩
  · exact fun i hi => absurd hi (Nat.not_lt_zero _)
  · exact brow_bytes hB

end Go.Proofs.Ythjddpkegooobaa

/-
  RD: the program's reader. Own work.
-/
namespace Go.Proofs.Ythjddpkegooobaa
open Go.RowKit

/-- bytes at a place, below a bound -/
def BytesLow (B : Nat) (w : World) (a : Option Addr) (bs : List Nat) : Prop := ∀ i, i < bs.length → ∃ b off, a = some ⟨b, off, none⟩ ∧ b < B ∧ w.cell? ⟨b, off + i, none⟩ = some (.int .u8 ((bs[i]! : Nat) : Int))
set_option maxRecDepth 100000 in
theorem BytesLow.below {B : Nat} {w w' : World} {a : Option Addr} {bs : List Nat} (h : BytesLow B w a bs) (hb : Below B w w') : BytesLow B w' a bs := fun i hi => by
  obtain ⟨b, off, ha, hB, hc⟩ := h i hi
  exact ⟨b, off, ha, hB, (World.cell?_of_block (w := w) (hb.block b hB)).trans hc⟩
set_option maxRecDepth 100000 in
theorem BytesLow.at_ {B : Nat} {w : World} {a : Option Addr} {bs : List Nat} (h : BytesLow B w a bs) : BytesAt w a bs := fun i hi => by
  obtain ⟨b, off, ha, _, hc⟩ := h i hi
  exact ⟨b, off, ha, hc⟩
set_option maxRecDepth 100000 in
theorem BytesAt.low {w : World} {a : Option Addr} {bs : List Nat} (h : BytesAt w a bs) : BytesLow w.heap.size w a bs := fun i hi => by
  obtain ⟨b, off, ha, hc⟩ := h i hi
  exact ⟨b, off, ha, World.block_lt_of_cell? _ _ hc, hc⟩

/-- a reader that has so much left -/
structure Rd (w : World) (b : Nat) (sa : Option Addr) (cap : Nat) (bs r : List Nat) : Prop where
  ex : ∃ at_, Cur w b sa bs.length cap at_ ∧ at_ ≤ bs.length ∧ r = bs.drop at_
  low : BytesLow b w sa bs
  cap : bs.length ≤ cap
  len : bs.length ≤ 1099511627776
  byte : ∀ x, x ∈ bs → x < 256

set_option maxRecDepth 100000 in
theorem Rd.lt {w : World} {b : Nat} {sa : Option Addr} {cap : Nat} {bs r : List Nat} (h : Rd w b sa cap bs r) : b < w.heap.size := by obtain ⟨_, hc, _⟩ := h.ex; exact hc.lt
set_option maxRecDepth 100000 in
theorem Rd.kept {p : Nat → Prop} {w w' : World} {b : Nat} {sa : Option Addr} {cap : Nat} {bs r : List Nat} (h : Rd w b sa cap bs r) (k : Kept p w w') (hp : ∀ k, k ≤ b → ¬ p k) : Rd w' b sa cap bs r := by
  obtain ⟨at_, hc, ha, hr⟩ := h.ex
  exact ⟨⟨at_, hc.kept k (hp b (Nat.le_refl _)), ha, hr⟩, h.low.below (k.below (by have := hc.lt; omega) (fun k hk => hp k (by omega))), h.cap, h.len, h.byte⟩
set_option maxRecDepth 100000 in
theorem Rd.grow {w w' : World} {b : Nat} {sa : Option Addr} {cap : Nat} {bs r : List Nat} (h : Rd w b sa cap bs r) (k : Below w.heap.size w w') : Rd w' b sa cap bs r := h.kept (Kept.of_below k (fun _ => False)) (fun _ _ e => e)

/-- what a reader's call leaves -/
def RPost {α : Type} (f : Option (α × List Nat)) (enc : α → Value) (b : Nat) (sa : Option Addr) (cap : Nat) (bs : List Nat) (w : World) (e : Ending) (w' : World) : Prop :=
  Kept (fun k => k = b) w w' ∧ ((∃ x r', Hid (f = some (x, r')) ∧ e = .returned (enc x) ∧ Rd w' b sa cap bs r') ∨ (Hid (f = none) ∧ e = .panicked [haltP]))

def rdByte : List Nat → Option (Nat × List Nat)
  | [] => none
  | x :: r => some (x, r)

theorem hidx {α : Type} (x : α) : ∃ y, Hid (y = x) := ⟨x, rfl⟩
set_option maxRecDepth 100000 in
theorem drop_cons {bs : List Nat} {k : Nat} (h : k < bs.length) : bs.drop k = bs[k]! :: bs.drop (k + 1) := by
  rw [List.drop_eq_getElem_cons h, getElem!_pos bs k h]

set_option maxRecDepth 100000 in
theorem readByte_any (b : Nat) (sa : Option Addr) (cap : Nat) (bs r : List Nat) (w : World) (hR : Rd w b sa cap bs r) :
    Calls Try.prog 149 #[.pointer (some ⟨b, 0, none⟩)] w (RPost (rdByte r) (fun x => .int .u8 (x : Int)) b sa cap bs w) := by
  obtain ⟨⟨k, hC, hk, hr⟩, hlow, hcap, hlen, hbyte⟩ := hR
  by_cases hlt : k < bs.length
  · obtain ⟨x, hx⟩ := hidx bs[k]!
    have e1 : Hid (rdByte r = some (x, bs.drop (k + 1))) := by show _ = _; rw [hr, drop_cons hlt, hx.out]; rfl
    obtain ⟨ba, off, rfl, hba, hcell⟩ := hlow k hlt
    rw [← hx.out] at hcell
    go_enter Try.func149, Try.ntmps149
    go_wp2_with (go_at_call 137; refine (next_fits b _ bs.length cap k 1 _ hC hcap (by unfold maxLen; omega) (by omega)).mono ?_; rintro e w1 ⟨p, c, rfl, hp, hC1, hK1⟩; obtain rfl := hp (by omega) _ _ rfl; have hcell1 := hK1.cell hcell (by omega))
    go_ret
    exact ⟨hK1, Or.inl ⟨_, _, e1, rfl, ⟨⟨k + 1, hC1, by omega, rfl⟩, hlow.below (hK1.below (by have := hC.lt; omega) (fun k hk e => by omega)), hcap, hlen, hbyte⟩⟩⟩
  · have e1 : Hid (rdByte r = none) := by show _ = _; rw [hr, List.drop_of_length_le (by omega)]; rfl
    go_enter Try.func149, Try.ntmps149
    go_wp2_with (go_at_call 137; refine (next_not b _ bs.length cap k 1 _ hC (by unfold maxLen; omega) hk (by omega)).mono ?_; rintro e w1 ⟨rfl, hb⟩)
    exact ⟨rfl, Kept.of_below hb _, Or.inr ⟨e1, rfl⟩⟩

set_option maxRecDepth 100000 in
theorem conv_text {w : World} {a : Option Addr} {n c : Nat} {ys : List Nat} (h : BytesAt w a ys) (hn : ys.length = n) : (convert 22 9 (.slice a n c)).run Try.prog w = .ok (.string (strB ys)) w := by
  by_cases h0 : n = 0
  · subst h0
    have : ys = [] := List.eq_nil_of_length_eq_zero hn
    subst this
    cases a with
    | none =>
      rw [run_convert_bytes_nil w 22 5 Try.underlying22 Try.underlying5 0 c 9 Try.underlying9]
      rfl
    | some p =>
      obtain ⟨b, off, sp⟩ := p
      rw [run_convert_bytes_string w 22 9 5 _ 0 c Try.underlying22 Try.underlying5 Try.underlying9]
      have hl : (loadCells ⟨b, off, sp⟩ 0).run Try.prog w = .ok ((([] : List Int).map (Value.int .u8)).toArray) w := by simp [loadCells, loadCellsFrom]
      rw [run_bytesToString w _ 0 c [] hl]
      rfl
  · obtain ⟨b, off, rfl, _⟩ := h 0 (by omega)
    refine run_convert_bytes_arg w 22 5 Try.underlying22 Try.underlying5 b off n c (ys.map fun (x : Nat) => (x : Int)) (by rw [List.length_map]; exact hn) (fun i hi => ?_) 9 Try.underlying9
    obtain ⟨b', off', e, hc⟩ := h i (by omega)
    have e2 : b' = b ∧ off' = off := by simpa using e.symm
    obtain ⟨rfl, rfl⟩ := e2
    rw [hc, getElem!_pos ys i (by omega)]
    simp [List.getD, show i < ys.length by omega]

theorem take_bytes {w : World} {b : Nat} {sa p : Option Addr} {bs : List Nat} {k n : Nat} (hlow : BytesLow b w sa bs) (hkn : k + n ≤ bs.length) (hp : 0 < n → ∀ g off, sa = some ⟨g, off, none⟩ → p = some ⟨g, off + k, none⟩) : BytesAt w p ((bs.drop k).take n) := fun i hi => by
  rw [List.length_take, List.length_drop] at hi
  obtain ⟨ba, off, e, hba, hcell⟩ := hlow (k + i) (by omega)
  refine ⟨ba, off + k, hp (by omega) _ _ e, ?_⟩
  rw [Nat.add_assoc, hcell, getElem!_pos _ i (by rw [List.length_take, List.length_drop]; omega), getElem!_pos bs (k + i) (by omega)]
  simp

theorem Rd.head {w : World} {b : Nat} {sa : Option Addr} {cap : Nat} {bs q r' : List Nat} {x : Nat} (h : Rd w b sa cap bs q) (hx : rdByte q = some (x, r')) : x < 256 ∧ q = x :: r' := by
  cases q with
  | nil => cases hx
  | cons y t =>
    have e : y = x ∧ t = r' := by simpa [rdByte] using hx
    obtain ⟨rfl, rfl⟩ := e
    obtain ⟨k, _, _, hr⟩ := h.ex
    refine ⟨h.byte y ?_, rfl⟩
    have h1 : y ∈ bs.drop k := by rw [← hr]; exact List.mem_cons_self ..
    exact List.mem_of_mem_drop h1
theorem or_form {n x s : Nat} (hn : n < 18446744073709551616) (hx : x < 256) : bits .or .u64 (n : Int) (IntKind.u64.wrap (IntKind.u64.wrap (bits .andNot .u8 (x : Int) 128) * 2 ^ min s 64)) = ((orU n (x % 128) s : Nat) : Int) := by
  have e1 : bits .andNot .u8 (x : Int) 128 = ((x % 128 : Nat) : Int) := by
    rw [u8_andNot _ _ (by omega) (by omega) (by omega) (by omega)]
    have h1 : (255 - (128 : Int).toNat) = 127 := rfl
    rw [h1, Int.toNat_natCast, nat_mask7]
  have e2 : IntKind.u64.wrap ((x % 128 : Nat) : Int) = ((x % 128 : Nat) : Int) := by rw [IntKind.wrap_u64]; omega
  have e3 : (((x % 128 : Nat) : Int) * 2 ^ min s 64) = ((x % 128 * 2 ^ min s 64 : Nat) : Int) := by push_cast; rfl
  have e4 : IntKind.u64.wrap ((x % 128 * 2 ^ min s 64 : Nat) : Int) = ((x % 128 * 2 ^ min s 64 % 18446744073709551616 : Nat) : Int) := by rw [IntKind.wrap_u64]; generalize x % 128 * 2 ^ min s 64 = y; omega
  rw [e1, e2, e3, e4, u64_or_nat n _ hn (Nat.mod_lt _ (by omega))]
  rfl
theorem orU_lt {n x s : Nat} (hn : n < 18446744073709551616) : orU n x s < 18446744073709551616 := by
  unfold orU
  exact Nat.or_lt_two_pow (n := 64) hn (Nat.mod_lt _ (by omega))

end Go.Proofs.Ythjddpkegooobaa

/-
  RD2: the program's reader: words, values. Own work.
-/
namespace Go.Proofs.Ythjddpkegooobaa
open Go.RowKit

theorem wrap64_eq (n : Int) : wrap64 n = IntKind.i64.wrap n := by rw [IntKind.wrap_i64]; unfold wrap64; omega
theorem orI_form {n : Int} {x i : Nat} (hx : x < 256) : bits .or .i64 n (wrap64 (wrap64 (x : Int) * 2 ^ (8 * i))) = orI n x i := by
  have e1 : wrap64 (x : Int) = (x : Int) := by unfold wrap64; omega
  rw [e1, wrap64_eq]; rfl

set_option maxRecDepth 100000 in
theorem readWord_any (b : Nat) (sa : Option Addr) (cap : Nat) (bs r : List Nat) (w : World) (hR : Rd w b sa cap bs r) :
    Calls Try.prog 138 #[.pointer (some ⟨b, 0, none⟩)] w (RPost (rdLow 8 0 0 r) (fun x => .int .i64 x) b sa cap bs w) := by
  go_enter Try.func138, Try.ntmps138
  go_wp2
  go_loopw [3, 5] (fun a c ws => ∃ (n : Int) (i : Nat) (q : List Nat), a = .int .i64 n ∧ c = .int .i64 i ∧ i ≤ 8 ∧ Hid (rdLow 8 0 0 r = rdLow (8 - i) i n q) ∧ Rd ws b sa cap bs q ∧ Kept (fun k => k = b) w ws) (fun _ c _ => 8 - (intOf c).toNat)
  case atStart => exact ⟨0, 0, r, rfl, rfl, by omega, rfl, hR, Kept.refl _ _⟩
  case round =>
    obtain ⟨n, i, q, rfl, rfl, hi, hq, hRq, hK⟩ := hrel
    by_cases hlt : i < 8
    · have hd : (i : Int) < 8 := by omega
      go_wp2_with (go_at_call 149; refine (readByte_any b sa cap bs q _ hRq).mono ?_; rintro e w1 ⟨hK1, ⟨x, r', hx, rfl, hR1⟩ | ⟨hno, rfl⟩⟩)
      · obtain ⟨hx256, hqx⟩ := hRq.head hx.out
        have e5 : Hid (rdLow 8 0 0 r = rdLow (8 - (i + 1)) (i + 1) (orI n x i) r') := by
          show _ = _
          rw [hq.out, hqx, show 8 - i = (8 - (i + 1)) + 1 by omega, rdLow]
        refine ⟨⟨_, i + 1, r', congrArg (Value.int .i64) (orI_form hx256), by go_num, by omega, e5, hR1, hK.trans hK1 (fun _ _ h => h)⟩, ?_⟩
        simp [intOf]; omega
      · have e5 : Hid (rdLow 8 0 0 r = none) := by
          show _ = _
          rw [hq.out, show 8 - i = (8 - (i + 1)) + 1 by omega]
          cases q with
          | nil => rfl
          | cons y t => cases hno.out
        exact ⟨rfl, hK.trans hK1 (fun _ _ h => h), Or.inr ⟨e5, rfl⟩⟩
    · obtain rfl : i = 8 := by omega
      go_wp2
      go_ret
      exact ⟨hK, Or.inl ⟨n, q, hq, rfl, hRq⟩⟩

theorem xor_all (x : Nat) (h : x < 18446744073709551616) : x ^^^ 18446744073709551615 = 18446744073709551615 - x := by
  have h1 := congrArg BitVec.toNat (BitVec.xor_allOnes (x := BitVec.ofNat 64 x))
  rw [BitVec.toNat_xor, BitVec.toNat_not, BitVec.toNat_allOnes, BitVec.toNat_ofNat, Nat.mod_eq_of_lt h] at h1
  exact h1
theorem zag_form {n : Nat} (hn : n < 18446744073709551616) : bits .xor .i64 ((n : Int) / 2) (wrap64 (-wrap64 (bits .and .u64 (n : Int) 1))) = zag n := by
  have e1 : bits .and .u64 (n : Int) 1 = ((n % 2 : Nat) : Int) := by
    rw [u64_and _ _ (by omega) (by omega) (by omega) (by omega)]
    have h1 : (1 : Int).toNat = 1 := rfl
    rw [h1, Int.toNat_natCast, nat_mask1]
  have e2 : (n : Int) / 2 = IntKind.i64.wrap ((n / 2 : Nat) : Int) := by rw [IntKind.wrap_i64]; omega
  rw [e1]
  unfold zag
  split
  · rename_i h
    have e3 : wrap64 (-wrap64 ((n % 2 : Nat) : Int)) = IntKind.i64.wrap ((18446744073709551615 : Nat) : Int) := by rw [h, IntKind.wrap_i64]; unfold wrap64; omega
    rw [e2, e3]
    show IntKind.i64.wrap ((BitVec.ofInt 64 (IntKind.i64.wrap ((n / 2 : Nat) : Int)) ^^^ BitVec.ofInt 64 (IntKind.i64.wrap ((18446744073709551615 : Nat) : Int))).toNat : Nat) = _
    rw [BitVec.toNat_xor, ofInt_wrap _ (by omega), ofInt_wrap _ (by omega), xor_all _ (by omega), IntKind.wrap_i64]
    omega
  · rename_i h
    have e3 : wrap64 (-wrap64 ((n % 2 : Nat) : Int)) = IntKind.i64.wrap ((0 : Nat) : Int) := by rw [show n % 2 = 0 by omega, IntKind.wrap_i64]; unfold wrap64; omega
    rw [e2, e3]
    show IntKind.i64.wrap ((BitVec.ofInt 64 (IntKind.i64.wrap ((n / 2 : Nat) : Int)) ^^^ BitVec.ofInt 64 (IntKind.i64.wrap ((0 : Nat) : Int))).toNat : Nat) = _
    rw [BitVec.toNat_xor, ofInt_wrap _ (by omega), ofInt_wrap _ (by omega), Nat.xor_zero, IntKind.wrap_i64]
    omega

/-- what reading a value leaves -/
def RVPost (b : Nat) (sa : Option Addr) (cap : Nat) (bs r : List Nat) (w : World) (e : Ending) (w' : World) : Prop := RPost (rdVal r) GV.val b sa cap bs w e w'

set_option maxRecDepth 100000 in
theorem rdNum_lt : ∀ (n s : Nat) (r : List Nat) (x : Nat) (r' : List Nat), n < 18446744073709551616 → rdNum n s r = some (x, r') → x < 18446744073709551616
  | _, _, [], _, _, _, h => by cases h
  | n, s, b :: r, x, r', hn, h => by
    unfold rdNum at h
    split at h
    · have e := congrArg (fun o => o.map Prod.fst) h
      have e2 : orU n (b % 128) s = x := by simpa using e
      rw [← e2]; exact orU_lt hn
    · exact rdNum_lt _ _ r x r' (orU_lt hn) h

theorem kk {b : Nat} {w w' w'' : World} (h : Kept (fun k => k = b) w w') (k : Kept (fun k => k = b) w' w'') : Kept (fun k => k = b) w w'' := h.trans k (fun _ _ h => h)

theorem RPost.ok {α : Type} {x : α} {r' : List Nat} {enc : α → Value} {b : Nat} {sa : Option Addr} {cap : Nat} {bs : List Nat} {w : World} {e : Ending} {w' : World} (h : RPost (some (x, r')) enc b sa cap bs w e w') : e = .returned (enc x) ∧ Rd w' b sa cap bs r' ∧ Kept (fun k => k = b) w w' := by
  obtain ⟨hK, ⟨y, q, he, e1, hR⟩ | ⟨he, _⟩⟩ := h
  · have e2 : x = y ∧ r' = q := by simpa using he.out
    obtain ⟨rfl, rfl⟩ := e2
    exact ⟨e1, hR, hK⟩
  · cases he.out
theorem RPost.no {α : Type} {enc : α → Value} {b : Nat} {sa : Option Addr} {cap : Nat} {bs : List Nat} {w : World} {e : Ending} {w' : World} (h : RPost (none : Option (α × List Nat)) enc b sa cap bs w e w') : e = .panicked [haltP] ∧ Kept (fun k => k = b) w w' := by
  obtain ⟨hK, ⟨y, q, he, _⟩ | ⟨_, e1⟩⟩ := h
  · cases he.out
  · exact ⟨e1, hK⟩

theorem fin4 {w wX : World} {b : Nat} {sa : Option Addr} {cap : Nat} {bs r' : List Nat} (hb : b < w.heap.size) (hK : Kept (fun k => k = b) w wX) (hR : Rd wX b sa cap bs r') (u0 u1 u2 u3 : Value) :
    Kept (fun k => k = b) w ((((wX.setCell ⟨w.heap.size, 0, none⟩ u0).setCell ⟨w.heap.size, 1, none⟩ u1).setCell ⟨w.heap.size, 2, none⟩ u2).setCell ⟨w.heap.size, 3, none⟩ u3) ∧ Rd ((((wX.setCell ⟨w.heap.size, 0, none⟩ u0).setCell ⟨w.heap.size, 1, none⟩ u1).setCell ⟨w.heap.size, 2, none⟩ u2).setCell ⟨w.heap.size, 3, none⟩ u3) b sa cap bs r' :=
  ⟨(((hK.set (fun h => absurd h (Nat.lt_irrefl _)) _).set (fun h => absurd h (Nat.lt_irrefl _)) _).set (fun h => absurd h (Nat.lt_irrefl _)) _).set (fun h => absurd h (Nat.lt_irrefl _)) _,
    hR.kept (((((Kept.refl (fun k => k = w.heap.size) wX).set (fun _ => rfl) _).set (fun _ => rfl) _).set (fun _ => rfl) _).set (fun _ => rfl) _) (fun k hk e => by omega)⟩

theorem Four.set4 {w : World} {b : Nat} {u : GV} (h : Four w b u) (v : GV) : Four ((((w.setCell ⟨b, 0, none⟩ (.int .i64 v.kind)).setCell ⟨b, 1, none⟩ (.int .i64 v.num)).setCell ⟨b, 2, none⟩ (.string v.text)).setCell ⟨b, 3, none⟩ (.int .i64 v.node)) b v := by
  obtain ⟨hl, c0, c1, c2, c3, hf⟩ := h
  refine ⟨by simpa [World.setCell] using hl, ?_, ?_, ?_, ?_, fun o => ?_⟩
  · rw [World.cell?_setCell_other _ _ _ _ (by simp), World.cell?_setCell_other _ _ _ _ (by simp), World.cell?_setCell_other _ _ _ _ (by simp)]
    exact World.cell?_setCell_same _ _ _ c0
  · rw [World.cell?_setCell_other _ _ _ _ (by simp), World.cell?_setCell_other _ _ _ _ (by simp)]
    exact World.cell?_setCell_same (u := .int .i64 u.num) _ _ _ (by rw [World.cell?_setCell_other _ _ _ _ (by simp)]; exact c1)
  · rw [World.cell?_setCell_other _ _ _ _ (by simp)]
    exact World.cell?_setCell_same (u := .string u.text) _ _ _ (by rw [World.cell?_setCell_other _ _ _ _ (by simp), World.cell?_setCell_other _ _ _ _ (by simp)]; exact c2)
  · exact World.cell?_setCell_same (u := .int .i64 u.node) _ _ _ (by rw [World.cell?_setCell_other _ _ _ _ (by simp), World.cell?_setCell_other _ _ _ _ (by simp), World.cell?_setCell_other _ _ _ _ (by simp)]; exact c3)
  · rw [World.frozen?_setCell, World.frozen?_setCell, World.frozen?_setCell, World.frozen?_setCell]; exact hf o

theorem rdCount_le {most : Nat} {r : List Nat} {n : Nat} {q : List Nat} (h : rdCount most r = some (n, q)) : n ≤ most := by
  unfold rdCount at h
  split at h
  · split at h
    · rename_i hle
      have e := congrArg (fun o => o.map Prod.fst) h
      simp only [Option.map_some, Option.some.injEq] at e
      rw [← e]; exact hle
    · cases h
  · cases h

end Go.Proofs.Ythjddpkegooobaa
