import Derived.Test.YthjddpkegooobabPartNwE

/-
  HWR: the program's writer over a block that is zero behind what is written. Own work.
-/
namespace Go.Proofs.Ythjddpkegooobab
open Go.RowKit

/-- a row of bytes, zero behind the first ones -/
def ZRow (w : World) (a n : Nat) (xs : List Nat) : Prop := xs.length ≤ n ∧ w.rowIs a 5 n (fun i => .int .u8 ((xs[i]! : Nat) : Int))

theorem ZRow.brow {w : World} {a n : Nat} {xs : List Nat} (h : ZRow w a n xs) : BRow w a n xs := BRow.of_row h.2 h.1 (fun _ _ => rfl)
theorem ZRow.kept {p : Nat → Prop} {w w' : World} {a n : Nat} {xs : List Nat} (h : ZRow w a n xs) (k : Kept p w w') (hn : ¬ p a) : ZRow w' a n xs := by
  have hlt := h.brow.lt
  obtain ⟨hl, c, hc, r⟩ := h
  exact ⟨hl, c, (k.block a hlt hn).trans hc, r⟩

theorem snoc_any (xs : List Nat) (x i : Nat) : (xs ++ [x])[i]! = if i = xs.length then x else xs[i]! := by
  by_cases hi : i < (xs ++ [x]).length
  · exact snoc_get hi
  · have h2 : ¬ i < xs.length := by simp at hi; omega
    have h3 : i ≠ xs.length := by simp at hi; omega
    rw [if_neg h3, getElem!_neg _ i hi, getElem!_neg xs i h2]

set_option maxRecDepth 100000 in
theorem ZRow.push {w : World} {a n : Nat} {xs : List Nat} (h : ZRow w a n xs) (hl : xs.length < n) (x : Nat) : ZRow (w.setCell ⟨a, xs.length, none⟩ (.int .u8 (x : Int))) a n (xs ++ [x]) := by
  refine ⟨by simp; omega, ?_⟩
  have h1 := h.2.set xs.length (.int .u8 (x : Int))
  have e : (fun i => Value.int .u8 (((xs ++ [x])[i]! : Nat) : Int)) = (fun i => if i = xs.length then Value.int .u8 (x : Int) else .int .u8 ((xs[i]! : Nat) : Int)) := by
    funext i
    rw [snoc_any]
    split <;> rfl
  rw [e]
  exact h1

/-- a writer of a block -/
structure ZWr (w : World) (b a : Nat) (xs : List Nat) : Prop where
  cur : Cur w b (some ⟨a, 0, none⟩) 64 64 xs.length
  ne : a ≠ b
  row : ZRow w a 64 xs
theorem ZWr.kept {p : Nat → Prop} {w w' : World} {b a : Nat} {xs : List Nat} (h : ZWr w b a xs) (k : Kept p w w') (hb : ¬ p b) (ha : ¬ p a) : ZWr w' b a xs := ⟨h.cur.kept k hb, h.ne, h.row.kept k ha⟩
theorem ZWr.grow {w w' : World} {b a : Nat} {xs : List Nat} (h : ZWr w b a xs) (k : Below w.heap.size w w') : ZWr w' b a xs := h.kept (Kept.of_below k (fun _ => False)) (fun e => e) (fun e => e)

set_option maxRecDepth 100000 in
theorem zWriteByte (b a : Nat) (xs : List Nat) (x : Nat) (z : Int) (w : World) (hW : ZWr w b a xs) (hz : z = (x : Int)) (hl : xs.length + 1 ≤ 64) :
    Calls Try.prog 139 #[.pointer (some ⟨b, 0, none⟩), .int .u8 z] w fun e w' => e = .returned (.tuple #[]) ∧ ZWr w' b a (xs ++ [x]) ∧ Kept (fun k => k = b ∨ k = a) w w' := by
  subst hz
  go_enter Try.func139, Try.ntmps139
  go_wp2_with (go_at_call 158; refine (next_fits b _ 64 64 xs.length 1 _ hW.cur (by omega) (by decide) hl).mono ?_; rintro e w1 ⟨p, c, rfl, hp, hC, hK⟩; obtain rfl := hp (by omega) _ _ rfl; have hB := hW.row.kept hK hW.ne; obtain ⟨v, hv⟩ := hB.brow.any (i := xs.length) (by omega); have hfz := hB.brow.frozen xs.length)
  go_end0
  have hB2 := hB.push (by omega) x
  exact ⟨rfl, ⟨by rw [List.length_append]; exact hC.setOther (fun e => hW.ne e.symm) _, hW.ne, hB2⟩, (hK.mono (q := fun k => k = b ∨ k = a) (fun _ _ h => Or.inl h)).set (fun _ => Or.inr rfl) _⟩

set_option maxRecDepth 100000 in
theorem zWriteWord (b a : Nat) (xs : List Nat) (n : Int) (w : World) (hW : ZWr w b a xs) (hl : xs.length + 8 ≤ 64) :
    Calls Try.prog 77 #[.pointer (some ⟨b, 0, none⟩), .int .i64 n] w fun e w' => e = .returned (.tuple #[]) ∧ ZWr w' b a (xs ++ lowB 8 (u64n n)) ∧ Kept (fun k => k = b ∨ k = a) w w' := by
  go_enter Try.func77, Try.ntmps77
  go_wp2
  go_loopw [5] (fun i ws => ∃ (k : Nat), i = .int .i64 k ∧ k ≤ 8 ∧ ZWr ws b a (xs ++ lowB k (u64n n)) ∧ Kept (fun k => k = b ∨ k = a) w ws) (fun i _ => 8 - (intOf i).toNat)
  case atStart => exact ⟨0, rfl, by omega, by rw [lowB, List.append_nil]; exact hW, Kept.refl _ _⟩
  case round =>
    obtain ⟨k, rfl, hk, hWm, hK⟩ := hrel
    by_cases hlt : k < 8
    · have hd : (k : Int) < 8 := by omega
      go_wp2_with (go_at_call 139; refine (zWriteByte b a _ (u64n n / 256 ^ k % 256) _ _ hWm (word_byte n k hlt) (by simp [lowB_length]; omega)).mono ?_; rintro e w1 ⟨rfl, hW1, hK1⟩)
      go_roundw
      case rel => exact ⟨k + 1, by go_num, by omega, by rw [lowB_snoc, ← List.append_assoc]; exact hW1, hK.trans hK1 (fun _ _ h => h)⟩
      case measure => simp [intOf]; omega
    · obtain rfl : k = 8 := by omega
      go_wp2
      go_end0
      exact ⟨rfl, hWm, hK⟩

set_option maxRecDepth 100000 in
theorem ZRow.text {w : World} {a n : Nat} {cur : Array Value} (hc : w.heap[a]? = some (.cells cur 5 (0, 0))) (h : ZRow w a n []) (s : ByteArray) (hl : s.size ≤ n) :
    ZRow (w.setRow a (Lib.byteCells s.data.toList ++ cur.toList.drop s.size).toArray) a n (bsOf s) := by
  obtain ⟨_, c, hc', hs, hx⟩ := h
  rw [hc] at hc'
  obtain rfl : cur = c := by simpa using hc'
  have e2 : (Lib.byteCells s.data.toList).length = s.size := by rw [Lib.byteCells_length, ← Lib.size_eq]
  refine ⟨by rw [bsOf_length]; exact hl, _, setRow_heap _ _ _ _ _ _ hc, ?_, fun i hi => ?_⟩
  · simp only [List.size_toArray, List.length_append, e2, List.length_drop, Array.length_toList]; omega
  · rw [List.getElem?_toArray]
    by_cases h : i < s.size
    · rw [List.getElem?_append_left (by omega)]
      exact bsOf_get h
    · rw [List.getElem?_append_right (by omega), e2, List.getElem?_drop, Array.getElem?_toList, show s.size + (i - s.size) = i by omega, hx i hi]
      show some (Value.int .u8 ((([] : List Nat)[i]! : Nat) : Int)) = some (Value.int .u8 (((bsOf s)[i]! : Nat) : Int))
      rw [getElem!_neg (bsOf s) i (by rw [bsOf_length]; exact h), getElem!_neg ([] : List Nat) i (by simp)]

set_option maxRecDepth 100000 in
theorem zWriteText (b a : Nat) (s : ByteArray) (w : World) (hW : ZWr w b a []) (hs : s.size ≤ 64) (h0 : 0 < s.size) :
    Calls Try.prog 118 #[.pointer (some ⟨b, 0, none⟩), .string s] w fun e w' => e = .returned (.tuple #[]) ∧ ZWr w' b a (bsOf s) ∧ Kept (fun k => k = b ∨ k = a) w w' := by
  have hbl := bsOf_length s
  go_enter Try.func118, Try.ntmps118
  go_wp2_with (go_at_call 158; refine (next_fits b _ 64 64 0 s.size _ hW.cur (by omega) (by decide) (by omega)).mono ?_; rintro e w1 ⟨p, c, rfl, hp, hC, hK⟩; obtain rfl := hp (by omega) _ _ rfl; have hB := hW.row.kept hK hW.ne; obtain ⟨cur, hcur, hcs, _⟩ := hB.brow; have hcp := Lib.run_copy_row_string (P := Try.prog) w1 28 9 3 5 a 0 s.size c s cur 5 Try.underlying28 size_byte hcur (Nat.le_refl _) (by omega))
  go_end0
  have hB2 := hB.text hcur s hs
  have hKs : Kept (fun k => k = a) w1 (w1.setRow a (Lib.byteCells s.data.toList ++ cur.toList.drop s.size).toArray) := ⟨rfl, rfl, rfl, by simp, fun k _ hn => setRow_other _ _ _ _ hn⟩
  have e0 : (0 : Nat) + s.size = s.size := by omega
  rw [e0] at hC
  refine ⟨rfl, ?_, ?_⟩
  · try simp only [List.take_zero, List.nil_append, Nat.zero_add]
    exact ⟨by rw [hbl]; exact hC.kept hKs (fun e => hW.ne e.symm), hW.ne, hB2⟩
  · try simp only [List.take_zero, List.nil_append, Nat.zero_add]
    exact (hK.mono (q := fun k => k = b ∨ k = a) (fun _ _ h => Or.inl h)).trans hKs (fun _ _ h => Or.inr h)

end Go.Proofs.Ythjddpkegooobab

/-
  IHEAD: the program's HeadBlock. Own work.
-/
namespace Go.Proofs.Ythjddpkegooobab
open Go.RowKit

def headBB (ok : Bool) (gen len sum : Int) : List Nat := if headOkB ok gen len = true then headB gen len sum else []
theorem headBB_len (ok : Bool) (gen len sum : Int) : (headBB ok gen len sum).length ≤ 64 := by
  unfold headBB
  split
  · rw [headB_length]; omega
  · exact Nat.zero_le _

/-- bytes that are handed back, zero or more, at the head of memory of their own -/
def HPost (ys : List Nat) (w : World) (e : Ending) (w' : World) : Prop := ∃ oa c, e = .returned (.slice oa ys.length c) ∧ MB w' w.heap.size oa ys ∧ Below w.heap.size w w'

set_option maxRecDepth 100000 in
theorem zwr_new (w : World) (M : Array Value) (hM : M = madeCells #[Value.int .u8 0] 64) : ZWr ((w.alloc (.cells M 5)).alloc (.cells #[.slice (some ⟨w.heap.size, 0, none⟩) 64 64, .int .i64 0] 100)) (w.heap.size + 1) w.heap.size [] := by
  subst hM
  have h1 := rowIs_made_any w #[Value.int .u8 0] 64 5
  have e : (fun i => (#[Value.int .u8 0])[i % (#[Value.int .u8 0]).size]!) = (fun i : Nat => Value.int .u8 ((([] : List Nat)[i]! : Nat) : Int)) := by
    funext i
    have : i % (#[Value.int .u8 0]).size = 0 := by simp [Nat.mod_one]
    rw [this, getElem!_neg ([] : List Nat) i (by simp)]
    rfl
  rw [e] at h1
  refine ⟨⟨by simp, by simp, by simp, fun o => by simp⟩, by omega, ⟨by simp, ?_⟩⟩
  obtain ⟨c, hc, r⟩ := h1
  exact ⟨c, by rw [Below.heap_alloc _ _ _ (by simp)]; exact hc, r⟩

theorem app_zero (zs : List Nat) (n i : Nat) : (zs ++ List.replicate n 0)[i]! = zs[i]! := by
  by_cases h : i < zs.length
  · rw [getElem!_pos _ i (by simp; omega), getElem!_pos zs i h, List.getElem_append_left h]
  · rw [getElem!_neg zs i h]
    by_cases h2 : i < (zs ++ List.replicate n 0).length
    · rw [getElem!_pos _ i h2, List.getElem_append_right (by omega)]
      simp
    · rw [getElem!_neg _ i h2]
theorem ZRow.full {w : World} {a : Nat} {zs : List Nat} (h : ZRow w a 64 zs) {n : Nat} (hn : zs.length + n = 64) : BRow w a 64 (zs ++ List.replicate n 0) :=
  BRow.of_row h.2 (by simp; omega) (fun i _ => by rw [app_zero])
theorem headN_byte (gen len sum : Int) : ∀ x, x ∈ headN gen len sum → x < 256 := fun x hx => by
  unfold headN at hx
  rcases List.mem_append.1 hx with hx | hx
  · rcases List.mem_append.1 hx with hx | hx
    · rcases List.mem_append.1 hx with hx | hx
      · simp at hx; omega
      · exact lowB_byte _ _ _ hx
    · exact lowB_byte _ _ _ hx
  · exact lowB_byte _ _ _ hx
theorem u64n_wrapH {n : Nat} (h : n < 18446744073709551616) : u64n (wrap64 (n : Int)) = n := by unfold u64n wrap64; omega
theorem bsOf_head : bsOf ⟨#[72, 69, 65, 68]⟩ = [72, 69, 65, 68] := by decide

set_option maxHeartbeats 1000000 in
set_option maxRecDepth 100000 in
theorem implHeadBlock_any (ok : Bool) (gen len sum : Int) (w : World) :
    Calls Try.prog 55 #[headV ok gen len sum] w (HPost (headBB ok gen len sum) w) := by
  by_cases hk : headOkB ok gen len = true
  · have hz : Hid (headBB ok gen len sum = headB gen len sum) := if_pos hk
    obtain ⟨rfl, g1, g2, g3, g4⟩ : ok = true ∧ ¬ gen < 1 ∧ ¬ (1000000000000 < gen) ∧ ¬ len < 1 ∧ ¬ (4096 < len) := by
      unfold headOkB at hk
      simp at hk
      exact ⟨hk.1.1.1.1, by omega, by omega, by omega, by omega⟩
    have hH0 := HBox.new w true gen len sum 74
    have hA := gal (gre w) (.cells #[.bool true, .int .i64 gen, .int .i64 len, .int .i64 sum] 74)
    obtain ⟨i0, hi, hz0, hz1, hz2⟩ := info_parts info_u8
    obtain ⟨M, hM⟩ := hid_ex (madeCells #[Value.int .u8 0] 64)
    have hmk : ∀ u : World, (Instr.makeSlice 28 (.int .i64 64) (.int .i64 64)).run Try.prog u = .ok (.slice (some ⟨u.heap.size, 0, none⟩) 64 64) (u.alloc (.cells M 5)) := fun u => by
      have h := run_make (P := Try.prog) u 28 5 i0 _ Try.underlying28 hi hz0 .i64 .i64 64 64 (by omega) (Int.le_refl _) (by rw [hz2]; omega) (by omega)
      rw [hM.out]
      simpa [hz1, Value.cells] using h
    have hgw : wrap64 gen = gen := by unfold wrap64; omega
    have hlw : wrap64 len = len := by unfold wrap64; omega
    have hlow : ∀ n, (lowB 8 n).length = 8 := lowB_length 8
    go_enter Try.func55, Try.ntmps55
    have hW0 := zwr_new (w.alloc (.cells #[.bool true, .int .i64 gen, .int .i64 len, .int .i64 sum] 74)) M hM.out
    have hH1 := (hH0.kept (Kept.of_below (gal (gal (gre _) (.cells M 5)) (.cells #[.slice (some ⟨(w.alloc (.cells #[.bool true, .int .i64 gen, .int .i64 len, .int .i64 sum] 74)).heap.size, 0, none⟩) 64 64, .int .i64 0] 100)) (fun _ => False)) (fun e => e))
    have hA3 := gal (gal hA (.cells M 5)) (.cells #[.slice (some ⟨(w.alloc (.cells #[.bool true, .int .i64 gen, .int .i64 len, .int .i64 sum] 74)).heap.size, 0, none⟩) 64 64, .int .i64 0] 100)
    simp only [World.size_alloc] at hW0 hH1 hA3
    go_upto_region 99 with (first
      | (go_at_call 118; refine (zWriteText _ _ _ _ hW0 (by decide) (by decide)).mono ?_; rintro e w1 ⟨rfl, hW1, hK1⟩; rw [bsOf_head] at hW1; have hH2 := hH1.kept hK1 (by omega); obtain ⟨_, _, b1, b2, b3⟩ := id hH2)
      | (go_at_call 77; refine (zWriteWord _ _ z5 _ _ hW6 (by have := hl4.out; omega)).mono ?_; rintro e w7 ⟨rfl, hW7, hK7⟩; have c7 := hW7.cur.c0)
      | (go_at_call 78; refine (implSumOf_any _ z5 64 _ (brow_bytes hW5.row.brow) (by have := hl4.out; unfold maxLen; omega) hb5).mono ?_; rintro e w6 ⟨rfl, hb6'⟩; have hW6 := hW5.grow hb6')
      | (go_at_call 79; refine (passed_any _ _ 64 64 z5.length _ hW4.cur (by omega) (by decide) (by have := hl4.out; omega)).mono ?_; rintro e w5 ⟨rfl, hb5'⟩; have hW5 := hW4.grow hb5')
      | (go_at_call 77; refine (zWriteWord _ _ z3 sum _ hW3 (by have := hl3.out; omega)).mono ?_; rintro e w4 ⟨rfl, hW4, hK4⟩; obtain ⟨z5, hz5⟩ := hid_ex (z3 ++ lowB 8 (u64n sum)); rw [← hz5.out] at hW4; have hl4 : Hid (z5.length = 28) := (by show _ = _; rw [hz5.out, List.length_append, hl3.out, hlow]); have hzn : Hid (z5 = headN gen len sum) := (by show _ = _; rw [hz5.out, hz3.out, hz2.out]; rfl); have hb5 : ∀ x, x ∈ z5 → x < 256 := (by rw [hzn.out]; exact headN_byte gen len sum))
      | (go_at_call 77; refine (zWriteWord _ _ z2 len _ hW2 (by have := hl2.out; omega)).mono ?_; rintro e w3 ⟨rfl, hW3, hK3⟩; obtain ⟨z3, hz3⟩ := hid_ex (z2 ++ lowB 8 (u64n len)); rw [← hz3.out] at hW3; have hl3 : Hid (z3.length = 20) := (by show _ = _; rw [hz3.out, List.length_append, hl2.out, hlow]); have hH4 := hH3.kept hK3 (by omega); obtain ⟨_, _, e1, e2, e3⟩ := id hH4)
      | (go_at_call 77; refine (zWriteWord _ _ _ gen _ hW1 (by simp)).mono ?_; rintro e w2 ⟨rfl, hW2, hK2⟩; obtain ⟨z2, hz2⟩ := hid_ex ([72, 69, 65, 68] ++ lowB 8 (u64n gen)); rw [← hz2.out] at hW2; have hl2 : Hid (z2.length = 12) := (by show _ = _; rw [hz2.out, List.length_append, hlow]; rfl); have hH3 := hH2.kept hK2 (by omega); obtain ⟨_, _, d1, d2, d3⟩ := id hH3))
    go_ret
    have hB1 := hA3.trans (hK1.below (B := w.heap.size) hA3.size (fun k hk e => by omega))
    have hB2 := hB1.trans (hK2.below (B := w.heap.size) hB1.size (fun k hk e => by omega))
    have hB3 := hB2.trans (hK3.below (B := w.heap.size) hB2.size (fun k hk e => by omega))
    have hB4 := hB3.trans (hK4.below (B := w.heap.size) hB3.size (fun k hk e => by omega))
    have hB6 := gca (gca hB4 hb5') hb6'
    have hB7 := hB6.trans (hK7.below (B := w.heap.size) hB6.size (fun k hk e => by omega))
    refine ⟨some ⟨w.heap.size + 1, 0, none⟩, 64, by rw [hz.out, headB_length]; rfl, Or.inr ⟨w.heap.size + 1, 64, rfl, by omega, ?_⟩, hB7⟩
    have hr := hW7.row.full (n := 28) (by rw [List.length_append, hlow, hl4.out])
    rw [u64n_wrapH (sumN_lt z5), hzn.out] at hr
    rw [hz.out]
    exact hr
  · have hz : headBB ok gen len sum = [] := if_neg hk
    rw [hz]
    have hA := gal (gre w) (.cells #[.bool ok, .int .i64 gen, .int .i64 len, .int .i64 sum] 74)
    have hc : ok = false ∨ (ok = true ∧ gen < 1) ∨ (ok = true ∧ ¬ gen < 1 ∧ 1000000000000 < gen) ∨ (ok = true ∧ ¬ gen < 1 ∧ ¬ (1000000000000 < gen) ∧ len < 1) ∨ (ok = true ∧ ¬ gen < 1 ∧ ¬ (1000000000000 < gen) ∧ ¬ len < 1 ∧ 4096 < len) := by
      unfold headOkB at hk
      cases ok
      · exact Or.inl rfl
      · simp at hk
        by_cases h1 : gen < 1
        · exact Or.inr (Or.inl ⟨rfl, h1⟩)
        · by_cases h2 : 1000000000000 < gen
          · exact Or.inr (Or.inr (Or.inl ⟨rfl, h1, h2⟩))
          · by_cases h3 : len < 1
            · exact Or.inr (Or.inr (Or.inr (Or.inl ⟨rfl, h1, h2, h3⟩)))
            · exact Or.inr (Or.inr (Or.inr (Or.inr ⟨rfl, h1, h2, h3, by have := hk (by omega) (by omega) (by omega); omega⟩)))
    clear hk hz
    rcases hc with rfl | ⟨rfl, g1⟩ | ⟨rfl, g1, g2⟩ | ⟨rfl, g1, g2, g3⟩ | ⟨rfl, g1, g2, g3, g4⟩
    all_goals
      go_enter Try.func55, Try.ntmps55
      go_wp2
      go_ret
      exact ⟨none, 0, rfl, Or.inl rfl, hA⟩

theorem MB.atH {w : World} {lo : Nat} {oa : Option Addr} {ys : List Nat} (h : MB w lo oa ys) : BytesAt w oa ys := by
  rcases h with rfl | ⟨G, n, rfl, _, hB⟩
  · exact fun i hi => absurd hi (Nat.not_lt_zero _)
  · exact brow_bytes hB

end Go.Proofs.Ythjddpkegooobab

/-
  RD: the program's reader. Own work.
-/
namespace Go.Proofs.Ythjddpkegooobab
open Go.RowKit

/-- bytes at a place, below a bound -/
def BytesLow (B : Nat) (w : World) (a : Option Addr) (bs : List Nat) : Prop := ∀ i, i < bs.length → ∃ b off, a = some ⟨b, off, none⟩ ∧ b < B ∧ w.cell? ⟨b, off + i, none⟩ = some (.int .u8 ((bs[i]! : Nat) : Int))
set_option maxRecDepth 100000 in
theorem BytesLow.below {B : Nat} {w w' : World} {a : Option Addr} {bs : List Nat} (h : BytesLow B w a bs) (hb : Below B w w') : BytesLow B w' a bs := fun i hi => by
  obtain ⟨b, off, ha, hB, hc⟩ := h i hi
  exact ⟨b, off, ha, hB, (World.cell?_of_block (w := w) (hb.block b hB)).trans hc⟩
set_option maxRecDepth 100000 in
theorem BytesLow.at_ {B : Nat} {w : World} {a : Option Addr} {bs : List Nat} (h : BytesLow B w a bs) : BytesAt w a bs := fun i hi => by
  obtain ⟨b, off, ha, _, hc⟩ := h i hi
  exact ⟨b, off, ha, hc⟩
set_option maxRecDepth 100000 in
theorem BytesAt.low {w : World} {a : Option Addr} {bs : List Nat} (h : BytesAt w a bs) : BytesLow w.heap.size w a bs := fun i hi => by
  obtain ⟨b, off, ha, hc⟩ := h i hi
  exact ⟨b, off, ha, World.block_lt_of_cell? _ _ hc, hc⟩

/-- a reader that has so much left -/
structure Rd (w : World) (b : Nat) (sa : Option Addr) (cap : Nat) (bs r : List Nat) : Prop where
  ex : ∃ at_, Cur w b sa bs.length cap at_ ∧ at_ ≤ bs.length ∧ r = bs.drop at_
  low : BytesLow b w sa bs
  cap : bs.length ≤ cap
  len : bs.length ≤ 1099511627776
  byte : ∀ x, x ∈ bs → x < 256

set_option maxRecDepth 100000 in
theorem Rd.lt {w : World} {b : Nat} {sa : Option Addr} {cap : Nat} {bs r : List Nat} (h : Rd w b sa cap bs r) : b < w.heap.size := by obtain ⟨_, hc, _⟩ := h.ex; exact hc.lt
set_option maxRecDepth 100000 in
theorem Rd.kept {p : Nat → Prop} {w w' : World} {b : Nat} {sa : Option Addr} {cap : Nat} {bs r : List Nat} (h : Rd w b sa cap bs r) (k : Kept p w w') (hp : ∀ k, k ≤ b → ¬ p k) : Rd w' b sa cap bs r := by
  obtain ⟨at_, hc, ha, hr⟩ := h.ex
  exact ⟨⟨at_, hc.kept k (hp b (Nat.le_refl _)), ha, hr⟩, h.low.below (k.below (by have := hc.lt; omega) (fun k hk => hp k (by omega))), h.cap, h.len, h.byte⟩
set_option maxRecDepth 100000 in
theorem Rd.grow {w w' : World} {b : Nat} {sa : Option Addr} {cap : Nat} {bs r : List Nat} (h : Rd w b sa cap bs r) (k : Below w.heap.size w w') : Rd w' b sa cap bs r := h.kept (Kept.of_below k (fun _ => False)) (fun _ _ e => e)

/-- what a reader's call leaves -/
def RPost {α : Type} (f : Option (α × List Nat)) (enc : α → Value) (b : Nat) (sa : Option Addr) (cap : Nat) (bs : List Nat) (w : World) (e : Ending) (w' : World) : Prop :=
  Kept (fun k => k = b) w w' ∧ ((∃ x r', Hid (f = some (x, r')) ∧ e = .returned (enc x) ∧ Rd w' b sa cap bs r') ∨ (Hid (f = none) ∧ e = .panicked [haltP]))

def rdByte : List Nat → Option (Nat × List Nat)
  | [] => none
  | x :: r => some (x, r)

theorem hidx {α : Type} (x : α) : ∃ y, Hid (y = x) := ⟨x, rfl⟩
set_option maxRecDepth 100000 in
theorem drop_cons {bs : List Nat} {k : Nat} (h : k < bs.length) : bs.drop k = bs[k]! :: bs.drop (k + 1) := by
  rw [List.drop_eq_getElem_cons h, getElem!_pos bs k h]

set_option maxRecDepth 100000 in
theorem readByte_any (b : Nat) (sa : Option Addr) (cap : Nat) (bs r : List Nat) (w : World) (hR : Rd w b sa cap bs r) :
    Calls Try.prog 174 #[.pointer (some ⟨b, 0, none⟩)] w (RPost (rdByte r) (fun x => .int .u8 (x : Int)) b sa cap bs w) := by
  obtain ⟨⟨k, hC, hk, hr⟩, hlow, hcap, hlen, hbyte⟩ := hR
  by_cases hlt : k < bs.length
  · obtain ⟨x, hx⟩ := hidx bs[k]!
    have e1 : Hid (rdByte r = some (x, bs.drop (k + 1))) := by show _ = _; rw [hr, drop_cons hlt, hx.out]; rfl
    obtain ⟨ba, off, rfl, hba, hcell⟩ := hlow k hlt
    rw [← hx.out] at hcell
    go_enter Try.func174, Try.ntmps174
    go_wp2_with (go_at_call 158; refine (next_fits b _ bs.length cap k 1 _ hC hcap (by unfold maxLen; omega) (by omega)).mono ?_; rintro e w1 ⟨p, c, rfl, hp, hC1, hK1⟩; obtain rfl := hp (by omega) _ _ rfl; have hcell1 := hK1.cell hcell (by omega))
    go_ret
    exact ⟨hK1, Or.inl ⟨_, _, e1, rfl, ⟨⟨k + 1, hC1, by omega, rfl⟩, hlow.below (hK1.below (by have := hC.lt; omega) (fun k hk e => by omega)), hcap, hlen, hbyte⟩⟩⟩
  · have e1 : Hid (rdByte r = none) := by show _ = _; rw [hr, List.drop_of_length_le (by omega)]; rfl
    go_enter Try.func174, Try.ntmps174
    go_wp2_with (go_at_call 158; refine (next_not b _ bs.length cap k 1 _ hC (by unfold maxLen; omega) hk (by omega)).mono ?_; rintro e w1 ⟨rfl, hb⟩)
    exact ⟨rfl, Kept.of_below hb _, Or.inr ⟨e1, rfl⟩⟩

set_option maxRecDepth 100000 in
theorem conv_text {w : World} {a : Option Addr} {n c : Nat} {ys : List Nat} (h : BytesAt w a ys) (hn : ys.length = n) : (convert 28 9 (.slice a n c)).run Try.prog w = .ok (.string (strB ys)) w := by
  by_cases h0 : n = 0
  · subst h0
    have : ys = [] := List.eq_nil_of_length_eq_zero hn
    subst this
    cases a with
    | none =>
      rw [run_convert_bytes_nil w 28 5 Try.underlying28 Try.underlying5 0 c 9 Try.underlying9]
      rfl
    | some p =>
      obtain ⟨b, off, sp⟩ := p
      rw [run_convert_bytes_string w 28 9 5 _ 0 c Try.underlying28 Try.underlying5 Try.underlying9]
      have hl : (loadCells ⟨b, off, sp⟩ 0).run Try.prog w = .ok ((([] : List Int).map (Value.int .u8)).toArray) w := by simp [loadCells, loadCellsFrom]
      rw [run_bytesToString w _ 0 c [] hl]
      rfl
  · obtain ⟨b, off, rfl, _⟩ := h 0 (by omega)
    refine run_convert_bytes_arg w 28 5 Try.underlying28 Try.underlying5 b off n c (ys.map fun (x : Nat) => (x : Int)) (by rw [List.length_map]; exact hn) (fun i hi => ?_) 9 Try.underlying9
    obtain ⟨b', off', e, hc⟩ := h i (by omega)
    have e2 : b' = b ∧ off' = off := by simpa using e.symm
    obtain ⟨rfl, rfl⟩ := e2
    rw [hc, getElem!_pos ys i (by omega)]
    simp [List.getD, show i < ys.length by omega]

theorem take_bytes {w : World} {b : Nat} {sa p : Option Addr} {bs : List Nat} {k n : Nat} (hlow : BytesLow b w sa bs) (hkn : k + n ≤ bs.length) (hp : 0 < n → ∀ g off, sa = some ⟨g, off, none⟩ → p = some ⟨g, off + k, none⟩) : BytesAt w p ((bs.drop k).take n) := fun i hi => by
  rw [List.length_take, List.length_drop] at hi
  obtain ⟨ba, off, e, hba, hcell⟩ := hlow (k + i) (by omega)
  refine ⟨ba, off + k, hp (by omega) _ _ e, ?_⟩
  rw [Nat.add_assoc, hcell, getElem!_pos _ i (by rw [List.length_take, List.length_drop]; omega), getElem!_pos bs (k + i) (by omega)]
  simp

theorem Rd.head {w : World} {b : Nat} {sa : Option Addr} {cap : Nat} {bs q r' : List Nat} {x : Nat} (h : Rd w b sa cap bs q) (hx : rdByte q = some (x, r')) : x < 256 ∧ q = x :: r' := by
  cases q with
  | nil => cases hx
  | cons y t =>
    have e : y = x ∧ t = r' := by simpa [rdByte] using hx
    obtain ⟨rfl, rfl⟩ := e
    obtain ⟨k, _, _, hr⟩ := h.ex
    refine ⟨h.byte y ?_, rfl⟩
    have h1 : y ∈ bs.drop k := by rw [← hr]; exact List.mem_cons_self ..
    exact List.mem_of_mem_drop h1
theorem or_form {n x s : Nat} (hn : n < 18446744073709551616) (hx : x < 256) : bits .or .u64 (n : Int) (IntKind.u64.wrap (IntKind.u64.wrap (bits .andNot .u8 (x : Int) 128) * 2 ^ min s 64)) = ((orU n (x % 128) s : Nat) : Int) := by
  have e1 : bits .andNot .u8 (x : Int) 128 = ((x % 128 : Nat) : Int) := by
    rw [u8_andNot _ _ (by omega) (by omega) (by omega) (by omega)]
    have h1 : (255 - (128 : Int).toNat) = 127 := rfl
    rw [h1, Int.toNat_natCast, nat_mask7]
  have e2 : IntKind.u64.wrap ((x % 128 : Nat) : Int) = ((x % 128 : Nat) : Int) := by rw [IntKind.wrap_u64]; omega
  have e3 : (((x % 128 : Nat) : Int) * 2 ^ min s 64) = ((x % 128 * 2 ^ min s 64 : Nat) : Int) := by push_cast; rfl
  have e4 : IntKind.u64.wrap ((x % 128 * 2 ^ min s 64 : Nat) : Int) = ((x % 128 * 2 ^ min s 64 % 18446744073709551616 : Nat) : Int) := by rw [IntKind.wrap_u64]; generalize x % 128 * 2 ^ min s 64 = y; omega
  rw [e1, e2, e3, e4, u64_or_nat n _ hn (Nat.mod_lt _ (by omega))]
  rfl
theorem orU_lt {n x s : Nat} (hn : n < 18446744073709551616) : orU n x s < 18446744073709551616 := by
  unfold orU
  exact Nat.or_lt_two_pow (n := 64) hn (Nat.mod_lt _ (by omega))

end Go.Proofs.Ythjddpkegooobab

/-
  RD2: the program's reader: words, values. Own work.
-/
namespace Go.Proofs.Ythjddpkegooobab
open Go.RowKit

theorem wrap64_eq (n : Int) : wrap64 n = IntKind.i64.wrap n := by rw [IntKind.wrap_i64]; unfold wrap64; omega
theorem orI_form {n : Int} {x i : Nat} (hx : x < 256) : bits .or .i64 n (wrap64 (wrap64 (x : Int) * 2 ^ (8 * i))) = orI n x i := by
  have e1 : wrap64 (x : Int) = (x : Int) := by unfold wrap64; omega
  rw [e1, wrap64_eq]; rfl

set_option maxRecDepth 100000 in
theorem readWord_any (b : Nat) (sa : Option Addr) (cap : Nat) (bs r : List Nat) (w : World) (hR : Rd w b sa cap bs r) :
    Calls Try.prog 157 #[.pointer (some ⟨b, 0, none⟩)] w (RPost (rdLow 8 0 0 r) (fun x => .int .i64 x) b sa cap bs w) := by
  go_enter Try.func157, Try.ntmps157
  go_wp2
  go_loopw [3, 5] (fun a c ws => ∃ (n : Int) (i : Nat) (q : List Nat), a = .int .i64 n ∧ c = .int .i64 i ∧ i ≤ 8 ∧ Hid (rdLow 8 0 0 r = rdLow (8 - i) i n q) ∧ Rd ws b sa cap bs q ∧ Kept (fun k => k = b) w ws) (fun _ c _ => 8 - (intOf c).toNat)
  case atStart => exact ⟨0, 0, r, rfl, rfl, by omega, rfl, hR, Kept.refl _ _⟩
  case round =>
    obtain ⟨n, i, q, rfl, rfl, hi, hq, hRq, hK⟩ := hrel
    by_cases hlt : i < 8
    · have hd : (i : Int) < 8 := by omega
      go_wp2_with (go_at_call 174; refine (readByte_any b sa cap bs q _ hRq).mono ?_; rintro e w1 ⟨hK1, ⟨x, r', hx, rfl, hR1⟩ | ⟨hno, rfl⟩⟩)
      · obtain ⟨hx256, hqx⟩ := hRq.head hx.out
        have e5 : Hid (rdLow 8 0 0 r = rdLow (8 - (i + 1)) (i + 1) (orI n x i) r') := by
          show _ = _
          rw [hq.out, hqx, show 8 - i = (8 - (i + 1)) + 1 by omega, rdLow]
        refine ⟨⟨_, i + 1, r', congrArg (Value.int .i64) (orI_form hx256), by go_num, by omega, e5, hR1, hK.trans hK1 (fun _ _ h => h)⟩, ?_⟩
        simp [intOf]; omega
      · have e5 : Hid (rdLow 8 0 0 r = none) := by
          show _ = _
          rw [hq.out, show 8 - i = (8 - (i + 1)) + 1 by omega]
          cases q with
          | nil => rfl
          | cons y t => cases hno.out
        exact ⟨rfl, hK.trans hK1 (fun _ _ h => h), Or.inr ⟨e5, rfl⟩⟩
    · obtain rfl : i = 8 := by omega
      go_wp2
      go_ret
      exact ⟨hK, Or.inl ⟨n, q, hq, rfl, hRq⟩⟩

theorem xor_all (x : Nat) (h : x < 18446744073709551616) : x ^^^ 18446744073709551615 = 18446744073709551615 - x := by
  have h1 := congrArg BitVec.toNat (BitVec.xor_allOnes (x := BitVec.ofNat 64 x))
  rw [BitVec.toNat_xor, BitVec.toNat_not, BitVec.toNat_allOnes, BitVec.toNat_ofNat, Nat.mod_eq_of_lt h] at h1
  exact h1
theorem zag_form {n : Nat} (hn : n < 18446744073709551616) : bits .xor .i64 ((n : Int) / 2) (wrap64 (-wrap64 (bits .and .u64 (n : Int) 1))) = zag n := by
  have e1 : bits .and .u64 (n : Int) 1 = ((n % 2 : Nat) : Int) := by
    rw [u64_and _ _ (by omega) (by omega) (by omega) (by omega)]
    have h1 : (1 : Int).toNat = 1 := rfl
    rw [h1, Int.toNat_natCast, nat_mask1]
  have e2 : (n : Int) / 2 = IntKind.i64.wrap ((n / 2 : Nat) : Int) := by rw [IntKind.wrap_i64]; omega
  rw [e1]
  unfold zag
  split
  · rename_i h
    have e3 : wrap64 (-wrap64 ((n % 2 : Nat) : Int)) = IntKind.i64.wrap ((18446744073709551615 : Nat) : Int) := by rw [h, IntKind.wrap_i64]; unfold wrap64; omega
    rw [e2, e3]
    show IntKind.i64.wrap ((BitVec.ofInt 64 (IntKind.i64.wrap ((n / 2 : Nat) : Int)) ^^^ BitVec.ofInt 64 (IntKind.i64.wrap ((18446744073709551615 : Nat) : Int))).toNat : Nat) = _
    rw [BitVec.toNat_xor, ofInt_wrap _ (by omega), ofInt_wrap _ (by omega), xor_all _ (by omega), IntKind.wrap_i64]
    omega
  · rename_i h
    have e3 : wrap64 (-wrap64 ((n % 2 : Nat) : Int)) = IntKind.i64.wrap ((0 : Nat) : Int) := by rw [show n % 2 = 0 by omega, IntKind.wrap_i64]; unfold wrap64; omega
    rw [e2, e3]
    show IntKind.i64.wrap ((BitVec.ofInt 64 (IntKind.i64.wrap ((n / 2 : Nat) : Int)) ^^^ BitVec.ofInt 64 (IntKind.i64.wrap ((0 : Nat) : Int))).toNat : Nat) = _
    rw [BitVec.toNat_xor, ofInt_wrap _ (by omega), ofInt_wrap _ (by omega), Nat.xor_zero, IntKind.wrap_i64]
    omega

/-- what reading a value leaves -/
def RVPost (b : Nat) (sa : Option Addr) (cap : Nat) (bs r : List Nat) (w : World) (e : Ending) (w' : World) : Prop := RPost (rdVal r) GV.val b sa cap bs w e w'

set_option maxRecDepth 100000 in
theorem rdNum_lt : ∀ (n s : Nat) (r : List Nat) (x : Nat) (r' : List Nat), n < 18446744073709551616 → rdNum n s r = some (x, r') → x < 18446744073709551616
  | _, _, [], _, _, _, h => by cases h
  | n, s, b :: r, x, r', hn, h => by
    unfold rdNum at h
    split at h
    · have e := congrArg (fun o => o.map Prod.fst) h
      have e2 : orU n (b % 128) s = x := by simpa using e
      rw [← e2]; exact orU_lt hn
    · exact rdNum_lt _ _ r x r' (orU_lt hn) h

theorem kk {b : Nat} {w w' w'' : World} (h : Kept (fun k => k = b) w w') (k : Kept (fun k => k = b) w' w'') : Kept (fun k => k = b) w w'' := h.trans k (fun _ _ h => h)

theorem RPost.ok {α : Type} {x : α} {r' : List Nat} {enc : α → Value} {b : Nat} {sa : Option Addr} {cap : Nat} {bs : List Nat} {w : World} {e : Ending} {w' : World} (h : RPost (some (x, r')) enc b sa cap bs w e w') : e = .returned (enc x) ∧ Rd w' b sa cap bs r' ∧ Kept (fun k => k = b) w w' := by
  obtain ⟨hK, ⟨y, q, he, e1, hR⟩ | ⟨he, _⟩⟩ := h
  · have e2 : x = y ∧ r' = q := by simpa using he.out
    obtain ⟨rfl, rfl⟩ := e2
    exact ⟨e1, hR, hK⟩
  · cases he.out
theorem RPost.no {α : Type} {enc : α → Value} {b : Nat} {sa : Option Addr} {cap : Nat} {bs : List Nat} {w : World} {e : Ending} {w' : World} (h : RPost (none : Option (α × List Nat)) enc b sa cap bs w e w') : e = .panicked [haltP] ∧ Kept (fun k => k = b) w w' := by
  obtain ⟨hK, ⟨y, q, he, _⟩ | ⟨_, e1⟩⟩ := h
  · cases he.out
  · exact ⟨e1, hK⟩

theorem fin4 {w wX : World} {b : Nat} {sa : Option Addr} {cap : Nat} {bs r' : List Nat} (hb : b < w.heap.size) (hK : Kept (fun k => k = b) w wX) (hR : Rd wX b sa cap bs r') (u0 u1 u2 u3 : Value) :
    Kept (fun k => k = b) w ((((wX.setCell ⟨w.heap.size, 0, none⟩ u0).setCell ⟨w.heap.size, 1, none⟩ u1).setCell ⟨w.heap.size, 2, none⟩ u2).setCell ⟨w.heap.size, 3, none⟩ u3) ∧ Rd ((((wX.setCell ⟨w.heap.size, 0, none⟩ u0).setCell ⟨w.heap.size, 1, none⟩ u1).setCell ⟨w.heap.size, 2, none⟩ u2).setCell ⟨w.heap.size, 3, none⟩ u3) b sa cap bs r' :=
  ⟨(((hK.set (fun h => absurd h (Nat.lt_irrefl _)) _).set (fun h => absurd h (Nat.lt_irrefl _)) _).set (fun h => absurd h (Nat.lt_irrefl _)) _).set (fun h => absurd h (Nat.lt_irrefl _)) _,
    hR.kept (((((Kept.refl (fun k => k = w.heap.size) wX).set (fun _ => rfl) _).set (fun _ => rfl) _).set (fun _ => rfl) _).set (fun _ => rfl) _) (fun k hk e => by omega)⟩

theorem Four.set4 {w : World} {b : Nat} {u : GV} (h : Four w b u) (v : GV) : Four ((((w.setCell ⟨b, 0, none⟩ (.int .i64 v.kind)).setCell ⟨b, 1, none⟩ (.int .i64 v.num)).setCell ⟨b, 2, none⟩ (.string v.text)).setCell ⟨b, 3, none⟩ (.int .i64 v.node)) b v := by
  obtain ⟨hl, c0, c1, c2, c3, hf⟩ := h
  refine ⟨by simpa [World.setCell] using hl, ?_, ?_, ?_, ?_, fun o => ?_⟩
  · rw [World.cell?_setCell_other _ _ _ _ (by simp), World.cell?_setCell_other _ _ _ _ (by simp), World.cell?_setCell_other _ _ _ _ (by simp)]
    exact World.cell?_setCell_same _ _ _ c0
  · rw [World.cell?_setCell_other _ _ _ _ (by simp), World.cell?_setCell_other _ _ _ _ (by simp)]
    exact World.cell?_setCell_same (u := .int .i64 u.num) _ _ _ (by rw [World.cell?_setCell_other _ _ _ _ (by simp)]; exact c1)
  · rw [World.cell?_setCell_other _ _ _ _ (by simp)]
    exact World.cell?_setCell_same (u := .string u.text) _ _ _ (by rw [World.cell?_setCell_other _ _ _ _ (by simp), World.cell?_setCell_other _ _ _ _ (by simp)]; exact c2)
  · exact World.cell?_setCell_same (u := .int .i64 u.node) _ _ _ (by rw [World.cell?_setCell_other _ _ _ _ (by simp), World.cell?_setCell_other _ _ _ _ (by simp), World.cell?_setCell_other _ _ _ _ (by simp)]; exact c3)
  · rw [World.frozen?_setCell, World.frozen?_setCell, World.frozen?_setCell, World.frozen?_setCell]; exact hf o

theorem rdCount_le {most : Nat} {r : List Nat} {n : Nat} {q : List Nat} (h : rdCount most r = some (n, q)) : n ≤ most := by
  unfold rdCount at h
  split at h
  · split at h
    · rename_i hle
      have e := congrArg (fun o => o.map Prod.fst) h
      simp only [Option.map_some, Option.some.injEq] at e
      rw [← e]; exact hle
    · cases h
  · cases h

end Go.Proofs.Ythjddpkegooobab

/-
  WR3: the program's writer: values. Own work.
-/
namespace Go.Proofs.Ythjddpkegooobab
open Go.RowKit

set_option maxRecDepth 100000 in
theorem WPost.ok {b a : Nat} {xs ys : List Nat} {w wk : World} (hK : Kept (fun k => k = b ∨ k = a) w wk) (hW : Wr wk b a (xs ++ ys)) : WPost b a xs ys w (.returned (.tuple #[])) wk :=
  ⟨hK, Or.inl ⟨by have := hW.le; rwa [List.length_append] at this, rfl, hW⟩⟩
theorem WPost.no {b a : Nat} {xs ys : List Nat} {w wk : World} (hK : Kept (fun k => k = b ∨ k = a) w wk) (hno : 4096 < xs.length + ys.length) : WPost b a xs ys w (.panicked [haltP]) wk :=
  ⟨hK, Or.inr ⟨hno, rfl⟩⟩
set_option maxRecDepth 100000 in
theorem kt {p : Nat → Prop} {w w' w'' : World} (h : Kept p w w') (k : Kept p w' w'') : Kept p w w'' := h.trans k (fun _ _ h => h)

theorem writeVal_nil (b a : Nat) (xs : List Nat)  (w : World) (hW : Wr w b a xs)  :
    Calls Try.prog 136 #[.pointer (some ⟨b, 0, none⟩), (GV.mk 0 0 ⟨#[]⟩ 0).val] w (WPost b a xs (0 :: []) w) := by
  have hF := Four.new w ⟨0, 0, ⟨#[]⟩, 0⟩ 30
  have hlt := hW.cur.lt
  have hla := hW.row.lt
  go_enter Try.func136, Try.ntmps136
  go_wp2_with (go_at_call 139; refine (writeByte_any b a xs 0 _ _ (hW.grow (gal (gre _) _)) ?_).mono ?_; rfl; rintro e w1 ⟨hK1, h1⟩; obtain ⟨fz, f0, f1, f2, f3, ff⟩ := hF.kept hK1 (by omega); obtain ⟨hf, rfl, hW1⟩ | ⟨hno, rfl⟩ := h1)
  · go_end0
    exact WPost.ok (kt ((Kept.refl _ w).alloc _) hK1) hW1
  · exact ⟨rfl, WPost.no (kt ((Kept.refl _ w).alloc _) hK1) hno⟩

set_option maxRecDepth 100000 in
theorem writeVal_num (b a : Nat) (xs : List Nat) (num : Int) (w : World) (hW : Wr w b a xs) (hn : I64 num) :
    Calls Try.prog 136 #[.pointer (some ⟨b, 0, none⟩), (GV.mk 1 num ⟨#[]⟩ 0).val] w (WPost b a xs (1 :: numB (zig num)) w) := by
  have hF := Four.new w ⟨1, num, ⟨#[]⟩, 0⟩ 30
  have hlt := hW.cur.lt
  have hla := hW.row.lt
  go_enter Try.func136, Try.ntmps136
  go_wp2_with (first
    | (go_at_call 139; refine (writeByte_any b a xs 1 _ _ (hW.grow (gal (gre _) _)) ?_).mono ?_; rfl; rintro e w1 ⟨hK1, h1⟩; obtain ⟨fz, f0, f1, f2, f3, ff⟩ := hF.kept hK1 (by omega); obtain ⟨hf, rfl, hW1⟩ | ⟨hno, rfl⟩ := h1)
    | (go_at_call 167; refine (unsigned_any num _ hn).mono ?_; rintro e w2 ⟨rfl, hb2⟩)
    | (go_at_call 135; refine (writeNumber_any b a (xs ++ [1]) (zig num) _ _ (hW1.grow hb2) rfl (zig_lt hn)).mono ?_; rintro e w3 ⟨hK3, ⟨hf3, rfl, hW3⟩ | ⟨hno3, rfl⟩⟩))
  · go_end0
    exact WPost.ok (kt (kt (kt ((Kept.refl _ w).alloc _) hK1) (Kept.of_below hb2 _)) hK3) (by rw [List.append_assoc] at hW3; exact hW3)
  · exact ⟨rfl, WPost.no (kt (kt (kt ((Kept.refl _ w).alloc _) hK1) (Kept.of_below hb2 _)) hK3) (by simp at hno3 ⊢; omega)⟩
  · exact ⟨rfl, WPost.no (kt ((Kept.refl _ w).alloc _) hK1) (by simp at hno ⊢; omega)⟩

set_option maxRecDepth 100000 in
theorem writeVal_bits (b a : Nat) (xs : List Nat) (num : Int) (w : World) (hW : Wr w b a xs) (hn : I64 num) :
    Calls Try.prog 136 #[.pointer (some ⟨b, 0, none⟩), (GV.mk 2 num ⟨#[]⟩ 0).val] w (WPost b a xs (2 :: lowB 8 (u64n num)) w) := by
  have hF := Four.new w ⟨2, num, ⟨#[]⟩, 0⟩ 30
  have hlt := hW.cur.lt
  have hla := hW.row.lt
  go_enter Try.func136, Try.ntmps136
  go_wp2_with (first
    | (go_at_call 139; refine (writeByte_any b a xs 2 _ _ (hW.grow (gal (gre _) _)) ?_).mono ?_; rfl; rintro e w1 ⟨hK1, h1⟩; obtain ⟨fz, f0, f1, f2, f3, ff⟩ := hF.kept hK1 (by omega); obtain ⟨hf, rfl, hW1⟩ | ⟨hno, rfl⟩ := h1)
    | (go_at_call 77; refine (writeWord_any b a (xs ++ [2]) num _ hW1 hn).mono ?_; rintro e w3 ⟨hK3, ⟨hf3, rfl, hW3⟩ | ⟨hno3, rfl⟩⟩))
  · go_end0
    exact WPost.ok (kt (kt ((Kept.refl _ w).alloc _) hK1) hK3) (by rw [List.append_assoc] at hW3; exact hW3)
  · exact ⟨rfl, WPost.no (kt (kt ((Kept.refl _ w).alloc _) hK1) hK3) (by simp at hno3 ⊢; omega)⟩
  · exact ⟨rfl, WPost.no (kt ((Kept.refl _ w).alloc _) hK1) (by simp at hno ⊢; omega)⟩

set_option maxRecDepth 100000 in
theorem writeVal_node (b a : Nat) (xs : List Nat) (node : Nat) (w : World) (hW : Wr w b a xs) (hn : node < 300) :
    Calls Try.prog 136 #[.pointer (some ⟨b, 0, none⟩), (GV.mk 4 0 ⟨#[]⟩ node).val] w (WPost b a xs (4 :: numB node) w) := by
  have hF := Four.new w ⟨4, 0, ⟨#[]⟩, node⟩ 30
  have hlt := hW.cur.lt
  have hla := hW.row.lt
  have e6 : IntKind.u64.wrap (node : Int) = (node : Int) := by rw [IntKind.wrap_u64]; omega
  go_enter Try.func136, Try.ntmps136
  go_wp2_with (first
    | (go_at_call 139; refine (writeByte_any b a xs 4 _ _ (hW.grow (gal (gre _) _)) ?_).mono ?_; rfl; rintro e w1 ⟨hK1, h1⟩; obtain ⟨fz, f0, f1, f2, f3, ff⟩ := hF.kept hK1 (by omega); obtain ⟨hf, rfl, hW1⟩ | ⟨hno, rfl⟩ := h1)
    | (go_at_call 135; refine (writeNumber_any b a (xs ++ [4]) node _ _ hW1 ?_ (by omega)).mono ?_; (first | rfl | exact e6 | trace_state); rintro e w3 ⟨hK3, ⟨hf3, rfl, hW3⟩ | ⟨hno3, rfl⟩⟩))
  · go_end0
    exact WPost.ok (kt (kt ((Kept.refl _ w).alloc _) hK1) hK3) (by rw [List.append_assoc] at hW3; exact hW3)
  · exact ⟨rfl, WPost.no (kt (kt ((Kept.refl _ w).alloc _) hK1) hK3) (by simp at hno3 ⊢; omega)⟩
  · exact ⟨rfl, WPost.no (kt ((Kept.refl _ w).alloc _) hK1) (by simp at hno ⊢; omega)⟩

set_option maxRecDepth 100000 in
theorem writeVal_text (b a : Nat) (xs : List Nat) (text : ByteArray) (w : World) (hW : Wr w b a xs) (hn : text.size ≤ 1000) :
    Calls Try.prog 136 #[.pointer (some ⟨b, 0, none⟩), (GV.mk 3 0 text 0).val] w (WPost b a xs (3 :: (numB text.size ++ bsOf text)) w) := by
  have hF := Four.new w ⟨3, 0, text, 0⟩ 30
  have hlt := hW.cur.lt
  have hla := hW.row.lt
  have e6 : IntKind.u64.wrap (text.size : Int) = (text.size : Int) := by rw [IntKind.wrap_u64]; omega
  go_enter Try.func136, Try.ntmps136
  go_wp2_with (first
    | (go_at_call 139; refine (writeByte_any b a xs 3 _ _ (hW.grow (gal (gre _) _)) ?_).mono ?_; rfl; rintro e w1 ⟨hK1, h1⟩; have hF1 := hF.kept hK1 (by omega); obtain ⟨fz, f0, f1, f2, f3, ff⟩ := id hF1; obtain ⟨hf, rfl, hW1⟩ | ⟨hno, rfl⟩ := h1)
    | (go_at_call 135; refine (writeNumber_any b a (xs ++ [3]) text.size _ _ hW1 ?_ (by omega)).mono ?_; (first | rfl | exact e6 | trace_state); rintro e w3 ⟨hK3, h3⟩; obtain ⟨gz, g0, g1, g2, g3, gf⟩ := hF1.kept hK3 (by omega); obtain ⟨hf3, rfl, hW3⟩ | ⟨hno3, rfl⟩ := h3)
    | (go_at_call 118; refine (writeText_any b a (xs ++ [3] ++ numB text.size) text _ hW3 hn).mono ?_; rintro e w4 ⟨hK4, ⟨hf4, rfl, hW4⟩ | ⟨hno4, rfl⟩⟩))
  · go_end0
    exact WPost.ok (kt (kt (kt ((Kept.refl _ w).alloc _) hK1) hK3) hK4) (by rw [List.append_assoc, List.append_assoc] at hW4; exact hW4)
  · exact ⟨rfl, WPost.no (kt (kt (kt ((Kept.refl _ w).alloc _) hK1) hK3) hK4) (by simp at hno4 ⊢; omega)⟩
  · exact ⟨rfl, WPost.no (kt (kt ((Kept.refl _ w).alloc _) hK1) hK3) (by simp at hno3 ⊢; omega)⟩
  · exact ⟨rfl, WPost.no (kt ((Kept.refl _ w).alloc _) hK1) (by simp at hno ⊢; omega)⟩

set_option maxRecDepth 100000 in
/-- a well made value is one of five -/
theorem okV_cases {n : Nat} {v : GV} (h : okV n v = true) : v = ⟨0, 0, ⟨#[]⟩, 0⟩ ∨ (∃ m, v = ⟨1, m, ⟨#[]⟩, 0⟩) ∨ (∃ m, v = ⟨2, m, ⟨#[]⟩, 0⟩) ∨ (∃ t, t.size ≤ 1000 ∧ v = ⟨3, 0, t, 0⟩) ∨ (∃ k : Nat, k < n ∧ v = ⟨4, 0, ⟨#[]⟩, k⟩) := by
  obtain ⟨k, m, t, d⟩ := v
  unfold okV at h
  dsimp only at h
  split at h
  · rename_i hk
    obtain ⟨h1, h2, h3⟩ := of_decide_eq_true h
    exact Or.inl (by rw [hk, h1, text_empty h2, h3])
  · split at h
    · rename_i hk
      obtain ⟨h2, h3⟩ := of_decide_eq_true h
      rcases hk with hk | hk
      · exact Or.inr (Or.inl ⟨m, by rw [hk, text_empty h2, h3]⟩)
      · exact Or.inr (Or.inr (Or.inl ⟨m, by rw [hk, text_empty h2, h3]⟩))
    · split at h
      · rename_i hk
        obtain ⟨h1, h2, h3⟩ := of_decide_eq_true h
        exact Or.inr (Or.inr (Or.inr (Or.inl ⟨t, h3, by rw [hk, h1, h2]⟩)))
      · split at h
        · rename_i hk
          obtain ⟨h1, h2, h3, h4⟩ := of_decide_eq_true h
          exact Or.inr (Or.inr (Or.inr (Or.inr ⟨d.toNat, by omega, by rw [hk, h1, text_empty h2, show ((d.toNat : Nat) : Int) = d by omega]⟩)))
        · cases h

set_option maxRecDepth 100000 in
theorem writeVal_any (b a n : Nat) (xs : List Nat) (v : GV) (w : World) (hW : Wr w b a xs) (hn : n ≤ 300) (ho : v.Ok) (hv : okV n v = true) :
    Calls Try.prog 136 #[.pointer (some ⟨b, 0, none⟩), v.val] w (WPost b a xs (valB v) w) := by
  rcases okV_cases hv with rfl | ⟨m, rfl⟩ | ⟨m, rfl⟩ | ⟨t, ht, rfl⟩ | ⟨k, hk, rfl⟩
  · exact writeVal_nil b a xs w hW
  · exact writeVal_num b a xs m w hW ho.num
  · exact writeVal_bits b a xs m w hW ho.num
  · exact writeVal_text b a xs t w hW ht
  · exact writeVal_node b a xs k w hW (by omega)

end Go.Proofs.Ythjddpkegooobab

/-
  CANONOK: the one form is of the sizes of what it comes from. Own work.
-/
namespace Go.Proofs.Ythjddpkegooobab
open Go.RowKit

theorem canonN_all {nodes : List GN} {ord0 : List Nat} {p : GN → Prop} (h0 : InvO nodes.length ord0) (hn : ∀ n, n ∈ nodes → okN nodes.length n = true) (hp : ∀ (ord : List Nat) (n : GN), InvO nodes.length ord → n ∈ nodes → p ⟨n.tag, renVals ord n.vals⟩) : ∀ (k : Nat) (n : GN), n ∈ canonN nodes ord0 k → p n
  | 0, n, hx => by unfold canonN at hx; cases hx
  | k + 1, n, hx => by
    rw [canonN_succ] at hx
    have hi := canonO_inv h0 hn k
    split at hx
    · rename_i hlt
      rcases List.mem_append.1 hx with h | h
      · exact canonN_all h0 hn hp k n h
      · rw [List.mem_singleton] at h
        rw [h]
        exact hp _ _ hi (mem_at (hi.2 _ (mem_at hlt)))
    · exact canonN_all h0 hn hp k n hx

theorem canonN_length (nodes : List GN) (ord0 : List Nat) : ∀ k, (canonN nodes ord0 k).length ≤ k
  | 0 => by unfold canonN; simp
  | k + 1 => by
    have := canonN_length nodes ord0 k
    rw [canonN_succ]
    split
    · simp; omega
    · omega

theorem canon_all {g : GG} {p : GN → Prop} (hok : okG g = true) (hp : ∀ (ord : List Nat) (n : GN), InvO g.nodes.length ord → n ∈ g.nodes → p ⟨n.tag, renVals ord n.vals⟩) : ∀ n, n ∈ (canon g).nodes → p n := fun n hn => by
  obtain ⟨_, h2, h3⟩ := okG_parts hok
  exact canonN_all ((InvO.nil _).ren h2) h3 hp g.nodes.length n hn

theorem canon_small {g : GG} (hok : okG g = true) : (canon g).nodes.length ≤ 300 ∧ ∀ n, n ∈ (canon g).nodes → n.vals.length ≤ 100 := by
  obtain ⟨h1, _, h3⟩ := okG_parts hok
  refine ⟨?_, canon_all hok (fun ord n _ hn => ?_)⟩
  · have := canonN_length g.nodes (renOrd [] g.root) g.nodes.length
    unfold canon
    simp only
    omega
  · simp only [renVals_length]
    exact (okN_parts (h3 n hn)).1

theorem renVal_ok {n : Nat} {ord : List Nat} {v : GV} (hv : v.Ok) (hk : okV n v = true) (hinv : InvO n ord) (hn : n ≤ 300) : (renVal ord v).Ok := by
  unfold renVal
  split
  · have h1 := (hinv.ren hk).le
    have h2 := List.idxOf_le_length (a := v.node.toNat) (l := renOrd ord v)
    exact ⟨hv.1, hv.2, hv.3, by unfold I64; simp only; omega⟩
  · exact hv

theorem renVals_ok {n : Nat} {ord : List Nat} {l : List GV} (hv : ∀ v, v ∈ l → v.Ok) (hk : ∀ v, v ∈ l → okV n v = true) (hinv : InvO n ord) (hn : n ≤ 300) : ∀ v, v ∈ renVals ord l → v.Ok := by
  induction l generalizing ord with
  | nil => intro v hx; unfold renVals at hx; cases hx
  | cons y r ih =>
    intro v hx
    unfold renVals at hx
    rcases List.mem_cons.1 hx with h | h
    · rw [h]; exact renVal_ok (hv y (List.mem_cons_self ..)) (hk y (List.mem_cons_self ..)) hinv hn
    · exact ih (fun z hz => hv z (List.mem_cons_of_mem _ hz)) (fun z hz => hk z (List.mem_cons_of_mem _ hz)) (hinv.ren (hk y (List.mem_cons_self ..))) v h

theorem canon_ok {g : GG} (hg : g.Ok) (hok : okG g = true) : (canon g).Ok := by
  obtain ⟨h1, h2, h3⟩ := okG_parts hok
  have hs := canon_small hok
  refine ⟨renVal_ok hg.root h2 (InvO.nil _) h1, by unfold maxLen; omega, canon_all hok (fun ord n hi hn => ?_)⟩
  have h4 := okN_parts (h3 n hn)
  exact ⟨(hg.nodes n hn).tag, by simp only [renVals_length]; exact (hg.nodes n hn).len, renVals_ok (hg.nodes n hn).vals h4.2 hi h1⟩

end Go.Proofs.Ythjddpkegooobab

/-
  CANONOK2: a graph's one form is well made. Own work.
-/
namespace Go.Proofs.Ythjddpkegooobab

theorem okV_mono {n m : Nat} {v : GV} (h : okV n v = true) (hm : n ≤ m) : okV m v = true := by
  rcases okV_cases h with rfl | ⟨k, rfl⟩ | ⟨k, rfl⟩ | ⟨t, ht, rfl⟩ | ⟨k, hk, rfl⟩
  · exact h
  · exact h
  · exact h
  · exact h
  · unfold okV at h ⊢
    simp only at h ⊢
    have h1 := of_decide_eq_true h
    exact decide_eq_true ⟨h1.1, h1.2.1, h1.2.2.1, by omega⟩

theorem mem_renOrd {ord : List Nat} {v : GV} (hk : v.kind = 4) : v.node.toNat ∈ renOrd ord v := by
  unfold renOrd
  split
  · simp
  · rename_i h
    by_cases hm : v.node.toNat ∈ ord
    · exact hm
    · exact absurd ⟨hk, hm⟩ h

theorem okV_ren {n m : Nat} {ord : List Nat} {v : GV} (h : okV n v = true) (hm : (renOrd ord v).length ≤ m) : okV m (renVal ord v) = true := by
  rcases okV_cases h with rfl | ⟨k, rfl⟩ | ⟨k, rfl⟩ | ⟨t, ht, rfl⟩ | ⟨k, hk, rfl⟩
  · exact h
  · exact h
  · exact h
  · exact h
  · have h1 : (renOrd ord ⟨4, 0, ⟨#[]⟩, (k : Int)⟩).idxOf k < (renOrd ord ⟨4, 0, ⟨#[]⟩, (k : Int)⟩).length := List.idxOf_lt_length_of_mem (mem_renOrd (v := ⟨4, 0, ⟨#[]⟩, (k : Int)⟩) rfl)
    unfold renVal
    rw [if_pos rfl]
    have h2 : okV n ⟨4, 0, ⟨#[]⟩, (k : Int)⟩ = true := h
    unfold okV at h2 ⊢
    simp only at h2 ⊢
    have h3 := of_decide_eq_true h2
    refine decide_eq_true ⟨h3.1, h3.2.1, by omega, ?_⟩
    simp only [Int.toNat_natCast]
    omega

theorem okVs_ren {n m : Nat} {ord : List Nat} {l : List GV} (h : ∀ v, v ∈ l → okV n v = true) (hm : (renOrds ord l).length ≤ m) : ∀ v, v ∈ renVals ord l → okV m v = true := by
  induction l generalizing ord with
  | nil => intro v hv; cases hv
  | cons x r ih =>
    intro v hv
    have h1 : (renOrd ord x).length ≤ (renOrds (renOrd ord x) r).length := renOrds_le _ _
    have h2 : (renOrds (renOrd ord x) r).length ≤ m := hm
    rcases List.mem_cons.1 hv with rfl | hv
    · exact okV_ren (h x (List.mem_cons_self ..)) (by omega)
    · exact ih (fun y hy => h y (List.mem_cons_of_mem _ hy)) h2 v hv

theorem okN_mk {m : Nat} {x : GN} (h1 : 0 ≤ x.tag ∧ x.tag ≤ 1000) (h2 : x.vals.length ≤ 100) (h3 : ∀ v, v ∈ x.vals → okV m v = true) : okN m x = true := by
  unfold okN
  simp only [Bool.and_eq_true, decide_eq_true_eq, List.all_eq_true]
  exact ⟨⟨h1.1, h1.2, h2⟩, h3⟩
theorem okN_tag' {n : Nat} {x : GN} (h : okN n x = true) : 0 ≤ x.tag ∧ x.tag ≤ 1000 := by
  unfold okN at h
  simp only [Bool.and_eq_true, decide_eq_true_eq, List.all_eq_true] at h
  exact ⟨h.1.1, h.1.2.1⟩
theorem okN_mono {n m : Nat} {x : GN} (h : okN n x = true) (hm : n ≤ m) : okN m x = true :=
  okN_mk (okN_tag' h) (okN_parts h).1 (fun v hv => okV_mono ((okN_parts h).2 v hv) hm)

theorem canonO_le (nodes : List GN) (ord0 : List Nat) (k : Nat) : (canonO nodes ord0 k).length ≤ (canonO nodes ord0 (k + 1)).length := by
  rw [canonO_succ]
  split
  · exact renOrds_le _ _
  · exact Nat.le_refl _
theorem canonO_mono (nodes : List GN) (ord0 : List Nat) {k m : Nat} (h : k ≤ m) : (canonO nodes ord0 k).length ≤ (canonO nodes ord0 m).length := by
  induction h with
  | refl => exact Nat.le_refl _
  | step _ ih => exact Nat.le_trans ih (canonO_le _ _ _)

theorem canonN_len (nodes : List GN) (ord0 : List Nat) : ∀ k, (canonN nodes ord0 k).length = min k (canonO nodes ord0 k).length
  | 0 => by unfold canonN; simp
  | k + 1 => by
    have ih := canonN_len nodes ord0 k
    have hle := canonO_le nodes ord0 k
    rw [canonN_succ]
    by_cases h : k < (canonO nodes ord0 k).length
    · rw [if_pos h, List.length_append, ih, List.length_singleton]
      omega
    · have e : canonO nodes ord0 (k + 1) = canonO nodes ord0 k := by rw [canonO_succ, if_neg h]
      rw [if_neg h, ih, e]
      omega

theorem canonN_ok {nodes : List GN} {ord0 : List Nat} (h0 : InvO nodes.length ord0) (hn : ∀ n, n ∈ nodes → okN nodes.length n = true) : ∀ k x, x ∈ canonN nodes ord0 k → okN (canonO nodes ord0 k).length x = true
  | 0, x, hx => by unfold canonN at hx; cases hx
  | k + 1, x, hx => by
    have hle := canonO_le nodes ord0 k
    have hinv := canonO_inv h0 hn k
    rw [canonN_succ] at hx
    by_cases h : k < (canonO nodes ord0 k).length
    · rw [if_pos h] at hx
      rcases List.mem_append.1 hx with hx | hx
      · exact okN_mono (canonN_ok h0 hn k x hx) hle
      · have e : canonO nodes ord0 (k + 1) = renOrds (canonO nodes ord0 k) (nodes[(canonO nodes ord0 k)[k]!]!).vals := by rw [canonO_succ, if_pos h]
        have hm := hn _ (mem_at (hinv.2 _ (mem_at h)))
        have ht := okN_tag' hm
        rw [List.mem_singleton.1 hx, e]
        exact okN_mk ht (by rw [renVals_length]; exact (okN_parts hm).1) (okVs_ren (okN_parts hm).2 (Nat.le_refl _))
    · rw [if_neg h] at hx
      exact okN_mono (canonN_ok h0 hn k x hx) hle

theorem canon_okG {g : GG} (hok : okG g = true) : okG (canon g) = true := by
  obtain ⟨hn, hroot, hnodes⟩ := okG_parts hok
  have h0 : InvO g.nodes.length (renOrd [] g.root) := (InvO.nil _).ren hroot
  have hlen : (canon g).nodes.length = (canonO g.nodes (renOrd [] g.root) g.nodes.length).length := by
    have h1 := canonN_len g.nodes (renOrd [] g.root) g.nodes.length
    have h2 := (canonO_inv h0 hnodes g.nodes.length).le
    show (canonN g.nodes (renOrd [] g.root) g.nodes.length).length = _
    omega
  have hr : okV (canon g).nodes.length (canon g).root = true := by
    rw [hlen]
    refine okV_ren hroot ?_
    have h1 := canonO_mono g.nodes (renOrd [] g.root) (Nat.zero_le g.nodes.length)
    rw [show canonO g.nodes (renOrd [] g.root) 0 = renOrd [] g.root by unfold canonO; rfl] at h1
    exact h1
  have ha : ∀ x, x ∈ (canon g).nodes → okN (canon g).nodes.length x = true := by
    rw [hlen]
    exact canonN_ok h0 hnodes _
  unfold okG
  simp only [Bool.and_eq_true, decide_eq_true_eq, List.all_eq_true]
  exact ⟨⟨(canon_small hok).1, hr⟩, ha⟩

/-! how long an image may be -/
theorem valB_len {n : Nat} {v : GV} (hn : n ≤ 300) (ho : v.Ok) (h : okV n v = true) : (valB v).length ≤ 1011 := by
  rcases okV_cases h with rfl | ⟨k, rfl⟩ | ⟨k, rfl⟩ | ⟨t, ht, rfl⟩ | ⟨k, hk, rfl⟩
  · show 1 ≤ 1011; omega
  · show (numB (zig k)).length + 1 ≤ 1011
    have := numB_len 10 (zig k) (Nat.lt_of_lt_of_le (zig_lt ho.num) (by decide)) (by omega)
    omega
  · show (lowB 8 (u64n k)).length + 1 ≤ 1011
    rw [lowB_length]; omega
  · show (numB t.size ++ bsOf t).length + 1 ≤ 1011
    have := numB_len 10 t.size (Nat.lt_of_le_of_lt ht (by decide)) (by omega)
    rw [List.length_append, bsOf_length]
    omega
  · show (numB k).length + 1 ≤ 1011
    have := numB_len 10 k (Nat.lt_of_lt_of_le (show k < 300 by omega) (by decide)) (by omega)
    omega
theorem valsB_len {n : Nat} {l : List GV} (hn : n ≤ 300) (ho : ∀ v, v ∈ l → v.Ok) (h : ∀ v, v ∈ l → okV n v = true) : (valsB l).length ≤ 1011 * l.length := by
  induction l with
  | nil => simp [valsB]
  | cons x r ih =>
    have h1 := valB_len hn (ho x (List.mem_cons_self ..)) (h x (List.mem_cons_self ..))
    have h2 := ih (fun v hv => ho v (List.mem_cons_of_mem _ hv)) (fun v hv => h v (List.mem_cons_of_mem _ hv))
    simp only [valsB, List.length_append, List.length_cons]
    omega
theorem nodeB_len {n : Nat} {x : GN} (hn : n ≤ 300) (ho : x.Ok) (h : okN n x = true) : (nodeB x).length ≤ 102000 := by
  have h1 := valsB_len hn ho.vals (okN_parts h).2
  have h2 := (okN_parts h).1
  have h3 := okN_tag' h
  have h4 := numB_len 10 x.tag.toNat (Nat.lt_of_le_of_lt (show x.tag.toNat ≤ 1000 by omega) (by decide)) (by omega)
  have h5 := numB_len 10 x.vals.length (Nat.lt_of_le_of_lt h2 (by decide)) (by omega)
  simp only [nodeB, List.length_append]
  omega
theorem nodesB_len {n : Nat} {l : List GN} (hn : n ≤ 300) (ho : ∀ v, v ∈ l → v.Ok) (h : ∀ v, v ∈ l → okN n v = true) : (nodesB l).length ≤ 102000 * l.length := by
  induction l with
  | nil => simp [nodesB]
  | cons x r ih =>
    have h1 := nodeB_len hn (ho x (List.mem_cons_self ..)) (h x (List.mem_cons_self ..))
    have h2 := ih (fun v hv => ho v (List.mem_cons_of_mem _ hv)) (fun v hv => h v (List.mem_cons_of_mem _ hv))
    simp only [nodesB, List.length_append, List.length_cons]
    omega
theorem graphB_len {g : GG} (ho : g.Ok) (hok : okG g = true) : (graphB g).length ≤ 40000000 := by
  obtain ⟨hn, hroot, hnodes⟩ := okG_parts hok
  have h1 := nodesB_len hn ho.nodes hnodes
  have h2 := valB_len hn ho.root hroot
  have h3 := numB_len 10 g.nodes.length (Nat.lt_of_le_of_lt hn (by decide)) (by omega)
  simp only [graphB, List.length_append, List.length_cons, List.length_nil]
  omega

end Go.Proofs.Ythjddpkegooobab
