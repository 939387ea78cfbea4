/-
  WR: the program's writer. Own work.
-/
import Derived.Test.YthjddpkegooobabCur
import Derived.Test.YthjddpkegooobabBRow
import Derived.Test.YthjddpkegooobabClone
import Derived.Laws.BitsAllLaws
namespace Go.Proofs.Ythjddpkegooobab
open Go.RowKit

set_option maxRecDepth 100000 in
theorem bsOf_get {s : ByteArray} {i : Nat} (hi : i < s.size) : (Lib.byteCells s.data.toList)[i]? = some (.int .u8 (((bsOf s)[i]! : Nat) : Int)) := by
  have h1 : i < s.data.toList.length := by rw [Array.length_toList]; exact hi
  rw [getElem!_pos (bsOf s) i (by rw [bsOf_length]; exact hi)]
  simp [Lib.byteCells, bsOf, List.getElem?_eq_getElem h1]
set_option maxRecDepth 100000 in
theorem BRow.text {w : World} {a n : Nat} {xs : List Nat} {cur : Array Value} (hc : w.heap[a]? = some (.cells cur 5 (0, 0))) (h : BRow w a n xs) (s : ByteArray) (hl : xs.length + s.size ≤ n) :
    BRow (w.setRow a (cur.toList.take xs.length ++ Lib.byteCells s.data.toList ++ cur.toList.drop (xs.length + s.size)).toArray) a n (xs ++ bsOf s) := by
  obtain ⟨c, hc', hs, hl', hx⟩ := h
  rw [hc] at hc'
  obtain rfl : cur = c := by simpa using hc'
  have e1 : (cur.toList.take xs.length).length = xs.length := by rw [List.length_take]; exact Nat.min_eq_left (by show _ ≤ cur.size; omega)
  have e2 : (Lib.byteCells s.data.toList).length = s.size := by rw [Lib.byteCells_length, ← Lib.size_eq]
  refine ⟨_, setRow_heap _ _ _ _ _ _ hc, ?_, by rw [List.length_append, bsOf_length]; exact hl, fun i hi => ?_⟩
  · simp only [List.size_toArray, List.length_append, e1, e2, List.length_drop, Array.length_toList]; omega
  · rw [app_get hi]
    have hi' : i < xs.length + s.size := by rw [List.length_append, bsOf_length] at hi; exact hi
    rw [List.getElem?_toArray, List.append_assoc]
    split
    · rename_i h
      rw [List.getElem?_append_left (by omega), List.getElem?_take_of_lt h, Array.getElem?_toList]
      exact hx i h
    · rename_i h
      rw [List.getElem?_append_right (by omega), e1, List.getElem?_append_left (by omega)]
      exact bsOf_get (by omega)

/-- a writer that has written so much -/
structure Wr (w : World) (b a : Nat) (xs : List Nat) : Prop where
  cur : Cur w b (some ⟨a, 0, none⟩) 4096 4096 xs.length
  ne : a ≠ b
  row : BRow w a 4096 xs

set_option maxRecDepth 100000 in
theorem Wr.le {w : World} {b a : Nat} {xs : List Nat} (h : Wr w b a xs) : xs.length ≤ 4096 := by obtain ⟨c, _, _, hl, _⟩ := h.row; exact hl
theorem Wr.kept {p : Nat → Prop} {w w' : World} {b a : Nat} {xs : List Nat} (h : Wr w b a xs) (k : Kept p w w') (hb : ¬ p b) (ha : ¬ p a) : Wr w' b a xs := ⟨h.cur.kept k hb, h.ne, h.row.kept k ha⟩
theorem Wr.grow {w w' : World} {b a : Nat} {xs : List Nat} (h : Wr w b a xs) (k : Below w.heap.size w w') : Wr w' b a xs := h.kept (Kept.of_below k (fun _ => False)) (fun e => e) (fun e => e)

set_option maxRecDepth 100000 in
theorem Cur.setOther {w : World} {b : Nat} {sa : Option Addr} {len cap at_ : Nat} (h : Cur w b sa len cap at_) {p : Addr} (hp : b ≠ p.block) (u : Value) : Cur (w.setCell p u) b sa len cap at_ := h.same (Below.heap_setCell _ _ _ _ hp) (by have := h.lt; simpa [World.setCell] using this)

/-- what a writer's call leaves that writes so much -/
def WPost (b a : Nat) (xs ys : List Nat) (w : World) (e : Ending) (w' : World) : Prop :=
  Kept (fun k => k = b ∨ k = a) w w' ∧ ((xs.length + ys.length ≤ 4096 ∧ e = .returned (.tuple #[]) ∧ Wr w' b a (xs ++ ys)) ∨ (4096 < xs.length + ys.length ∧ e = .panicked [haltP]))

set_option maxRecDepth 100000 in
theorem writeByte_any (b a : Nat) (xs : List Nat) (x : Nat) (z : Int) (w : World) (hW : Wr w b a xs) (hz : z = (x : Int)) :
    Calls Try.prog 139 #[.pointer (some ⟨b, 0, none⟩), .int .u8 z] w (WPost b a xs [x] w) := by
  subst hz
  by_cases hl : xs.length + 1 ≤ 4096
  · go_enter Try.func139, Try.ntmps139
    go_wp2_with (go_at_call 158; refine (next_fits b _ 4096 4096 xs.length 1 _ hW.cur (by omega) (by decide) hl).mono ?_; rintro e w1 ⟨p, c, rfl, hp, hC, hK⟩; obtain rfl := hp (by omega) _ _ rfl; have hB := hW.row.kept hK hW.ne; obtain ⟨v, hv⟩ := hB.any (i := xs.length) (by omega); have hfz := hB.frozen xs.length)
    go_end0
    have hB2 := hB.push (by omega) x
    exact ⟨(hK.mono (q := fun k => k = b ∨ k = a) (fun _ _ h => Or.inl h)).set (fun _ => Or.inr rfl) _, Or.inl ⟨hl, rfl, ⟨by rw [List.length_append]; exact hC.setOther (fun e => hW.ne e.symm) _, hW.ne, hB2⟩⟩⟩
  · go_enter Try.func139, Try.ntmps139
    go_wp2_with (go_at_call 158; refine (next_not b _ 4096 4096 xs.length 1 _ hW.cur (by decide) hW.le (by omega)).mono ?_; rintro e w1 ⟨rfl, hb⟩)
    exact ⟨rfl, Kept.of_below hb _, Or.inr ⟨by show 4096 < xs.length + 1; omega, rfl⟩⟩

set_option maxRecDepth 100000 in
theorem writeText_any (b a : Nat) (xs : List Nat) (s : ByteArray) (w : World) (hW : Wr w b a xs) (hs : s.size ≤ 1000) :
    Calls Try.prog 118 #[.pointer (some ⟨b, 0, none⟩), .string s] w (WPost b a xs (bsOf s) w) := by
  have hbl := bsOf_length s
  by_cases hl : xs.length + s.size ≤ 4096
  · by_cases h0 : s.size = 0
    · obtain rfl : s = ⟨#[]⟩ := ByteArray.ext (Array.eq_empty_of_size_eq_zero h0)
      go_enter Try.func118, Try.ntmps118
      go_wp2_with (go_at_call 158; refine (next_fits b _ 4096 4096 xs.length 0 _ hW.cur (by omega) (by decide) hW.le).mono ?_; rintro e w1 ⟨p, c, rfl, hp, hC, hK⟩; have hB := hW.row.kept hK hW.ne; have hcp := Lib.run_copy_empty_string (P := Try.prog) w1 28 9 3 5 p 0 c ⟨#[]⟩ Try.underlying28 (by rw [size_byte]; rfl) rfl)
      go_end0
      have hbs : bsOf ⟨#[]⟩ = [] := rfl
      exact ⟨hK.mono (fun _ _ h => Or.inl h), Or.inl ⟨hl, rfl, ⟨by rw [hbs, List.append_nil]; exact hC, hW.ne, by rw [hbs, List.append_nil]; exact hB⟩⟩⟩
    · go_enter Try.func118, Try.ntmps118
      go_wp2_with (go_at_call 158; refine (next_fits b _ 4096 4096 xs.length s.size _ hW.cur (by omega) (by decide) hl).mono ?_; rintro e w1 ⟨p, c, rfl, hp, hC, hK⟩; obtain rfl := hp (by omega) _ _ rfl; have hB := hW.row.kept hK hW.ne; obtain ⟨cur, hcur, hcs, _⟩ := id hB; have hcp := Lib.run_copy_row_string (P := Try.prog) w1 28 9 3 5 a xs.length s.size c s cur 5 Try.underlying28 size_byte hcur (Nat.le_refl _) (by omega))
      go_end0
      have hB2 := hB.text hcur s hl
      rw [List.append_assoc] at hB2
      have hKs : Kept (fun k => k = a) w1 (w1.setRow a (cur.toList.take xs.length ++ (Lib.byteCells s.data.toList ++ cur.toList.drop (xs.length + s.size))).toArray) := ⟨rfl, rfl, rfl, by simp, fun k _ hn => setRow_other _ _ _ _ hn⟩
      exact ⟨(hK.mono (q := fun k => k = b ∨ k = a) (fun _ _ h => Or.inl h)).trans hKs (fun _ _ h => Or.inr h), Or.inl ⟨by omega, rfl, ⟨by rw [List.length_append, hbl]; exact hC.kept hKs (fun e => hW.ne e.symm), hW.ne, hB2⟩⟩⟩
  · go_enter Try.func118, Try.ntmps118
    go_wp2_with (go_at_call 158; refine (next_not b _ 4096 4096 xs.length s.size _ hW.cur (by decide) hW.le (by omega)).mono ?_; rintro e w1 ⟨rfl, hb⟩)
    exact ⟨rfl, Kept.of_below hb _, Or.inr ⟨by omega, rfl⟩⟩

set_option maxRecDepth 100000 in
theorem numB_pos (n : Nat) : 0 < (numB n).length := by
  by_cases h : n < 128
  · rw [numB_small h]; simp
  · rw [numB_great h]; simp
set_option maxRecDepth 100000 in
theorem or128 (m : Nat) : bits .or .u8 ((m : Int) % 256) 128 = ((m % 128 + 128 : Nat) : Int) := by
  rw [u8_or _ _ (by omega) (by omega) (by omega) (by omega)]
  have h1 : ((m : Int) % 256).toNat = m % 256 := by omega
  rw [h1]
  have h2 : m % 256 ||| 128 = m % 128 + 128 := by
    have hj := nat_join 7 128 (m % 128) (by decide) (by omega)
    by_cases hc : m % 256 < 128
    · rw [show m % 256 = m % 128 by omega, Nat.or_comm, hj]; omega
    · rw [show m % 256 = 128 + m % 128 by omega, ← hj, Nat.or_comm, ← Nat.or_assoc, Nat.or_self, hj]; omega
  show ((m % 256 ||| 128 : Nat) : Int) = _
  rw [h2]

set_option maxRecDepth 100000 in
theorem writeNumber_any (b a : Nat) (xs : List Nat) (n : Nat) (z : Int) (w : World) (hW : Wr w b a xs) (hz : z = (n : Int)) (hn : n < 18446744073709551616) :
    Calls Try.prog 135 #[.pointer (some ⟨b, 0, none⟩), .int .u64 z] w (WPost b a xs (numB n) w) := by
  subst hz
  go_enter Try.func135, Try.ntmps135
  go_wp2
  go_loopw [1] (fun i ws => ∃ (m : Nat) (ys : List Nat), i = .int .u64 m ∧ Hid (numB n = ys ++ numB m) ∧ m < 18446744073709551616 ∧ Wr ws b a (xs ++ ys) ∧ Kept (fun k => k = b ∨ k = a) w ws) (fun i _ => (intOf i).toNat)
  case atStart => exact ⟨n, [], rfl, rfl, hn, by rw [List.append_nil]; exact hW, Kept.refl _ _⟩
  case round =>
    obtain ⟨m, ys, rfl, hm, hm64, hWm, hK⟩ := hrel
    have hp := numB_pos m
    by_cases hlt : m < 128
    · have hd : ¬ ((128 : Int) ≤ (m : Int)) := by omega
      have e1 : Hid (numB n = ys ++ [m]) := by rw [numB_small hlt] at hm; exact hm
      have e2 : (m : Int) % 256 = (m : Int) := by omega
      go_wp2_with (go_at_call 139; refine (writeByte_any b a _ m _ _ hWm ?_).mono ?_; (first | rfl | exact e2); rintro e w1 ⟨hK1, ⟨hf, rfl, hW1⟩ | ⟨hno, rfl⟩⟩)
      · go_end0
        refine ⟨hK.trans hK1 (fun _ _ h => h), Or.inl ⟨?_, rfl, ?_⟩⟩
        · rw [e1.out]; simp at hf ⊢; omega
        · rw [e1.out, ← List.append_assoc]; exact hW1
      · refine ⟨rfl, hK.trans hK1 (fun _ _ h => h), Or.inr ⟨?_, rfl⟩⟩
        rw [e1.out]; simp at hno ⊢; omega
    · have hd : ((128 : Int) ≤ (m : Int)) := by omega
      have e1 : Hid (numB n = (ys ++ [m % 128 + 128]) ++ numB (m / 128)) := by rw [numB_great hlt] at hm; show numB n = _; rw [hm.out]; simp
      have e3 := or128 m
      go_wp2_with (go_at_call 139; refine (writeByte_any b a _ (m % 128 + 128) _ _ hWm ?_).mono ?_; (first | rfl | exact e3); rintro e w1 ⟨hK1, ⟨hf, rfl, hW1⟩ | ⟨hno, rfl⟩⟩)
      · go_roundw
        case rel => exact ⟨m / 128, ys ++ [m % 128 + 128], by go_num, e1, by omega, by rw [← List.append_assoc]; exact hW1, hK.trans hK1 (fun _ _ h => h)⟩
        case measure => simp [intOf]; omega
      · refine ⟨rfl, hK.trans hK1 (fun _ _ h => h), Or.inr ⟨?_, rfl⟩⟩
        rw [e1.out]; simp at hno ⊢; omega

end Go.Proofs.Ythjddpkegooobab
