import Derived.Laws.BitsAllLaws
import Derived.LaidEqlPtr
import Derived.MapKept
import Derived.Deep.OwnRows
import Derived.Test.YthjddpkegooobaaPartRoB

/-
  WR: the program's writer. Own work.
-/
namespace Go.Proofs.Ythjddpkegooobaa
open Go.RowKit

set_option maxRecDepth 100000 in
theorem bsOf_get {s : ByteArray} {i : Nat} (hi : i < s.size) : (Lib.byteCells s.data.toList)[i]? = some (.int .u8 (((bsOf s)[i]! : Nat) : Int)) := by
  have h1 : i < s.data.toList.length := by rw [Array.length_toList]; exact hi
  rw [getElem!_pos (bsOf s) i (by rw [bsOf_length]; exact hi)]
  simp [Lib.byteCells, bsOf, List.getElem?_eq_getElem h1]
set_option maxRecDepth 100000 in
theorem BRow.text {w : World} {a n : Nat} {xs : List Nat} {cur : Array Value} (hc : w.heap[a]? = some (.cells cur 5 (0, 0))) (h : BRow w a n xs) (s : ByteArray) (hl : xs.length + s.size ≤ n) :
    BRow (w.setRow a (cur.toList.take xs.length ++ Lib.byteCells s.data.toList ++ cur.toList.drop (xs.length + s.size)).toArray) a n (xs ++ bsOf s) := by
  obtain ⟨c, hc', hs, hl', hx⟩ := h
  rw [hc] at hc'
  obtain rfl : cur = c := by simpa using hc'
  have e1 : (cur.toList.take xs.length).length = xs.length := by rw [List.length_take]; exact Nat.min_eq_left (by show _ ≤ cur.size; omega)
  have e2 : (Lib.byteCells s.data.toList).length = s.size := by rw [Lib.byteCells_length, ← Lib.size_eq]
  refine ⟨_, setRow_heap _ _ _ _ _ _ hc, ?_, by rw [List.length_append, bsOf_length]; exact hl, fun i hi => ?_⟩
  · simp only [List.size_toArray, List.length_append, e1, e2, List.length_drop, Array.length_toList]; omega
  · rw [app_get hi]
    have hi' : i < xs.length + s.size := by rw [List.length_append, bsOf_length] at hi; exact hi
    rw [List.getElem?_toArray, List.append_assoc]
    split
    · rename_i h
      rw [List.getElem?_append_left (by omega), List.getElem?_take_of_lt h, Array.getElem?_toList]
      exact hx i h
    · rename_i h
      rw [List.getElem?_append_right (by omega), e1, List.getElem?_append_left (by omega)]
      exact bsOf_get (by omega)

/-- a writer that has written so much -/
structure Wr (w : World) (b a : Nat) (xs : List Nat) : Prop where
  cur : Cur w b (some ⟨a, 0, none⟩) 4096 4096 xs.length
  ne : a ≠ b
  row : BRow w a 4096 xs

set_option maxRecDepth 100000 in
theorem Wr.le {w : World} {b a : Nat} {xs : List Nat} (h : Wr w b a xs) : xs.length ≤ 4096 := by obtain ⟨c, _, _, hl, _⟩ := h.row; exact hl
theorem Wr.kept {p : Nat → Prop} {w w' : World} {b a : Nat} {xs : List Nat} (h : Wr w b a xs) (k : Kept p w w') (hb : ¬ p b) (ha : ¬ p a) : Wr w' b a xs := ⟨h.cur.kept k hb, h.ne, h.row.kept k ha⟩
theorem Wr.grow {w w' : World} {b a : Nat} {xs : List Nat} (h : Wr w b a xs) (k : Below w.heap.size w w') : Wr w' b a xs := h.kept (Kept.of_below k (fun _ => False)) (fun e => e) (fun e => e)

set_option maxRecDepth 100000 in
theorem Cur.setOther {w : World} {b : Nat} {sa : Option Addr} {len cap at_ : Nat} (h : Cur w b sa len cap at_) {p : Addr} (hp : b ≠ p.block) (u : Value) : Cur (w.setCell p u) b sa len cap at_ := h.same (Below.heap_setCell _ _ _ _ hp) (by have := h.lt; simpa [World.setCell] using this)

/-- what a writer's call leaves that writes so much -/
def WPost (b a : Nat) (xs ys : List Nat) (w : World) (e : Ending) (w' : World) : Prop :=
  Kept (fun k => k = b ∨ k = a) w w' ∧ ((xs.length + ys.length ≤ 4096 ∧ e = .returned (.tuple #[]) ∧ Wr w' b a (xs ++ ys)) ∨ (4096 < xs.length + ys.length ∧ e = .panicked [haltP]))

set_option maxRecDepth 100000 in
theorem writeByte_any (b a : Nat) (xs : List Nat) (x : Nat) (z : Int) (w : World) (hW : Wr w b a xs) (hz : z = (x : Int)) :
    Calls Try.prog 118 #[.pointer (some ⟨b, 0, none⟩), .int .u8 z] w (WPost b a xs [x] w) := by
  subst hz
  by_cases hl : xs.length + 1 ≤ 4096
  · go_enter Try.func118, Try.ntmps118
    go_wp2_with (go_at_call 137; refine (next_fits b _ 4096 4096 xs.length 1 _ hW.cur (by omega) (by decide) hl).mono ?_; rintro e w1 ⟨p, c, rfl, hp, hC, hK⟩; obtain rfl := hp (by omega) _ _ rfl; have hB := hW.row.kept hK hW.ne; obtain ⟨v, hv⟩ := hB.any (i := xs.length) (by omega); have hfz := hB.frozen xs.length)
    go_end0
    have hB2 := hB.push (by omega) x
    exact ⟨(hK.mono (q := fun k => k = b ∨ k = a) (fun _ _ h => Or.inl h)).set (fun _ => Or.inr rfl) _, Or.inl ⟨hl, rfl, ⟨by rw [List.length_append]; exact hC.setOther (fun e => hW.ne e.symm) _, hW.ne, hB2⟩⟩⟩
  · go_enter Try.func118, Try.ntmps118
    go_wp2_with (go_at_call 137; refine (next_not b _ 4096 4096 xs.length 1 _ hW.cur (by decide) hW.le (by omega)).mono ?_; rintro e w1 ⟨rfl, hb⟩)
    exact ⟨rfl, Kept.of_below hb _, Or.inr ⟨by show 4096 < xs.length + 1; omega, rfl⟩⟩

set_option maxRecDepth 100000 in
theorem writeText_any (b a : Nat) (xs : List Nat) (s : ByteArray) (w : World) (hW : Wr w b a xs) (hs : s.size ≤ 1000) :
    Calls Try.prog 93 #[.pointer (some ⟨b, 0, none⟩), .string s] w (WPost b a xs (bsOf s) w) := by
  have hbl := bsOf_length s
  by_cases hl : xs.length + s.size ≤ 4096
  · by_cases h0 : s.size = 0
    · obtain rfl : s = ⟨#[]⟩ := ByteArray.ext (Array.eq_empty_of_size_eq_zero h0)
      go_enter Try.func93, Try.ntmps93
      go_wp2_with (go_at_call 137; refine (next_fits b _ 4096 4096 xs.length 0 _ hW.cur (by omega) (by decide) hW.le).mono ?_; rintro e w1 ⟨p, c, rfl, hp, hC, hK⟩; have hB := hW.row.kept hK hW.ne; have hcp := Lib.run_copy_empty_string (P := Try.prog) w1 22 9 3 5 p 0 c ⟨#[]⟩ Try.underlying22 (by rw [size_byte]; rfl) rfl)
      go_end0
      have hbs : bsOf ⟨#[]⟩ = [] := rfl
      exact ⟨hK.mono (fun _ _ h => Or.inl h), Or.inl ⟨hl, rfl, ⟨by rw [hbs, List.append_nil]; exact hC, hW.ne, by rw [hbs, List.append_nil]; exact hB⟩⟩⟩
    · go_enter Try.func93, Try.ntmps93
      go_wp2_with (go_at_call 137; refine (next_fits b _ 4096 4096 xs.length s.size _ hW.cur (by omega) (by decide) hl).mono ?_; rintro e w1 ⟨p, c, rfl, hp, hC, hK⟩; obtain rfl := hp (by omega) _ _ rfl; have hB := hW.row.kept hK hW.ne; obtain ⟨cur, hcur, hcs, _⟩ := id hB; have hcp := Lib.run_copy_row_string (P := Try.prog) w1 22 9 3 5 a xs.length s.size c s cur 5 Try.underlying22 size_byte hcur (Nat.le_refl _) (by omega))
      go_end0
      have hB2 := hB.text hcur s hl
      rw [List.append_assoc] at hB2
      have hKs : Kept (fun k => k = a) w1 (w1.setRow a (cur.toList.take xs.length ++ (Lib.byteCells s.data.toList ++ cur.toList.drop (xs.length + s.size))).toArray) := ⟨rfl, rfl, rfl, by simp, fun k _ hn => setRow_other _ _ _ _ hn⟩
      exact ⟨(hK.mono (q := fun k => k = b ∨ k = a) (fun _ _ h => Or.inl h)).trans hKs (fun _ _ h => Or.inr h), Or.inl ⟨by omega, rfl, ⟨by rw [List.length_append, hbl]; exact hC.kept hKs (fun e => hW.ne e.symm), hW.ne, hB2⟩⟩⟩
  · go_enter Try.func93, Try.ntmps93
    go_wp2_with (go_at_call 137; refine (next_not b _ 4096 4096 xs.length s.size _ hW.cur (by decide) hW.le (by omega)).mono ?_; rintro e w1 ⟨rfl, hb⟩)
    exact ⟨rfl, Kept.of_below hb _, Or.inr ⟨by omega, rfl⟩⟩

set_option maxRecDepth 100000 in
theorem numB_pos (n : Nat) : 0 < (numB n).length := by
  by_cases h : n < 128
  · rw [numB_small h]; simp
  · rw [numB_great h]; simp
set_option maxRecDepth 100000 in
theorem or128 (m : Nat) : bits .or .u8 ((m : Int) % 256) 128 = ((m % 128 + 128 : Nat) : Int) := by
  rw [u8_or _ _ (by omega) (by omega) (by omega) (by omega)]
  have h1 : ((m : Int) % 256).toNat = m % 256 := by omega
  rw [h1]
  have h2 : m % 256 ||| 128 = m % 128 + 128 := by
    have hj := nat_join 7 128 (m % 128) (by decide) (by omega)
    by_cases hc : m % 256 < 128
    · rw [show m % 256 = m % 128 by omega, Nat.or_comm, hj]; omega
    · rw [show m % 256 = 128 + m % 128 by omega, ← hj, Nat.or_comm, ← Nat.or_assoc, Nat.or_self, hj]; omega
  show ((m % 256 ||| 128 : Nat) : Int) = _
  rw [h2]

set_option maxRecDepth 100000 in
theorem writeNumber_any (b a : Nat) (xs : List Nat) (n : Nat) (z : Int) (w : World) (hW : Wr w b a xs) (hz : z = (n : Int)) (hn : n < 18446744073709551616) :
    Calls Try.prog 116 #[.pointer (some ⟨b, 0, none⟩), .int .u64 z] w (WPost b a xs (numB n) w) := by
  subst hz
  go_enter Try.func116, Try.ntmps116
  go_wp2
  go_loopw [1] (fun i ws => ∃ (m : Nat) (ys : List Nat), i = .int .u64 m ∧ Hid (numB n = ys ++ numB m) ∧ m < 18446744073709551616 ∧ Wr ws b a (xs ++ ys) ∧ Kept (fun k => k = b ∨ k = a) w ws) (fun i _ => (intOf i).toNat)
  case atStart => exact ⟨n, [], rfl, rfl, hn, by rw [List.append_nil]; exact hW, Kept.refl _ _⟩
  case round =>
    obtain ⟨m, ys, rfl, hm, hm64, hWm, hK⟩ := hrel
    have hp := numB_pos m
    by_cases hlt : m < 128
    · have hd : ¬ ((128 : Int) ≤ (m : Int)) := by omega
      have e1 : Hid (numB n = ys ++ [m]) := by rw [numB_small hlt] at hm; exact hm
      have e2 : (m : Int) % 256 = (m : Int) := by omega
      go_wp2_with (go_at_call 118; refine (writeByte_any b a _ m _ _ hWm ?_).mono ?_; (first | rfl | exact e2); rintro e w1 ⟨hK1, ⟨hf, rfl, hW1⟩ | ⟨hno, rfl⟩⟩)
      · go_end0
        refine ⟨hK.trans hK1 (fun _ _ h => h), Or.inl ⟨?_, rfl, ?_⟩⟩
        · rw [e1.out]; simp at hf ⊢; omega
        · rw [e1.out, ← List.append_assoc]; exact hW1
      · refine ⟨rfl, hK.trans hK1 (fun _ _ h => h), Or.inr ⟨?_, rfl⟩⟩
        rw [e1.out]; simp at hno ⊢; omega
    · have hd : ((128 : Int) ≤ (m : Int)) := by omega
      have e1 : Hid (numB n = (ys ++ [m % 128 + 128]) ++ numB (m / 128)) := by rw [numB_great hlt] at hm; show numB n = _; rw [hm.out]; simp
      have e3 := or128 m
      go_wp2_with (go_at_call 118; refine (writeByte_any b a _ (m % 128 + 128) _ _ hWm ?_).mono ?_; (first | rfl | exact e3); rintro e w1 ⟨hK1, ⟨hf, rfl, hW1⟩ | ⟨hno, rfl⟩⟩)
      · go_roundw
        case rel => exact ⟨m / 128, ys ++ [m % 128 + 128], by go_num, e1, by omega, by rw [← List.append_assoc]; exact hW1, hK.trans hK1 (fun _ _ h => h)⟩
        case measure => simp [intOf]; omega
      · refine ⟨rfl, hK.trans hK1 (fun _ _ h => h), Or.inr ⟨?_, rfl⟩⟩
        rw [e1.out]; simp at hno ⊢; omega

end Go.Proofs.Ythjddpkegooobaa

/-
  WR2: the program's writer: words, values. Own work.
-/
namespace Go.Proofs.Ythjddpkegooobaa
open Go.RowKit

set_option maxRecDepth 100000 in
theorem word_byte (n : Int) (k : Nat) (hk : k < 8) : n / 2 ^ (8 * k) % 256 = ((u64n n / 256 ^ k % 256 : Nat) : Int) := by
  unfold u64n
  have h : k = 0 ∨ k = 1 ∨ k = 2 ∨ k = 3 ∨ k = 4 ∨ k = 5 ∨ k = 6 ∨ k = 7 := by omega
  rcases h with rfl | rfl | rfl | rfl | rfl | rfl | rfl | rfl <;> simp only [Nat.reduceMul, Int.reducePow, Nat.reducePow] <;> omega

set_option maxRecDepth 100000 in
theorem writeWord_any (b a : Nat) (xs : List Nat) (n : Int) (w : World) (hW : Wr w b a xs) (_hn : I64 n) :
    Calls Try.prog 63 #[.pointer (some ⟨b, 0, none⟩), .int .i64 n] w (WPost b a xs (lowB 8 (u64n n)) w) := by
  go_enter Try.func63, Try.ntmps63
  go_wp2
  go_loopw [5] (fun i ws => ∃ (k : Nat), i = .int .i64 k ∧ k ≤ 8 ∧ Wr ws b a (xs ++ lowB k (u64n n)) ∧ Kept (fun k => k = b ∨ k = a) w ws) (fun i _ => 8 - (intOf i).toNat)
  case atStart => exact ⟨0, rfl, by omega, by rw [lowB, List.append_nil]; exact hW, Kept.refl _ _⟩
  case round =>
    obtain ⟨k, rfl, hk, hWm, hK⟩ := hrel
    by_cases hlt : k < 8
    · have hd : (k : Int) < 8 := by omega
      go_wp2_with (go_at_call 118; refine (writeByte_any b a _ (u64n n / 256 ^ k % 256) _ _ hWm (word_byte n k hlt)).mono ?_; rintro e w1 ⟨hK1, ⟨hf, rfl, hW1⟩ | ⟨hno, rfl⟩⟩)
      · go_roundw
        case rel => exact ⟨k + 1, by go_num, by omega, by rw [lowB_snoc, ← List.append_assoc]; exact hW1, hK.trans hK1 (fun _ _ h => h)⟩
        case measure => simp [intOf]; omega
      · refine ⟨rfl, hK.trans hK1 (fun _ _ h => h), Or.inr ⟨?_, rfl⟩⟩
        rw [lowB_length]; simp [lowB_length] at hno; omega
    · obtain rfl : k = 8 := by omega
      go_wp2
      go_end0
      refine ⟨hK, Or.inl ⟨?_, rfl, hWm⟩⟩
      have := hWm.le
      simpa [List.length_append] using this

set_option maxRecDepth 100000 in
theorem xor_ones (x : Nat) (h : x < 18446744073709551616) : x ^^^ 18446744073709551615 = 18446744073709551615 - x := by
  have h1 := congrArg BitVec.toNat (BitVec.xor_allOnes (x := BitVec.ofNat 64 x))
  rw [BitVec.toNat_xor, BitVec.toNat_not, BitVec.toNat_allOnes, BitVec.toNat_ofNat, Nat.mod_eq_of_lt h] at h1
  exact h1
set_option maxRecDepth 100000 in
theorem zig_bits (n : Int) (hn : I64 n) : bits .xor .u64 (IntKind.u64.wrap (IntKind.u64.wrap n * 2)) (IntKind.u64.wrap (n / 9223372036854775808)) = (zig n : Int) := by
  unfold I64 at hn
  rw [IntKind.wrap_u64, IntKind.wrap_u64, IntKind.wrap_u64]
  unfold zig
  split
  · have e1 : n / 9223372036854775808 % 18446744073709551616 = 18446744073709551615 := by omega
    rw [e1, u64_xor _ _ (by omega) (by omega) (by omega) (by omega)]
    have e2 : (18446744073709551615 : Int).toNat = 18446744073709551615 := rfl
    rw [e2, xor_ones _ (by omega)]
    omega
  · have e1 : n / 9223372036854775808 % 18446744073709551616 = 0 := by omega
    rw [e1, u64_xor _ _ (by omega) (by omega) (by omega) (by omega)]
    have e2 : (0 : Int).toNat = 0 := rfl
    rw [e2, Nat.xor_zero]
    omega

set_option maxRecDepth 100000 in
theorem unsigned_any (n : Int) (w : World) (hn : I64 n) :
    Calls Try.prog 147 #[.int .i64 n] w fun e w' => e = .returned (.int .u64 (zig n : Int)) ∧ Below w.heap.size w w' := by
  have hz := zig_bits n hn
  go_enter Try.func147, Try.ntmps147
  go_wp2
  go_ret
  exact ⟨rfl, gre _⟩

end Go.Proofs.Ythjddpkegooobaa

/-
  PTRMAP: a map whose keys are pointers to blocks. Own work.
-/
namespace Go.Proofs.Ythjddpkegooobaa
open Go.RowKit

/-- a plain block of cells, none frozen -/
def CellsAt (w : World) (b : Nat) : Prop := ∃ c t, w.heap[b]? = some (.cells c t (0, 0))

abbrev ptr (b : Nat) : Value := .pointer (some ⟨b, 0, none⟩)

section
variable {P : Program} {w : World} {tp te : TypeId} {j : TypeInfo}

set_option maxRecDepth 100000 in
theorem equal_same (b : Nat) (hp : P.underlying tp = some (.pointer te)) (hte : P.info? te = some j) : (Op.equal tp (ptr b) (ptr b)).run P w = .ok true w := by
  have h : ∀ d : Nat, (Op.equalIn (d + 1) tp (ptr b) (ptr b)).run P w = .ok true w := fun d => by
    simp [Op.equalIn, run_underlying hp, sizeOf, typeInfo, hte, run_sameAddr_same]
  exact h 9999
set_option maxRecDepth 100000 in
theorem equal_other {b c : Nat} (hp : P.underlying tp = some (.pointer te)) (hte : P.info? te = some j) (hsz : j.size ≠ 0) (hne : b ≠ c) (hb : CellsAt w b) (hc : CellsAt w c) : (Op.equal tp (ptr b) (ptr c)).run P w = .ok false w := by
  obtain ⟨cb, tb, hb⟩ := hb
  obtain ⟨cc, tc, hc⟩ := hc
  have hn : (⟨b, 0, none⟩ : Addr) ≠ ⟨c, 0, none⟩ := fun e => hne (by have := congrArg Addr.block e; simpa using this)
  have h : ∀ d : Nat, (Op.equalIn (d + 1) tp (ptr b) (ptr c)).run P w = .ok false w := fun d => by
    simp [Op.equalIn, run_underlying hp, sizeOf, typeInfo, hte, hsz, run_sameAddr_other w hn hb hc]
  exact h 9999

set_option maxRecDepth 100000 in
theorem ask_none (hp : P.underlying tp = some (.pointer te)) (hte : P.info? te = some j) (hsz : j.size ≠ 0) {b : Nat} (hb : CellsAt w b) :
    ∀ (l : List MapEntry) (i : Nat), (∀ e, e ∈ l → ∃ c, e.key = ptr c ∧ c ≠ b ∧ CellsAt w c) → (Instr.findAsking tp (ptr b) l i).run P w = .ok none w
  | [], i, _ => by simp [Instr.findAsking]
  | e :: l, i, h => by
    obtain ⟨c, hk, hne, hc⟩ := h e (List.mem_cons_self ..)
    have ih := ask_none hp hte hsz hb l (i + 1) (fun e he => h e (List.mem_cons_of_mem _ he))
    unfold Instr.findAsking
    rw [hk]
    simp [equal_other hp hte hsz (Ne.symm hne) hb hc, ih]

set_option maxRecDepth 100000 in
theorem ask_some (hp : P.underlying tp = some (.pointer te)) (hte : P.info? te = some j) (hsz : j.size ≠ 0) {b : Nat} (hb : CellsAt w b) :
    ∀ (l : List MapEntry) (e : MapEntry) (r : List MapEntry) (i : Nat), (∀ e, e ∈ l → ∃ c, e.key = ptr c ∧ c ≠ b ∧ CellsAt w c) → e.key = ptr b → (Instr.findAsking tp (ptr b) (l ++ e :: r) i).run P w = .ok (some (i + l.length, e.val)) w
  | [], e, r, i, _, hk => by
    unfold Instr.findAsking
    simp only [List.nil_append]
    rw [hk]
    simp [equal_same b hp hte]
  | e' :: l, e, r, i, h, hk => by
    obtain ⟨c, hk', hne, hc⟩ := h e' (List.mem_cons_self ..)
    have ih := ask_some hp hte hsz hb l e r (i + 1) (fun e he => h e (List.mem_cons_of_mem _ he)) hk
    rw [List.cons_append]
    unfold Instr.findAsking
    rw [hk']
    simp [equal_other hp hte hsz (Ne.symm hne) hb hc, ih]
    omega

set_option maxRecDepth 100000 in
theorem findKey_ask (hp : P.underlying tp = some (.pointer te)) (b : Nat) (l : List MapEntry) (hl : ∀ e, e ∈ l → ∃ c, e.key = ptr c) : (Instr.findKey tp (ptr b) l).run P w = (Instr.findAsking tp (ptr b) l 0).run P w := by
  cases l with
  | nil => simp [Instr.findKey, run_underlying hp, Instr.findNow, Instr.findAsking]
  | cons e l =>
    obtain ⟨c, hk⟩ := hl e (List.mem_cons_self ..)
    simp [Instr.findKey, run_underlying hp, Instr.findNow, hk, Instr.sameNow]

set_option maxRecDepth 100000 in
theorem checkKey_ptr (hp : P.underlying tp = some (.pointer te)) (em : Bool) (n b : Nat) : (Instr.checkKey em (n + 1) tp (ptr b)).run P w = .ok () w := by
  unfold Instr.checkKey
  simp [run_underlying hp]
end

/-- block mb is a map that leads from each of these blocks to its place -/
def PMap (w : World) (mb : Nat) (ks : List Nat) : Prop :=
  ∃ es clock, w.heap[mb]? = some (.map es clock) ∧ es.toList.length = ks.length ∧ ∀ i, i < ks.length → ∃ e, es.toList[i]? = some e ∧ e.key = ptr ks[i]! ∧ e.val = .int .i64 (i : Int)

set_option maxRecDepth 100000 in
theorem PMap.lt {w : World} {mb : Nat} {ks : List Nat} (h : PMap w mb ks) : mb < w.heap.size := by
  obtain ⟨es, clock, hb, _⟩ := h
  exact (Array.getElem?_eq_some_iff.1 hb).1
set_option maxRecDepth 100000 in
theorem PMap.of_block {w w' : World} {mb : Nat} {ks : List Nat} (h : PMap w mb ks) (e : w'.heap[mb]? = w.heap[mb]?) : PMap w' mb ks := by
  obtain ⟨es, clock, hb, r⟩ := h
  exact ⟨es, clock, e.trans hb, r⟩
set_option maxRecDepth 100000 in
theorem PMap.kept {p : Nat → Prop} {w w' : World} {mb : Nat} {ks : List Nat} (h : PMap w mb ks) (k : Kept p w w') (hn : ¬ p mb) : PMap w' mb ks := h.of_block (k.block mb h.lt hn)

section
variable {P : Program} {w : World} {tm tp te ti : TypeId} {j : TypeInfo}

set_option maxRecDepth 100000 in
theorem PMap.mem {ks : List Nat} {es : Array MapEntry} (hl : es.toList.length = ks.length) (hE : ∀ i, i < ks.length → ∃ e, es.toList[i]? = some e ∧ e.key = ptr ks[i]! ∧ e.val = .int .i64 (i : Int)) :
    ∀ e, e ∈ es.toList → ∃ c, e.key = ptr c ∧ c ∈ ks := fun e he => by
  obtain ⟨i, hi, hie⟩ := List.getElem_of_mem he
  obtain ⟨e', h1, h2, _⟩ := hE i (by omega)
  rw [List.getElem?_eq_getElem hi, hie] at h1
  simp at h1
  subst h1
  exact ⟨ks[i]!, h2, mem_at (by omega)⟩

set_option maxRecDepth 100000 in
theorem run_lookup_none {mb : Nat} {ks : List Nat} (h : PMap w mb ks) (hm : P.underlying tm = some (.map tp ti)) (hp : P.underlying tp = some (.pointer te)) (hte : P.info? te = some j) (hsz : j.size ≠ 0) (hz : (zeroValue ti).run P w = .ok (.int .i64 0) w)
    {b : Nat} (hb : CellsAt w b) (hks : ∀ c, c ∈ ks → CellsAt w c) (hn : b ∉ ks) :
    (Instr.lookup tm (.map (some mb)) (ptr b) true).run P w = .ok (.tuple #[.int .i64 0, .bool false]) w := by
  obtain ⟨es, clock, hmb, hl, hE⟩ := h
  have hmem := PMap.mem hl hE
  have h1 := findKey_ask (P := P) (w := w) hp b es.toList (fun e he => let ⟨c, hc, _⟩ := hmem e he; ⟨c, hc⟩)
  have h2 := ask_none (P := P) (w := w) hp hte hsz hb es.toList 0 (fun e he => let ⟨c, hc, hcm⟩ := hmem e he; ⟨c, hc, fun e => hn (e ▸ hcm), hks c hcm⟩)
  rw [h2] at h1
  simp [Instr.lookup, run_underlying hm, MapKept.run_getObj_map hmb, checkKey_ptr hp _ 9999, h1, hz]

set_option maxRecDepth 100000 in
theorem run_lookup_some {mb : Nat} {ks : List Nat} (h : PMap w mb ks) (hm : P.underlying tm = some (.map tp ti)) (hp : P.underlying tp = some (.pointer te)) (hte : P.info? te = some j) (hsz : j.size ≠ 0)
    {b : Nat} (hb : CellsAt w b) (hks : ∀ c, c ∈ ks → CellsAt w c) (hnd : ks.Nodup) (hn : b ∈ ks) :
    (Instr.lookup tm (.map (some mb)) (ptr b) true).run P w = .ok (.tuple #[.int .i64 (ks.idxOf b : Nat), .bool true]) w := by
  obtain ⟨es, clock, hmb, hl, hE⟩ := h
  have hmem := PMap.mem hl hE
  have h1 := findKey_ask (P := P) (w := w) hp b es.toList (fun e he => let ⟨c, hc, _⟩ := hmem e he; ⟨c, hc⟩)
  have hi : ks.idxOf b < ks.length := List.idxOf_lt_length_of_mem hn
  obtain ⟨e, he, hek, hev⟩ := hE _ hi
  rw [getElem!_pos ks _ hi, List.getElem_idxOf hi] at hek
  have hsp : es.toList = es.toList.take (ks.idxOf b) ++ e :: es.toList.drop (ks.idxOf b + 1) := by
    obtain ⟨hlt, e1⟩ := List.getElem?_eq_some_iff.1 he
    rw [← e1, List.getElem_cons_drop, List.take_append_drop]
  have hpre : ∀ e, e ∈ es.toList.take (ks.idxOf b) → ∃ c, e.key = ptr c ∧ c ≠ b ∧ CellsAt w c := fun e' he' => by
    obtain ⟨i, hi', hie⟩ := List.getElem_of_mem he'
    have hil : i < ks.idxOf b := by have := hi'; simp at this; omega
    obtain ⟨e2, h3, h4, _⟩ := hE i (by omega)
    rw [List.getElem_take] at hie
    rw [List.getElem?_eq_getElem (by omega), hie] at h3
    simp at h3
    subst h3
    have hik : i < ks.length := by omega
    refine ⟨ks[i]!, h4, fun e => ?_, hks _ (mem_at hik)⟩
    rw [getElem!_pos ks i hik] at e
    have h9 := hnd.idxOf_getElem i hik
    rw [e] at h9
    omega
  have h2 := ask_some (P := P) (w := w) hp hte hsz hb (es.toList.take (ks.idxOf b)) e (es.toList.drop (ks.idxOf b + 1)) 0 hpre hek
  rw [← hsp] at h2
  rw [h2] at h1
  simp [Instr.lookup, run_underlying hm, MapKept.run_getObj_map hmb, checkKey_ptr hp _ 9999, h1, hev]

set_option maxRecDepth 100000 in
/-- a store at a key that is not there -/
theorem run_update_new {mb : Nat} {ks : List Nat} (h : PMap w mb ks) (hm : P.underlying tm = some (.map tp ti)) (hp : P.underlying tp = some (.pointer te)) (hte : P.info? te = some j) (hsz : j.size ≠ 0)
    {b : Nat} (hb : CellsAt w b) (hks : ∀ c, c ∈ ks → CellsAt w c) (hn : b ∉ ks) :
    ∃ w', (Instr.mapUpdate tm (.map (some mb)) (ptr b) (.int .i64 (ks.length : Int))).run P w = .ok () w' ∧ PMap w' mb (ks ++ [b]) ∧ Kept (fun k => k = mb) w w' ∧ w'.heap.size = w.heap.size := by
  obtain ⟨es, clock, hmb, hl, hE⟩ := h
  have hmem := PMap.mem hl hE
  have h1 := findKey_ask (P := P) (w := w) hp b es.toList (fun e he => let ⟨c, hc, _⟩ := hmem e he; ⟨c, hc⟩)
  have h2 := ask_none (P := P) (w := w) hp hte hsz hb es.toList 0 (fun e he => let ⟨c, hc, hcm⟩ := hmem e he; ⟨c, hc, fun e => hn (e ▸ hcm), hks c hcm⟩)
  rw [h2] at h1
  have hlt : mb < w.heap.size := (Array.getElem?_eq_some_iff.1 hmb).1
  refine ⟨{ w with heap := w.heap.setIfInBounds mb (.map (es.push { key := ptr b, val := .int .i64 (ks.length : Int), born := clock }) (clock + 1)) }, ?_, ?_, ?_, by simp⟩
  · simp [Instr.mapUpdate, run_underlying hm, MapKept.run_getObj_map hmb, checkKey_ptr hp _ 9999, h1, MapKept.run_setObj_map _ hmb]
  · refine ⟨es.push { key := ptr b, val := .int .i64 (ks.length : Int), born := clock }, clock + 1, (by simp [hlt]), by simpa using hl, fun i hi => ?_⟩
    by_cases e : i < ks.length
    · obtain ⟨en, h3, h4, h5⟩ := hE i e
      refine ⟨en, ?_, ?_, h5⟩
      · rw [Array.toList_push, List.getElem?_append_left (by omega)]; exact h3
      · rw [h4, getElem!_pos ks i e, getElem!_pos (ks ++ [b]) i hi, List.getElem_append_left e]
    · have ei : i = ks.length := by simp at hi; omega
      subst ei
      refine ⟨_, by rw [Array.toList_push, List.getElem?_append_right (by omega), hl]; simp; rfl, ?_, rfl⟩
      rw [getElem!_pos (ks ++ [b]) _ hi]
      simp
  · refine ⟨rfl, rfl, rfl, by simp, fun k hk hn => ?_⟩
    simp [Ne.symm hn]
end

end Go.Proofs.Ythjddpkegooobaa

/-
  SPECREN: the specification's renaming. Own work.
-/
namespace Go.Proofs.Ythjddpkegooobaa
open Go.RowKit

set_option maxRecDepth 100000 in
theorem info_int : (Try.prog.info? 3).map (fun i => (i.zero, i.size, i.bytes)) = some (some (.int .i64 0), 1, 8) := by kernel_rfl

/-- what the specification's renaming leaves -/
def RenPost (base n wb : Nat) (ord : List Nat) (v : GV) (oa : Option Addr) (w : World) (e : Ending) (w' : World) : Prop :=
  ∃ oa' ocap', e = .returned (.tuple #[(renVal ord v).val, .slice oa' (renOrd ord v).length ocap']) ∧ w'.rowIs wb 3 n (fun i => .int .i64 (whereOf (renOrd ord v) i)) ∧
    w'.ownsRow base 3 1 (.slice oa' (renOrd ord v).length ocap') (renOrd ord v).length (ints (renOrd ord v)) ∧
    (oa' = oa ∨ ∃ g, oa' = some ⟨g, 0, none⟩ ∧ w.heap.size ≤ g) ∧ Kept (fun k => k = wb ∨ oa = some ⟨k, 0, none⟩) w w'

set_option maxRecDepth 100000 in
theorem l1renamed_not (base n : Nat) (ord : List Nat) (v : GV) (wb : Nat) (oa : Option Addr) (ocap : Nat) (w : World) (hk : v.kind ≠ 4)
    (hw : w.rowIs wb 3 n (fun i => .int .i64 (whereOf ord i))) (ho : w.ownsRow base 3 1 (.slice oa ord.length ocap) ord.length (ints ord)) :
    Calls Try.prog 114 #[v.val, .slice (some ⟨wb, 0, none⟩) n n, .slice oa ord.length ocap] w (RenPost base n wb ord v oa w) := by
  obtain ⟨e1, e2⟩ := ren_not (ord := ord) hk
  have hne : (v.kind != 4) = true := by simpa using hk
  go_enter Try.func114, Try.ntmps114
  go_wp2
  exact bodyPost_ret (v := .tuple #[v.val, .slice oa ord.length ocap]) (by simp [results, Try.results114, go_sem]) rfl
    ⟨oa, ocap, by rw [e1, e2], by rw [e1]; exact (hw.alloc _).alloc _, by rw [e1]; exact (ho.alloc _).alloc _, Or.inl rfl, Kept.of_below (gal (gal (gre _) _) _) _⟩

set_option maxRecDepth 100000 in
theorem l1renamed_old (base n : Nat) (ord : List Nat) (m : Int) (t : ByteArray) (x : Nat) (wb : Nat) (oa : Option Addr) (ocap : Nat) (w : World) (hx : x ∈ ord) (hxn : x < n) (_hn : n ≤ 300)
    (hw : w.rowIs wb 3 n (fun i => .int .i64 (whereOf ord i))) (ho : w.ownsRow base 3 1 (.slice oa ord.length ocap) ord.length (ints ord)) :
    Calls Try.prog 114 #[(GV.mk 4 m t x).val, .slice (some ⟨wb, 0, none⟩) n n, .slice oa ord.length ocap] w (RenPost base n wb ord ⟨4, m, t, x⟩ oa w) := by
  obtain ⟨e1, e2⟩ := ren_old (ord := ord) (v := ⟨4, m, t, x⟩) rfl hx
  have hc := hw.cell hxn
  rw [whereOf_pos hx] at hc
  have hwl := hw.lt
  have hxi : (0 : Int) ≤ (x : Int) := by omega
  have hxj : (x : Int) < (n : Int) := by omega
  have h0 : (0 : Int) ≤ (ord.idxOf x : Int) := by omega
  go_enter Try.func114, Try.ntmps114
  go_wp2
  exact bodyPost_ret (v := .tuple #[(GV.mk 4 m t (ord.idxOf x : Nat)).val, .slice oa ord.length ocap]) (by simp [results, Try.results114, go_sem]) rfl
    ⟨oa, ocap, by rw [e1, e2]; rfl, by rw [e1]; exact (hw.alloc _).alloc _, by rw [e1]; exact (ho.alloc _).alloc _, Or.inl rfl, Kept.of_below (gal (gal (gre _) _) _) _⟩

set_option maxRecDepth 100000 in
theorem l1renamed_new (base n : Nat) (ord : List Nat) (m : Int) (t : ByteArray) (x : Nat) (wb : Nat) (oa : Option Addr) (ocap : Nat) (w : World) (hx : x ∉ ord) (hxn : x < n) (_hn : n ≤ 300) (hol : ord.length ≤ 300)
    (hwb : wb < base) (hbase : base ≤ w.heap.size)
    (hw : w.rowIs wb 3 n (fun i => .int .i64 (whereOf ord i))) (ho : w.ownsRow base 3 1 (.slice oa ord.length ocap) ord.length (ints ord)) :
    Calls Try.prog 114 #[(GV.mk 4 m t x).val, .slice (some ⟨wb, 0, none⟩) n n, .slice oa ord.length ocap] w (RenPost base n wb ord ⟨4, m, t, x⟩ oa w) := by
  obtain ⟨e1, e2⟩ := ren_new (ord := ord) (v := ⟨4, m, t, x⟩) rfl hx
  obtain ⟨i0, hi, hz0, hz1, hz2⟩ := info_parts info_int
  have hc := hw.cell hxn
  rw [whereOf_neg hx] at hc
  have hwl := hw.lt
  have hfr := hw.frozen x
  have hxi : (0 : Int) ≤ (x : Int) := by omega
  have hxj : (x : Int) < (n : Int) := by omega
  have hn0 : some w.heap.size ≠ (Value.slice oa ord.length ocap).ownBlock := fun e => by have := (ho.lt _ e.symm).2; omega
  have hn1 : some (w.heap.size + 1) ≠ (Value.slice oa ord.length ocap).ownBlock := fun e => by have := (ho.lt _ e.symm).2; omega
  have hn2 : some wb ≠ (Value.slice oa ord.length ocap).ownBlock := fun e => by have := (ho.lt _ e.symm).1; omega
  go_enter Try.func114, Try.ntmps114
  go_wp2_with (at_builtin; refine wpList_append_lies _ rfl (.tmp 25) (.tmp 28) 144 rfl base 3 i0 (.int .i64 0) 1 8 Try.underlying144 hi hz0 hz1 hz2 rfl (by decide) _ _ _ rfl ((((ownsRow_setCell_below ho hwb _).alloc _).alloc _).alloc _) ⟨w.heap.size + 1 + 1, 0, none⟩ 1 1 [.int .i64 (x : Int)] rfl rfl (World.news_of_block (cs := #[.int .i64 (x : Int)]) (t := 3) (fr := (0, 0)) (blk_new_at _ _ _ (by simp))) (by simp [Value.oneCell']) (by decide) (by unfold maxLen; omega) (by omega) (by simp; omega) (w.heap.size + 1 + 1 + 1) (by simp) ?_; intro g cap w1 hown1 hgrow hat hlt; have hr1 := (Kept.of_grown hgrow).rowIs ((((hw.set x (.int .i64 (ord.length : Int))).alloc _).alloc _).alloc _) (fun e => hn2 e.symm); have q2 : w1.cell? ⟨wb, x, none⟩ = some (.int .i64 (ord.length : Int)) := (hr1.cell hxn).trans (by rw [if_pos rfl]); obtain ⟨z0, k0, k1, k2, k3, kf⟩ := (((Four.new_at (w.setCell ⟨wb, x, none⟩ (.int .i64 (ord.length : Int))) ⟨4, m, t, x⟩ _ w.heap.size (by simp)).alloc _).alloc _).kept (Kept.of_grown hgrow) (fun e => hn0 e.symm); obtain ⟨z1, l0, l1, l2, l3, lf⟩ := ((Four.new_at _ ⟨0, 0, .empty, 0⟩ _ (w.heap.size + 1) (by simp)).alloc _).kept (Kept.of_grown hgrow) (fun e => hn1 e.symm))
  have e1' : renOrd ord ⟨4, m, t, x⟩ = ord ++ [x] := by simpa using e1
  have hl1 : (ord ++ [x]).length = ord.length + 1 := by simp
  have hK : Kept (fun k => k = wb ∨ oa = some ⟨k, 0, none⟩) w w1 :=
    ((((Kept.refl _ w).set (fun _ => Or.inl rfl) _).alloc _).alloc _).alloc _ |>.trans (Kept.of_grown hgrow) (fun k _ hq => Or.inr (owns_addr ho hq))
  have hg : w.heap.size ≠ g ∧ w.heap.size + 1 ≠ g ∧ (some ⟨g, 0, none⟩ = oa ∨ w.heap.size ≤ g) := by
    rcases hat with h | h
    · have h1 := ho.lt g h
      have h2 := owns_addr ho h
      exact ⟨by omega, by omega, Or.inl h2.symm⟩
    · exact ⟨by omega, by omega, Or.inr (by omega)⟩
  have hQ : Kept (fun k => k = w.heap.size ∨ k = w.heap.size + 1) w1 (((((w1.setCell ⟨w.heap.size, 3, none⟩ (.int .i64 (ord.length : Int))).setCell ⟨w.heap.size + 1, 0, none⟩ (.int .i64 4)).setCell ⟨w.heap.size + 1, 1, none⟩ (.int .i64 m)).setCell ⟨w.heap.size + 1, 2, none⟩ (.string t)).setCell ⟨w.heap.size + 1, 3, none⟩ (.int .i64 (ord.length : Int))) :=
    (((((Kept.refl _ w1).set (fun _ => Or.inl rfl) _).set (fun _ => Or.inr rfl) _).set (fun _ => Or.inr rfl) _).set (fun _ => Or.inr rfl) _).set (fun _ => Or.inr rfl) _
  refine bodyPost_ret (v := .tuple #[(GV.mk 4 m t (ord.length : Nat)).val, .slice (some ⟨g, 0, none⟩) (ord.length + 1) cap]) (by simp [results, Try.results114, go_sem, l0, l1, l2, l3]) rfl
    ⟨some ⟨g, 0, none⟩, cap, by rw [e1', e2, hl1], ?_, ?_, hg.2.2.elim (fun h => Or.inl h) (fun h => Or.inr ⟨g, rfl, h⟩), hK.trans hQ (fun k hk hq => by omega)⟩
  · rw [e1']
    exact (hQ.rowIs hr1 (by omega)).congr fun j _ => by rw [whereOf_snoc hx]; split <;> rfl
  · rw [e1', hl1]
    have h3 := hQ.owns hown1 (fun k hk => by simp [Value.ownBlock] at hk; omega)
    simpa [ints] using h3

end Go.Proofs.Ythjddpkegooobaa

/-
  SPECREN2: the specification's renaming, of whatever value that is well made. Own work.
-/
namespace Go.Proofs.Ythjddpkegooobaa
open Go.RowKit

theorem l1renamed_any (base n : Nat) (ord : List Nat) (v : GV) (wb : Nat) (oa : Option Addr) (ocap : Nat) (w : World) (hv : okV n v = true) (hinv : InvO n ord) (hn : n ≤ 300) (hwb : wb < base) (hbase : base ≤ w.heap.size)
    (hw : w.rowIs wb 3 n (fun i => .int .i64 (whereOf ord i))) (ho : w.ownsRow base 3 1 (.slice oa ord.length ocap) ord.length (ints ord)) :
    Calls Try.prog 114 #[v.val, .slice (some ⟨wb, 0, none⟩) n n, .slice oa ord.length ocap] w (RenPost base n wb ord v oa w) := by
  by_cases hk : v.kind = 4
  · have hb := okV_node hv hk
    obtain ⟨k, m, t, x⟩ := v
    obtain rfl : k = 4 := hk
    obtain ⟨y, rfl⟩ := Int.eq_ofNat_of_zero_le hb.1
    have hy : y < n := by have := hb.2; simpa using this
    by_cases hm : y ∈ ord
    · exact l1renamed_old base n ord m t y wb oa ocap w hm hy hn hw ho
    · exact l1renamed_new base n ord m t y wb oa ocap w hm hy hn (Nat.le_trans hinv.le hn) hwb hbase hw ho
  · exact l1renamed_not base n ord v wb oa ocap w hk hw ho

end Go.Proofs.Ythjddpkegooobaa

/-
  OK3: graphs that are well made: the program's word. Own work.
-/
namespace Go.Proofs.Ythjddpkegooobaa
open Go.RowKit

set_option maxRecDepth 100000 in
theorem okG_long {g : GG} (h : 300 < g.nodes.length) : okG g = false := by
  unfold okG; rw [decide_eq_false (by omega)]; rfl
theorem okG_root {g : GG} (h : okV g.nodes.length g.root = false) : okG g = false := by
  unfold okG; rw [h, Bool.and_false]; rfl
set_option maxRecDepth 100000 in
theorem okG_nodes {g : GG} (h : g.nodes.length ≤ 300) (hr : okV g.nodes.length g.root = true) : okG g = g.nodes.all (okN g.nodes.length) := by
  unfold okG; rw [decide_eq_true h, hr]; rfl

set_option maxRecDepth 100000 in
theorem implGraphOk_any (a : Option Addr) (cap : Nat) (g : GG) (w : World) (hg : g.Ok) (ha : NodesAt w.heap.size w a g.nodes) :
    Calls Try.prog 44 #[g.val a cap] w fun e w' => e = .returned (.bool (okG g)) ∧ Below w.heap.size w w' := by
  by_cases hlen : 300 < g.nodes.length
  · have hk : Hid _ := okG_long hlen
    go_enter Try.func44, Try.ntmps44
    go_wp2
    go_ret
    exact ⟨ret_bool hk.out.symm, gal (gre _) _⟩
  · have t0 : decide (300 < (g.nodes.length : Int)) = false := decide_eq_false (by omega)
    cases hr : okV g.nodes.length g.root with
    | false =>
      have hk : Hid _ := okG_root hr
      go_enter Try.func44, Try.ntmps44
      go_wp2_with (go_at_call 102; refine (implVal_any g.nodes.length g.root _).mono ?_; rintro e w' ⟨rfl, hb'⟩)
      go_ret
      exact ⟨ret_bool hk.out.symm, gca (gal (gre _) _) hb'⟩
    | true =>
      have hk : Hid _ := okG_nodes (by omega) hr
      go_enter Try.func44, Try.ntmps44
      go_wp2_with (go_at_call 102; refine (implVal_any g.nodes.length g.root _).mono ?_; rintro e w' ⟨rfl, hb'⟩; obtain ⟨hc, hf⟩ := bcell hb')
      have hz : w.heap.size < w'.heap.size := by have := hb'.size; simp at this; omega
      have hbx : w'.cell? ⟨w.heap.size, 4, none⟩ = some (.slice a g.nodes.length cap) := by rw [hc _ _ (by simp)]; simp
      have hB : Below w.heap.size w w' := gca (gal (gre _) _) hb'
      clear hc hf hb'
      go_loopw [21] (fun i wr => ∃ k : Nat, k ≤ g.nodes.length ∧ i = .int .i64 k ∧ (g.nodes.take k).all (okN g.nodes.length) = true ∧ w'.heap.size ≤ wr.heap.size ∧ wr.cell? ⟨w.heap.size, 4, none⟩ = some (.slice a g.nodes.length cap) ∧ Below w.heap.size w wr) (fun i _ => g.nodes.length - (intOf i).toNat)
      case atStart => exact ⟨0, Nat.zero_le _, rfl, by simp, Nat.le_refl _, hbx, hB⟩
      case round =>
        clear hbx hB
        obtain ⟨k, hk', rfl, hall, hsz, hbx, hb⟩ := hrel
        have hz' : w.heap.size < wr.heap.size := by omega
        by_cases hlt : k < g.nodes.length
        · obtain ⟨n, b, off, av, cv, hvk, hvm, rfl, hbs, hva⟩ := ha.get hlt
          have hva := hva.below hb hbs
          have c0 := hva.tag
          have c1 := hva.sl
          have hv1 : ValsAt wr.heap.size wr av n.vals := hva.vals.mono hb.size
          have hall' : Hid _ := hall
          clear hall
          cases hr2 : okN g.nodes.length n with
          | false =>
            have hf : Hid (g.nodes.all (okN g.nodes.length) = false) := all_false_at hlt (by rw [← hvk.out]; exact hr2)
            go_wp2_with (go_at_call 103; refine (implNode_any g.nodes.length n av cv _ (hg.nodes n hvm).len (hv1.grow (gal (gre _) _))).mono ?_; rintro e w'' ⟨rfl, hb''⟩)
            go_ret
            exact ⟨ret_bool (by rw [hk.out, hf.out]), gca (gal hb _) hb''⟩
          | true =>
            have hf : Hid ((g.nodes.take (k + 1)).all (okN g.nodes.length) = true) := all_take_succ hlt hall'.out (by rw [← hvk.out]; exact hr2)
            go_wp2_with (go_at_call 103; refine (implNode_any g.nodes.length n av cv _ (hg.nodes n hvm).len (hv1.grow (gal (gre _) _))).mono ?_; rintro e w'' ⟨rfl, hb''⟩)
            go_roundw
            case rel =>
              have hG : Below wr.heap.size wr w'' := gca (gal (gre _) _) hb''
              exact ⟨k + 1, by omega, by go_num, hf.out, Nat.le_trans hsz hG.size, cell_later hG hbx, gca (gal hb _) hb''⟩
            case measure => simp [intOf]; omega
        · have e : k = g.nodes.length := by omega
          have hall' : Hid (g.nodes.all (okN g.nodes.length) = true) := by rw [e, List.take_length] at hall; exact hall
          clear hall
          go_wp2
          go_ret
          exact ⟨ret_bool (by rw [hk.out, hall'.out]), hb⟩

end Go.Proofs.Ythjddpkegooobaa

/-
  OK4: graphs that are well made: the specification's word. Own work.
-/
namespace Go.Proofs.Ythjddpkegooobaa
open Go.RowKit

/-- a graph's own variable: five cells -/
structure GBox (w : World) (b : Nat) (g : GG) (a : Option Addr) (cap : Nat) : Prop where
  lt : b < w.heap.size
  kind : w.cell? ⟨b, 0, none⟩ = some (.int .i64 g.root.kind)
  num : w.cell? ⟨b, 1, none⟩ = some (.int .i64 g.root.num)
  text : w.cell? ⟨b, 2, none⟩ = some (.string g.root.text)
  node : w.cell? ⟨b, 3, none⟩ = some (.int .i64 g.root.node)
  sl : w.cell? ⟨b, 4, none⟩ = some (.slice a g.nodes.length cap)

set_option maxRecDepth 100000 in
theorem GBox.grow {w w' : World} {b : Nat} {g : GG} {a : Option Addr} {cap : Nat} (h : GBox w b g a cap) (hb : Below w.heap.size w w') : GBox w' b g a cap :=
  ⟨Nat.lt_of_lt_of_le h.lt hb.size, cell_later hb h.kind, cell_later hb h.num, cell_later hb h.text, cell_later hb h.node, cell_later hb h.sl⟩

set_option maxRecDepth 100000 in
theorem GBox.new (w : World) (g : GG) (a : Option Addr) (cap : Nat) (t : TypeId) :
    GBox (w.alloc (.cells #[.int .i64 g.root.kind, .int .i64 g.root.num, .string g.root.text, .int .i64 g.root.node, .slice a g.nodes.length cap] t)) w.heap.size g a cap :=
  ⟨by simp, by simp, by simp, by simp, by simp, by simp⟩

set_option maxHeartbeats 1000000 in
set_option maxRecDepth 100000 in
theorem specGraphOk_any (a : Option Addr) (cap : Nat) (g : GG) (w : World) (hg : g.Ok) (ha : NodesAt w.heap.size w a g.nodes) :
    Calls Try.prog 42 #[g.val a cap] w fun e w' => e = .returned (.bool (okG g)) ∧ Below w.heap.size w w' := by
  by_cases hlen : 300 < g.nodes.length
  · have hk : Hid _ := okG_long hlen
    have t0 : decide (300 < (g.nodes.length : Int)) = true := decide_eq_true (by omega)
    go_enter Try.func42, Try.ntmps42
    go_wp2
    go_ret
    exact ⟨ret_bool hk.out.symm, gal (gre _) _⟩
  · have t0 : decide (300 < (g.nodes.length : Int)) = false := decide_eq_false (by omega)
    cases hr : okV g.nodes.length g.root with
    | false =>
      have hk : Hid _ := okG_root hr
      go_enter Try.func42, Try.ntmps42
      go_wp2_with (go_at_call 99; refine (specVal_any a cap g g.root _).mono ?_; rintro e w' ⟨rfl, hb'⟩)
      go_ret
      exact ⟨ret_bool hk.out.symm, gca (gal (gre _) _) hb'⟩
    | true =>
      have hk : Hid _ := okG_nodes (by omega) hr
      go_enter Try.func42, Try.ntmps42
      go_wp2_with (go_at_call 99; refine (specVal_any a cap g g.root _).mono ?_; rintro e w' ⟨rfl, hb'⟩; obtain ⟨hc, hf⟩ := bcell hb')
      have hbx : GBox w' w.heap.size g a cap := (GBox.new w g a cap _).grow hb'
      have hB : Below w.heap.size w w' := gca (gal (gre _) _) hb'
      have hle300 : g.nodes.length ≤ 300 := by omega
      clear hc hf hb' hlen
      go_loopw [21] (fun i wr => ∃ k : Nat, k ≤ g.nodes.length ∧ i = .int .i64 k ∧ (g.nodes.take k).all (okN g.nodes.length) = true ∧ GBox wr w.heap.size g a cap ∧ Below w.heap.size w wr) (fun i _ => g.nodes.length - (intOf i).toNat)
      case atStart => exact ⟨0, Nat.zero_le _, rfl, by simp, hbx, hB⟩
      case round =>
        clear hbx hB
        obtain ⟨k, hk', rfl, hall, hbx, hb⟩ := hrel
        have hz' := hbx.lt
        by_cases hlt : k < g.nodes.length
        · obtain ⟨n, b, off, av, cv, hvk, hvm, rfl, hbs, hva⟩ := ha.get hlt
          have hva := hva.below hb hbs
          have c0 := hva.tag
          have c1 := hva.sl
          have hv1 : ValsAt wr.heap.size wr av n.vals := hva.vals.mono hb.size
          have hnl := (hg.nodes n hvm).len
          unfold maxLen at hnl
          have hall' : Hid _ := hall
          clear hall hva
          by_cases hok : 0 ≤ n.tag ∧ n.tag ≤ 1000 ∧ n.vals.length ≤ 100
          · have hkv : Hid _ := okN_vals (n := g.nodes.length) hok
            obtain ⟨h1, h2, h3⟩ := hok
            have u0 : decide (n.tag < 0) = false := decide_eq_false (by omega)
            have u1 : decide (1000 < n.tag) = false := decide_eq_false (by omega)
            have u2 : decide (100 < (n.vals.length : Int)) = false := decide_eq_false (by omega)
            go_wp2
            have hB1 : Below wr.heap.size wr (wr.alloc (.cells #[.int .i64 n.tag, .slice av n.vals.length cv] 84)) := gal (gre _) _
            go_loopw [42] (fun i ws => ∃ j : Nat, j ≤ n.vals.length ∧ i = .int .i64 j ∧ (n.vals.take j).all (okV g.nodes.length) = true ∧ Below wr.heap.size wr ws) (fun i _ => n.vals.length - (intOf i).toNat)
            case atStart => exact ⟨0, Nat.zero_le _, rfl, by simp, hB1⟩
            case round =>
              obtain ⟨j, hj, rfl, hall2, hb2⟩ := hrel
              clear hB1
              have hbx2 := hbx.grow hb2
              have hz2 := hbx2.lt
              have e0 := hbx2.kind
              have e1 := hbx2.num
              have e2 := hbx2.text
              have e3 := hbx2.node
              have e4 := hbx2.sl
              by_cases hjl : j < n.vals.length
              · obtain ⟨v, bb, oo, hvj, hvm2, rfl, hbs2, hva2⟩ := hv1.get hjl
                have hva2 := hva2.below hb2 hbs2
                have q0 := hva2.kind
                have q1 := hva2.num
                have q2 := hva2.text
                have q3 := hva2.node
                have hall2' : Hid _ := hall2
                clear hall2 hva2
                cases hr2 : okV g.nodes.length v with
                | false =>
                  have hf : Hid (g.nodes.all (okN g.nodes.length) = false) := all_false_at hlt (by rw [← hvk.out, hkv.out]; exact all_false_at hjl (by rw [← hvj.out]; exact hr2))
                  go_wp2_with (go_at_call 99; refine (specVal_any _ cap g v _).mono ?_; rintro e w'' ⟨rfl, hb''⟩)
                  go_ret
                  exact ⟨ret_bool (by rw [hk.out, hf.out]), gca (gal (gca hb hb2) _) hb''⟩
                | true =>
                  have hf : Hid ((n.vals.take (j + 1)).all (okV g.nodes.length) = true) := all_take_succ hjl hall2'.out (by rw [← hvj.out]; exact hr2)
                  go_wp2_with (go_at_call 99; refine (specVal_any _ cap g v _).mono ?_; rintro e w'' ⟨rfl, hb''⟩)
                  go_roundw
                  case rel => exact ⟨j + 1, by omega, by go_num, hf.out, gca (gal hb2 _) hb''⟩
                  case measure => simp [intOf]; omega
              · have e : j = n.vals.length := by omega
                have hf : Hid ((g.nodes.take (k + 1)).all (okN g.nodes.length) = true) := all_take_succ hlt hall'.out (by rw [← hvk.out, hkv.out]; rw [e, List.take_length] at hall2; exact hall2)
                clear hall2
                go_wp2
                go_roundw
                case rel => exact ⟨k + 1, by omega, by go_num, hf.out, hbx2, gca hb hb2⟩
                case measure => simp [intOf]; omega
          · have hkf : Hid (g.nodes.all (okN g.nodes.length) = false) := all_false_at hlt (by rw [← hvk.out]; exact okN_false (by omega))
            go_wp2
            all_goals first | (go_ret; exact ⟨ret_bool (by rw [hk.out, hkf.out]), gal hb _⟩) | (exfalso; omega)
        · have e : k = g.nodes.length := by omega
          have hall' : Hid (g.nodes.all (okN g.nodes.length) = true) := by rw [e, List.take_length] at hall; exact hall
          clear hall
          go_wp2
          go_ret
          exact ⟨ret_bool (by rw [hk.out, hall'.out]), hb⟩

end Go.Proofs.Ythjddpkegooobaa

/-
  TO: the laws' copies. Own work.
-/
namespace Go.Proofs.Ythjddpkegooobaa
open Go.RowKit

set_option maxRecDepth 100000 in
theorem info_implVal : (Try.prog.info? 24).map (fun i => (i.zero, i.size, i.bytes)) = some (some (.agg #[.int .i64 0, .int .i64 0, .string .empty, .int .i64 0]), 4, 40) := by kernel_rfl

/-- the first k values are laid -/
def ValsIn (f : Nat → Value) (vs : List GV) (k : Nat) : Prop :=
  ∀ i, i < k → f (i * 4) = .int .i64 vs[i]!.kind ∧ f (i * 4 + 1) = .int .i64 vs[i]!.num ∧ f (i * 4 + 2) = .string vs[i]!.text ∧ f (i * 4 + 3) = .int .i64 vs[i]!.node

set_option maxRecDepth 100000 in
theorem ValsIn.at_ {w : World} {b t n : Nat} {f : Nat → Value} {vs : List GV} (h : ValsIn f vs vs.length) (hr : w.rowIs b t n f) (hn : n = vs.length * 4) {B : Nat} (hB : b < B) : ValsAt B w (some ⟨b, 0, none⟩) vs := fun i hi => by
  obtain ⟨h0, h1, h2, h3⟩ := h i hi
  refine ⟨b, 0, rfl, hB, ?_, ?_, ?_, ?_⟩
  · rw [← h0, Nat.zero_add]; exact hr.cell (by omega)
  · rw [← h1, Nat.zero_add]; exact hr.cell (by omega)
  · rw [← h2, Nat.zero_add]; exact hr.cell (by omega)
  · rw [← h3, Nat.zero_add]; exact hr.cell (by omega)

set_option maxRecDepth 100000 in
theorem ValsIn.step {f : Nat → Value} {vs : List GV} {k : Nat} {v : GV} (h : ValsIn f vs k) (hv : Hid (v = vs[k]!)) :
    ValsIn (fun j => if j = k * 4 + 3 then .int .i64 v.node else if j = k * 4 + 2 then .string v.text else if j = k * 4 + 1 then .int .i64 v.num else if j = k * 4 then .int .i64 v.kind else f j) vs (k + 1) := fun i hi => by
  have e := hv.out
  by_cases hk : i = k
  · subst hk; subst e; simp
  · obtain ⟨h0, h1, h2, h3⟩ := h i (by omega)
    refine ⟨?_, ?_, ?_, ?_⟩ <;> dsimp only
    · rw [if_neg (by omega), if_neg (by omega), if_neg (by omega), if_neg (by omega)]; exact h0
    · rw [if_neg (by omega), if_neg (by omega), if_neg (by omega), if_neg (by omega)]; exact h1
    · rw [if_neg (by omega), if_neg (by omega), if_neg (by omega), if_neg (by omega)]; exact h2
    · rw [if_neg (by omega), if_neg (by omega), if_neg (by omega), if_neg (by omega)]; exact h3

/-- values that lie in a row of their own -/
def OwnVals (w : World) (b : Nat) (vs : List GV) : Prop := ∃ f, w.rowIs b 24 (vs.length * 4) f ∧ ValsIn f vs vs.length

set_option maxRecDepth 100000 in
theorem OwnVals.lt {w : World} {b : Nat} {vs : List GV} (h : OwnVals w b vs) : b < w.heap.size := by obtain ⟨f, hr, _⟩ := h; exact hr.lt
theorem OwnVals.at_ {w : World} {b : Nat} {vs : List GV} (h : OwnVals w b vs) {B : Nat} (hB : b < B) : ValsAt B w (some ⟨b, 0, none⟩) vs := by
  obtain ⟨f, hr, hi⟩ := h
  exact hi.at_ hr rfl hB
set_option maxRecDepth 100000 in
theorem OwnVals.of_block {w w' : World} {b : Nat} {vs : List GV} (h : OwnVals w b vs) (e : w'.heap[b]? = w.heap[b]?) : OwnVals w' b vs := by
  obtain ⟨f, hr, hi⟩ := h
  exact ⟨f, hr.of_block e, hi⟩

set_option maxRecDepth 100000 in
theorem OwnVals.set {w : World} {b : Nat} {vs : List GV} (h : OwnVals w b vs) {p : Addr} (hp : b ≠ p.block) (u : Value) : OwnVals (w.setCell p u) b vs := h.of_block (Deep.blk_setCell_other _ _ _ _ hp)

abbrev nodeVal (n : GN) (a : Option Addr) (cap : Nat) : Value := .agg #[.int .i64 n.tag, .slice a n.vals.length cap]

/-- nodes that lie in a row of their own, their values in rows behind it -/
def NodesIn (w : World) (N : Nat) (f : Nat → Value) (bs : Nat → Nat) (ns : List GN) (k : Nat) : Prop :=
  ∀ i, i < k → f (i * 2) = .int .i64 ns[i]!.tag ∧ f (i * 2 + 1) = .slice (some ⟨bs i, 0, none⟩) ns[i]!.vals.length ns[i]!.vals.length ∧ OwnVals w (bs i) ns[i]!.vals ∧ N < bs i ∧ ∀ j, j < i → bs j < bs i

def OwnNodes (w : World) (N : Nat) (bs : Nat → Nat) (ns : List GN) : Prop := ∃ f, w.rowIs N 84 (ns.length * 2) f ∧ NodesIn w N f bs ns ns.length

set_option maxRecDepth 100000 in
theorem OwnNodes.at_ {w : World} {N : Nat} {bs : Nat → Nat} {ns : List GN} (h : OwnNodes w N bs ns) : NodesAt w.heap.size w (some ⟨N, 0, none⟩) ns := fun i hi => by
  obtain ⟨f, hr, hn⟩ := h
  obtain ⟨h0, h1, h2, h3, _⟩ := hn i hi
  refine ⟨N, 0, some ⟨bs i, 0, none⟩, ns[i]!.vals.length, rfl, hr.lt, ?_, ?_, h2.at_ h2.lt⟩
  · rw [← h0, Nat.zero_add]; exact hr.cell (by omega)
  · rw [← h1, Nat.zero_add]; exact hr.cell (by omega)

set_option maxRecDepth 100000 in
theorem OwnNodes.below {w w' : World} {N : Nat} {bs : Nat → Nat} {ns : List GN} (h : OwnNodes w N bs ns) (hb : Below w.heap.size w w') : OwnNodes w' N bs ns := by
  obtain ⟨f, hr, hn⟩ := h
  refine ⟨f, hr.of_block (hb.block _ hr.lt), fun i hi => ?_⟩
  obtain ⟨h0, h1, h2, h3, h4⟩ := hn i hi
  exact ⟨h0, h1, h2.of_block (hb.block _ h2.lt), h3, h4⟩

set_option maxRecDepth 100000 in
theorem OwnNodes.set {w : World} {N : Nat} {bs : Nat → Nat} {ns : List GN} (h : OwnNodes w N bs ns) {p : Addr} (hp : p.block < N) (u : Value) : OwnNodes (w.setCell p u) N bs ns := by
  obtain ⟨f, hr, hn⟩ := h
  refine ⟨f, hr.setOther (by omega) u, fun i hi => ?_⟩
  obtain ⟨h0, h1, h2, h3, h4⟩ := hn i hi
  exact ⟨h0, h1, h2.set (by omega) u, h3, h4⟩

set_option maxRecDepth 100000 in
theorem NodesIn.step {w w' : World} {N : Nat} {f : Nat → Value} {bs : Nat → Nat} {ns : List GN} {k b : Nat} {n : GN} (h : NodesIn w N f bs ns k) (hv : Hid (n = ns[k]!)) (hb : Below w.heap.size w w') (hN : N < w.heap.size)
    (hbb : w.heap.size ≤ b) (hown : OwnVals w' b n.vals) (u u' : Value) (o o' : Nat) :
    NodesIn ((w'.setCell ⟨N, o, none⟩ u).setCell ⟨N, o', none⟩ u') N
      (fun j => if j = k * 2 + 1 then .slice (some ⟨b, 0, none⟩) n.vals.length n.vals.length else if j = k * 2 then .int .i64 n.tag else f j) (fun i => if i = k then b else bs i) ns (k + 1) := fun i hi => by
  have e := hv.out
  by_cases hk : i = k
  · subst hk; subst e
    refine ⟨by simp, by simp, ?_, by simp; omega, fun j hj => ?_⟩
    · simp only [if_pos]
      exact (hown.set (by simp; omega) _).set (by simp; omega) _
    · simp only [if_pos, if_neg (show j ≠ i by omega)]
      have := (h j hj).2.2.1.lt
      omega
  · obtain ⟨h0, h1, h2, h3, h4⟩ := h i (by omega)
    refine ⟨?_, ?_, ?_, ?_, fun j hj => ?_⟩ <;> simp only [if_neg hk]
    · rw [if_neg (by omega), if_neg (by omega)]; exact h0
    · rw [if_neg (by omega), if_neg (by omega)]; exact h1
    · exact ((h2.of_block (hb.block _ h2.lt)).set (by simp; omega) _).set (by simp; omega) _
    · exact h3
    · rw [if_neg (show j ≠ k by omega)]; exact h4 j hj

set_option maxRecDepth 100000 in
theorem info_implNode : (Try.prog.info? 84).map (fun i => (i.zero, i.size, i.bytes)) = some (some (.agg #[.int .i64 0, .slice none 0 0]), 2, 32) := by kernel_rfl

end Go.Proofs.Ythjddpkegooobaa
