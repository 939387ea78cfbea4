import Derived.WalkLawsBesides
import Derived.Deep.QuietTactic
import Derived.Laws.BitsAllLaws
import Derived.Lib.Strings
import Derived.Lib.BufferWrite
import Derived.Lib.UnsafeStr
import Derived.Test.YtnbikemmnpldcabPartA

/-
  CUR: a place in bytes. Own work.
-/
namespace Go.Proofs.Ytnbikemmnpldcab
open Go.RowKit

/-- the panic by which an image is left -/
abbrev haltP : PanicEntry := { v := .iface 137 (.agg #[]), recovered := false }

/-- a cursor's two cells -/
structure Cur (w : World) (b : Nat) (sa : Option Addr) (len cap at_ : Nat) : Prop where
  lt : b < w.heap.size
  c0 : w.cell? ⟨b, 0, none⟩ = some (.slice sa len cap)
  c1 : w.cell? ⟨b, 1, none⟩ = some (.int .i64 (at_ : Int))
  f : ∀ o, w.frozen? ⟨b, o, none⟩ = false

set_option maxRecDepth 100000 in
theorem Cur.same {w w' : World} {b : Nat} {sa : Option Addr} {len cap at_ : Nat} (h : Cur w b sa len cap at_) (e : w'.heap[b]? = w.heap[b]?) (hlt : b < w'.heap.size) : Cur w' b sa len cap at_ :=
  ⟨hlt, (World.cell?_of_block (w := w) e).trans h.c0, (World.cell?_of_block (w := w) e).trans h.c1, fun o => (World.frozen?_of_block (w := w) e).trans (h.f o)⟩
theorem Cur.kept {p : Nat → Prop} {w w' : World} {b : Nat} {sa : Option Addr} {len cap at_ : Nat} (h : Cur w b sa len cap at_) (k : Kept p w w') (hn : ¬ p b) : Cur w' b sa len cap at_ := h.same (k.block b h.lt hn) (Nat.lt_of_lt_of_le h.lt k.size)
set_option maxRecDepth 100000 in
theorem Cur.set {w : World} {b : Nat} {sa : Option Addr} {len cap at_ : Nat} (h : Cur w b sa len cap at_) {z : Int} {n : Nat} (hz : z = (n : Int)) : Cur (w.setCell ⟨b, 1, none⟩ (.int .i64 z)) b sa len cap n := by
  subst hz
  refine ⟨by have := h.lt; simpa [World.setCell] using this, ?_, ?_, fun o => ?_⟩
  · rw [World.cell?_setCell_other _ _ _ _ (by simp)]; exact h.c0
  · exact World.cell?_setCell_same _ _ _ h.c1
  · rw [World.frozen?_setCell]; exact h.f o
set_option maxRecDepth 100000 in
theorem Cur.drewN {w : World} {b : Nat} {sa : Option Addr} {len cap at_ : Nat} (h : Cur w b sa len cap at_) (k : Nat) : Cur (w.drewN k) b sa len cap at_ := ⟨h.lt, h.c0, h.c1, h.f⟩
theorem Kept.drewN {p : Nat → Prop} {w w' : World} (h : Kept p w w') (k : Nat) : Kept p w (w'.drewN k) := ⟨h.os, h.tape, h.output, h.size, h.block⟩

/-- what 'next' leaves, where there is so much -/
def NextPost (b : Nat) (sa : Option Addr) (len cap at_ n : Nat) (w : World) (e : Ending) (w' : World) : Prop :=
  ∃ p c, e = .returned (.slice p n c) ∧ (0 < n → ∀ g off, sa = some ⟨g, off, none⟩ → p = some ⟨g, off + at_, none⟩) ∧ Cur w' b sa len cap (at_ + n) ∧ Kept (fun k => k = b) w w'

set_option maxRecDepth 100000 in
theorem next_fits (b : Nat) (sa : Option Addr) (len cap at_ n : Nat) (w : World) (hc : Cur w b sa len cap at_) (hlc : len ≤ cap) (hlm : len ≤ maxLen) (hn : at_ + n ≤ len) :
    Calls Try.prog 140 #[.pointer (some ⟨b, 0, none⟩), .int .i64 (n : Int)] w (NextPost b sa len cap at_ n w) := by
  obtain ⟨hlt, c0, c1, hf⟩ := id hc
  unfold maxLen at hlm
  have hd : ¬ ((len : Int) - (at_ : Int) < (n : Int)) := by omega
  by_cases hca : cap = at_
  · subst hca
    go_enter Try.func140, Try.ntmps140
    go_wp2_with (go_quiet (fail))
    go_ret
    refine ⟨_, _, rfl, fun h => ?_, ((hc.drewN _).set (by omega)).drewN _, (((Kept.refl (fun k => k = b) w).drewN _).set (fun _ => rfl) _).drewN _⟩
    exact absurd h (by omega)
  · go_enter Try.func140, Try.ntmps140
    go_wp2_with (go_quiet (fail))
    go_ret
    exact ⟨_, _, rfl, fun _ g off e => by subst e; simp [Addr.add], ((hc.drewN _).set (by omega)).drewN _, (((Kept.refl (fun k => k = b) w).drewN _).set (fun _ => rfl) _).drewN _⟩

/-- what 'next' leaves, where there is not -/
def HaltPost (w : World) (e : Ending) (w' : World) : Prop := e = .panicked [haltP] ∧ Below w.heap.size w w'

set_option maxRecDepth 100000 in
theorem next_not (b : Nat) (sa : Option Addr) (len cap at_ n : Nat) (w : World) (hc : Cur w b sa len cap at_) (hlm : len ≤ maxLen) (hat : at_ ≤ len) (hn : len < at_ + n) :
    Calls Try.prog 140 #[.pointer (some ⟨b, 0, none⟩), .int .i64 (n : Int)] w (HaltPost w) := by
  obtain ⟨hlt, c0, c1, hf⟩ := id hc
  unfold maxLen at hlm
  have hd : (len : Int) - (at_ : Int) < (n : Int) := by omega
  go_enter Try.func140, Try.ntmps140
  go_wp2_with (go_quiet (fail))
  exact ⟨rfl, rfl, (gre w).trans ⟨rfl, rfl, rfl, Nat.le_refl _, fun _ _ => rfl⟩⟩

set_option maxRecDepth 100000 in
theorem passed_any (b : Nat) (sa : Option Addr) (len cap at_ : Nat) (w : World) (hc : Cur w b sa len cap at_) (hlc : len ≤ cap) (_hlm : len ≤ maxLen) (hat : at_ ≤ len) :
    Calls Try.prog 72 #[.pointer (some ⟨b, 0, none⟩)] w fun e w' => e = .returned (.slice sa at_ cap) ∧ Below w.heap.size w w' := by
  obtain ⟨hlt, c0, c1, hf⟩ := id hc
  have h0 : (0 : Int) ≤ (at_ : Int) := by omega
  have h1 : (at_ : Int) ≤ (cap : Int) := by omega
  go_enter Try.func72, Try.ntmps72
  go_wp2_with (go_quiet (fail))
  go_ret
  exact ⟨rfl, (gre w).trans ⟨rfl, rfl, rfl, Nat.le_refl _, fun _ _ => rfl⟩⟩

end Go.Proofs.Ytnbikemmnpldcab

/-
  SUM: sums of bytes. Own work.
-/
namespace Go.Proofs.Ytnbikemmnpldcab
open Go.RowKit

/-- bytes at a place -/
def BytesAt (w : World) (a : Option Addr) (bs : List Nat) : Prop := ∀ i, i < bs.length → ∃ b off, a = some ⟨b, off, none⟩ ∧ w.cell? ⟨b, off + i, none⟩ = some (.int .u8 ((bs[i]! : Nat) : Int))

set_option maxRecDepth 100000 in
theorem BytesAt.get {w : World} {a : Option Addr} {bs : List Nat} (h : BytesAt w a bs) {k : Nat} (hk : k < bs.length) : ∃ x b off, Hid (x = bs[k]!) ∧ x ∈ bs ∧ a = some ⟨b, off, none⟩ ∧ w.cell? ⟨b, off + k, none⟩ = some (.int .u8 (x : Int)) := by
  obtain ⟨b, off, ha, hc⟩ := h k hk
  exact ⟨bs[k]!, b, off, rfl, mem_at hk, ha, hc⟩
set_option maxRecDepth 100000 in
theorem BytesAt.grow {w w' : World} {a : Option Addr} {bs : List Nat} (h : BytesAt w a bs) (hb : Below w.heap.size w w') : BytesAt w' a bs := fun i hi => by
  obtain ⟨b, off, ha, hc⟩ := h i hi
  exact ⟨b, off, ha, (World.cell?_of_block (w := w) (hb.block b (World.block_lt_of_cell? _ _ hc))).trans hc⟩

set_option maxRecDepth 100000 in
theorem sum_bits (h x : Nat) (hh : h < 18446744073709551616) (hx : x < 256) : IntKind.u64.wrap (bits .xor .u64 (h : Int) (x : Int) * 1099511628211) = (sumStep h x : Int) := by
  rw [u64_xor_nat h x hh (by omega), IntKind.wrap_u64]
  unfold sumStep
  omega

set_option maxRecDepth 100000 in
theorem implSumOf_any (a : Option Addr) (bs : List Nat) (cap : Nat) (w : World) (ha : BytesAt w a bs) (hl : bs.length ≤ maxLen) (hx : ∀ x, x ∈ bs → x < 256) :
    Calls Try.prog 71 #[.slice a bs.length cap] w fun e w' => e = .returned (.int .i64 (wrap64 (sumN bs : Int))) ∧ Below w.heap.size w w' := by
  unfold maxLen at hl
  go_enter Try.func71, Try.ntmps71
  go_wp2
  go_loopw [3, 8] (fun s i ws => ∃ (k h : Nat), i = .int .i64 k ∧ s = .int .u64 h ∧ k ≤ bs.length ∧ Hid (h = sumN (bs.take k)) ∧ Below w.heap.size w ws) (fun _ i _ => bs.length - (intOf i).toNat)
  case atStart => exact ⟨0, _, rfl, rfl, Nat.zero_le _, rfl, gre _⟩
  case round =>
    obtain ⟨k, h, rfl, rfl, hk, hh, hb⟩ := hrel
    by_cases hlt : k < bs.length
    · obtain ⟨x, b, off, hxk, hxm, rfl, hc⟩ := (ha.grow hb).get hlt
      have e0 : IntKind.u64.wrap (x : Int) = (x : Int) := by have := hx x hxm; rw [IntKind.wrap_u64]; omega
      have e1 := sum_bits h x (by rw [hh.out]; exact sumN_lt _) (hx x hxm)
      have e2 : Hid (sumStep h x = sumN (bs.take (k + 1))) := by show _ = _; rw [sumN_take_succ _ _ hlt, ← hxk.out, ← hh.out]
      go_wp2
      go_roundw
      case rel => exact ⟨k + 1, sumStep h x, by go_num, rfl, by omega, e2, hb⟩
      case measure => simp [intOf]; omega
    · obtain rfl : k = bs.length := by omega
      have e1 : Hid (sumN bs = h) := by show _ = _; rw [hh.out, List.take_length]
      go_wp2
      go_ret
      exact ⟨by rw [e1.out]; rfl, hb⟩

set_option maxRecDepth 100000 in
theorem l2sum_any (a : Option Addr) (bs : List Nat) (cap : Nat) (w : World) (ha : BytesAt w a bs) (hl : bs.length ≤ maxLen) (hx : ∀ x, x ∈ bs → x < 256) :
    Calls Try.prog 108 #[.slice a bs.length cap] w fun e w' => e = .returned (.int .u64 (sumN bs : Int)) ∧ Below w.heap.size w w' := by
  unfold maxLen at hl
  go_enter Try.func108, Try.ntmps108
  go_wp2
  go_loopw [3, 8] (fun s i ws => ∃ (k h : Nat), i = .int .i64 k ∧ s = .int .u64 h ∧ k ≤ bs.length ∧ Hid (h = sumN (bs.take k)) ∧ Below w.heap.size w ws) (fun _ i _ => bs.length - (intOf i).toNat)
  case atStart => exact ⟨0, _, rfl, rfl, Nat.zero_le _, rfl, gre _⟩
  case round =>
    obtain ⟨k, h, rfl, rfl, hk, hh, hb⟩ := hrel
    by_cases hlt : k < bs.length
    · obtain ⟨x, b, off, hxk, hxm, rfl, hc⟩ := (ha.grow hb).get hlt
      have e0 : IntKind.u64.wrap (x : Int) = (x : Int) := by have := hx x hxm; rw [IntKind.wrap_u64]; omega
      have e1 := sum_bits h x (by rw [hh.out]; exact sumN_lt _) (hx x hxm)
      have e2 : Hid (sumStep h x = sumN (bs.take (k + 1))) := by show _ = _; rw [sumN_take_succ _ _ hlt, ← hxk.out, ← hh.out]
      go_wp2
      go_roundw
      case rel => exact ⟨k + 1, sumStep h x, by go_num, rfl, by omega, e2, hb⟩
      case measure => simp [intOf]; omega
    · obtain rfl : k = bs.length := by omega
      have e1 : Hid (sumN bs = h) := by show _ = _; rw [hh.out, List.take_length]
      go_wp2
      go_ret
      exact ⟨by rw [e1.out]; rfl, hb⟩

end Go.Proofs.Ytnbikemmnpldcab

/-
  RD: the program's reader. Own work.
-/
namespace Go.Proofs.Ytnbikemmnpldcab
open Go.RowKit

/-- bytes at a place, below a bound -/
def BytesLow (B : Nat) (w : World) (a : Option Addr) (bs : List Nat) : Prop := ∀ i, i < bs.length → ∃ b off, a = some ⟨b, off, none⟩ ∧ b < B ∧ w.cell? ⟨b, off + i, none⟩ = some (.int .u8 ((bs[i]! : Nat) : Int))
set_option maxRecDepth 100000 in
theorem BytesLow.below {B : Nat} {w w' : World} {a : Option Addr} {bs : List Nat} (h : BytesLow B w a bs) (hb : Below B w w') : BytesLow B w' a bs := fun i hi => by
  obtain ⟨b, off, ha, hB, hc⟩ := h i hi
  exact ⟨b, off, ha, hB, (World.cell?_of_block (w := w) (hb.block b hB)).trans hc⟩
set_option maxRecDepth 100000 in
theorem BytesLow.at_ {B : Nat} {w : World} {a : Option Addr} {bs : List Nat} (h : BytesLow B w a bs) : BytesAt w a bs := fun i hi => by
  obtain ⟨b, off, ha, _, hc⟩ := h i hi
  exact ⟨b, off, ha, hc⟩
set_option maxRecDepth 100000 in
theorem BytesAt.low {w : World} {a : Option Addr} {bs : List Nat} (h : BytesAt w a bs) : BytesLow w.heap.size w a bs := fun i hi => by
  obtain ⟨b, off, ha, hc⟩ := h i hi
  exact ⟨b, off, ha, World.block_lt_of_cell? _ _ hc, hc⟩

/-- a reader that has so much left -/
structure Rd (w : World) (b : Nat) (sa : Option Addr) (cap : Nat) (bs r : List Nat) : Prop where
  ex : ∃ at_, Cur w b sa bs.length cap at_ ∧ at_ ≤ bs.length ∧ r = bs.drop at_
  low : BytesLow b w sa bs
  cap : bs.length ≤ cap
  len : bs.length ≤ 1048576
  byte : ∀ x, x ∈ bs → x < 256

set_option maxRecDepth 100000 in
theorem Rd.lt {w : World} {b : Nat} {sa : Option Addr} {cap : Nat} {bs r : List Nat} (h : Rd w b sa cap bs r) : b < w.heap.size := by obtain ⟨_, hc, _⟩ := h.ex; exact hc.lt
set_option maxRecDepth 100000 in
theorem Rd.kept {p : Nat → Prop} {w w' : World} {b : Nat} {sa : Option Addr} {cap : Nat} {bs r : List Nat} (h : Rd w b sa cap bs r) (k : Kept p w w') (hp : ∀ k, k ≤ b → ¬ p k) : Rd w' b sa cap bs r := by
  obtain ⟨at_, hc, ha, hr⟩ := h.ex
  exact ⟨⟨at_, hc.kept k (hp b (Nat.le_refl _)), ha, hr⟩, h.low.below (k.below (by have := hc.lt; omega) (fun k hk => hp k (by omega))), h.cap, h.len, h.byte⟩
set_option maxRecDepth 100000 in
theorem Rd.grow {w w' : World} {b : Nat} {sa : Option Addr} {cap : Nat} {bs r : List Nat} (h : Rd w b sa cap bs r) (k : Below w.heap.size w w') : Rd w' b sa cap bs r := h.kept (Kept.of_below k (fun _ => False)) (fun _ _ e => e)

/-- what a reader's call leaves -/
def RPost {α : Type} (f : Option (α × List Nat)) (enc : α → Value) (b : Nat) (sa : Option Addr) (cap : Nat) (bs : List Nat) (w : World) (e : Ending) (w' : World) : Prop :=
  Kept (fun k => k = b) w w' ∧ ((∃ x r', Hid (f = some (x, r')) ∧ e = .returned (enc x) ∧ Rd w' b sa cap bs r') ∨ (Hid (f = none) ∧ e = .panicked [haltP]))

def rdByte : List Nat → Option (Nat × List Nat)
  | [] => none
  | x :: r => some (x, r)

theorem hidx {α : Type} (x : α) : ∃ y, Hid (y = x) := ⟨x, rfl⟩
set_option maxRecDepth 100000 in
theorem drop_cons {bs : List Nat} {k : Nat} (h : k < bs.length) : bs.drop k = bs[k]! :: bs.drop (k + 1) := by
  rw [List.drop_eq_getElem_cons h, getElem!_pos bs k h]

set_option maxRecDepth 100000 in
theorem readByte_any (b : Nat) (sa : Option Addr) (cap : Nat) (bs r : List Nat) (w : World) (hR : Rd w b sa cap bs r) :
    Calls Try.prog 148 #[.pointer (some ⟨b, 0, none⟩)] w (RPost (rdByte r) (fun x => .int .u8 (x : Int)) b sa cap bs w) := by
  obtain ⟨⟨k, hC, hk, hr⟩, hlow, hcap, hlen, hbyte⟩ := hR
  by_cases hlt : k < bs.length
  · obtain ⟨x, hx⟩ := hidx bs[k]!
    have e1 : Hid (rdByte r = some (x, bs.drop (k + 1))) := by show _ = _; rw [hr, drop_cons hlt, hx.out]; rfl
    obtain ⟨ba, off, rfl, hba, hcell⟩ := hlow k hlt
    rw [← hx.out] at hcell
    go_enter Try.func148, Try.ntmps148
    go_wp2_with (go_at_call 140; refine (next_fits b _ bs.length cap k 1 _ hC hcap (by unfold maxLen; omega) (by omega)).mono ?_; rintro e w1 ⟨p, c, rfl, hp, hC1, hK1⟩; obtain rfl := hp (by omega) _ _ rfl; have hcell1 := hK1.cell hcell (by omega))
    go_ret
    exact ⟨hK1, Or.inl ⟨_, _, e1, rfl, ⟨⟨k + 1, hC1, by omega, rfl⟩, hlow.below (hK1.below (by have := hC.lt; omega) (fun k hk e => by omega)), hcap, hlen, hbyte⟩⟩⟩
  · have e1 : Hid (rdByte r = none) := by show _ = _; rw [hr, List.drop_of_length_le (by omega)]; rfl
    go_enter Try.func148, Try.ntmps148
    go_wp2_with (go_at_call 140; refine (next_not b _ bs.length cap k 1 _ hC (by unfold maxLen; omega) hk (by omega)).mono ?_; rintro e w1 ⟨rfl, hb⟩)
    exact ⟨rfl, Kept.of_below hb _, Or.inr ⟨e1, rfl⟩⟩

set_option maxRecDepth 100000 in
theorem conv_text {w : World} {a : Option Addr} {n c : Nat} {ys : List Nat} (h : BytesAt w a ys) (hn : ys.length = n) : (convert 28 9 (.slice a n c)).run Try.prog w = .ok (.string (strB ys)) w := by
  by_cases h0 : n = 0
  · subst h0
    have : ys = [] := List.eq_nil_of_length_eq_zero hn
    subst this
    cases a with
    | none =>
      rw [run_convert_bytes_nil w 28 5 Try.underlying28 Try.underlying5 0 c 9 Try.underlying9]
      rfl
    | some p =>
      obtain ⟨b, off, sp⟩ := p
      rw [run_convert_bytes_string w 28 9 5 _ 0 c Try.underlying28 Try.underlying5 Try.underlying9]
      have hl : (loadCells ⟨b, off, sp⟩ 0).run Try.prog w = .ok ((([] : List Int).map (Value.int .u8)).toArray) w := by simp [loadCells, loadCellsFrom]
      rw [run_bytesToString w _ 0 c [] hl]
      rfl
  · obtain ⟨b, off, rfl, _⟩ := h 0 (by omega)
    refine run_convert_bytes_arg w 28 5 Try.underlying28 Try.underlying5 b off n c (ys.map fun (x : Nat) => (x : Int)) (by rw [List.length_map]; exact hn) (fun i hi => ?_) 9 Try.underlying9
    obtain ⟨b', off', e, hc⟩ := h i (by omega)
    have e2 : b' = b ∧ off' = off := by simpa using e.symm
    obtain ⟨rfl, rfl⟩ := e2
    rw [hc, getElem!_pos ys i (by omega)]
    simp [List.getD, show i < ys.length by omega]

theorem take_bytes {w : World} {b : Nat} {sa p : Option Addr} {bs : List Nat} {k n : Nat} (hlow : BytesLow b w sa bs) (hkn : k + n ≤ bs.length) (hp : 0 < n → ∀ g off, sa = some ⟨g, off, none⟩ → p = some ⟨g, off + k, none⟩) : BytesAt w p ((bs.drop k).take n) := fun i hi => by
  rw [List.length_take, List.length_drop] at hi
  obtain ⟨ba, off, e, hba, hcell⟩ := hlow (k + i) (by omega)
  refine ⟨ba, off + k, hp (by omega) _ _ e, ?_⟩
  rw [Nat.add_assoc, hcell, getElem!_pos _ i (by rw [List.length_take, List.length_drop]; omega), getElem!_pos bs (k + i) (by omega)]
  simp

set_option maxRecDepth 100000 in
theorem readText_any (b : Nat) (sa : Option Addr) (cap : Nat) (bs r : List Nat) (n : Nat) (z : Int) (w : World) (hR : Rd w b sa cap bs r) (hz : z = (n : Int)) (hn : n ≤ 1048576) :
    Calls Try.prog 123 #[.pointer (some ⟨b, 0, none⟩), .int .i64 z] w (RPost (rdText n r) (fun x => .string x) b sa cap bs w) := by
  subst hz
  obtain ⟨⟨k, hC, hk, hr⟩, hlow, hcap, hlen, hbyte⟩ := hR
  have hrl : r.length = bs.length - k := by rw [hr, List.length_drop]
  by_cases hlt : k + n ≤ bs.length
  · have e1 : Hid (rdText n r = some (strB (r.take n), r.drop n)) := if_pos (by omega)
    go_enter Try.func123, Try.ntmps123
    go_wp2_with (go_at_call 140; refine (next_fits b _ bs.length cap k n _ hC hcap (by unfold maxLen; omega) hlt).mono ?_; rintro e w1 ⟨p, c, rfl, hp, hC1, hK1⟩; have hlow1 := hlow.below (hK1.below (show b ≤ w.heap.size by have := hC.lt; omega) (fun k hk e => by omega)); have hbt := take_bytes (n := n) hlow1 hlt hp; rw [← hr] at hbt; have hcv := conv_text (n := n) (c := c) hbt (by rw [List.length_take]; omega))
    go_ret
    exact ⟨hK1, Or.inl ⟨_, _, e1, by rw [hr]; rfl, ⟨⟨k + n, hC1, hlt, by rw [hr, List.drop_drop]⟩, hlow1, hcap, hlen, hbyte⟩⟩⟩
  · have e1 : Hid (rdText n r = none) := if_neg (by omega)
    go_enter Try.func123, Try.ntmps123
    go_wp2_with (go_at_call 140; refine (next_not b _ bs.length cap k n _ hC (by unfold maxLen; omega) hk (by omega)).mono ?_; rintro e w1 ⟨rfl, hb⟩)
    exact ⟨rfl, Kept.of_below hb _, Or.inr ⟨e1, rfl⟩⟩

theorem Rd.head {w : World} {b : Nat} {sa : Option Addr} {cap : Nat} {bs q r' : List Nat} {x : Nat} (h : Rd w b sa cap bs q) (hx : rdByte q = some (x, r')) : x < 256 ∧ q = x :: r' := by
  cases q with
  | nil => cases hx
  | cons y t =>
    have e : y = x ∧ t = r' := by simpa [rdByte] using hx
    obtain ⟨rfl, rfl⟩ := e
    obtain ⟨k, _, _, hr⟩ := h.ex
    refine ⟨h.byte y ?_, rfl⟩
    have h1 : y ∈ bs.drop k := by rw [← hr]; exact List.mem_cons_self ..
    exact List.mem_of_mem_drop h1
theorem or_form {n x s : Nat} (hn : n < 18446744073709551616) (hx : x < 256) : bits .or .u64 (n : Int) (IntKind.u64.wrap (IntKind.u64.wrap (bits .andNot .u8 (x : Int) 128) * 2 ^ min s 64)) = ((orU n (x % 128) s : Nat) : Int) := by
  have e1 : bits .andNot .u8 (x : Int) 128 = ((x % 128 : Nat) : Int) := by
    rw [u8_andNot _ _ (by omega) (by omega) (by omega) (by omega)]
    have h1 : (255 - (128 : Int).toNat) = 127 := rfl
    rw [h1, Int.toNat_natCast, nat_mask7]
  have e2 : IntKind.u64.wrap ((x % 128 : Nat) : Int) = ((x % 128 : Nat) : Int) := by rw [IntKind.wrap_u64]; omega
  have e3 : (((x % 128 : Nat) : Int) * 2 ^ min s 64) = ((x % 128 * 2 ^ min s 64 : Nat) : Int) := by push_cast; rfl
  have e4 : IntKind.u64.wrap ((x % 128 * 2 ^ min s 64 : Nat) : Int) = ((x % 128 * 2 ^ min s 64 % 18446744073709551616 : Nat) : Int) := by rw [IntKind.wrap_u64]; generalize x % 128 * 2 ^ min s 64 = y; omega
  rw [e1, e2, e3, e4, u64_or_nat n _ hn (Nat.mod_lt _ (by omega))]
  rfl
theorem orU_lt {n x s : Nat} (hn : n < 18446744073709551616) : orU n x s < 18446744073709551616 := by
  unfold orU
  exact Nat.or_lt_two_pow (n := 64) hn (Nat.mod_lt _ (by omega))

set_option maxRecDepth 100000 in
theorem readNumber_any (b : Nat) (sa : Option Addr) (cap : Nat) (bs r : List Nat) (w : World) (hR : Rd w b sa cap bs r) :
    Calls Try.prog 147 #[.pointer (some ⟨b, 0, none⟩)] w (RPost (rdNum 0 0 r) (fun x => .int .u64 (x : Int)) b sa cap bs w) := by
  go_enter Try.func147, Try.ntmps147
  go_wp2
  go_loopw [3, 4] (fun a c ws => ∃ (n s : Nat) (q : List Nat), a = .int .u64 n ∧ c = .int .i64 s ∧ n < 18446744073709551616 ∧ s + 7 * q.length ≤ 7 * bs.length ∧ Hid (rdNum 0 0 r = rdNum n s q) ∧ Rd ws b sa cap bs q ∧ Kept (fun k => k = b) w ws) (fun _ c _ => 7 * bs.length + 7 - (intOf c).toNat)
  case atStart =>
    refine ⟨0, 0, r, rfl, rfl, by omega, ?_, rfl, hR, Kept.refl _ _⟩
    obtain ⟨k, _, _, hr⟩ := hR.ex
    rw [hr, List.length_drop]; omega
  case round =>
    obtain ⟨n, s, q, rfl, rfl, hn, hs, hq, hRq, hK⟩ := hrel
    have hlen := hRq.len
    go_wp2_with (go_at_call 148; refine (readByte_any b sa cap bs q _ hRq).mono ?_; rintro e w1 ⟨hK1, ⟨x, r', hx, rfl, hR1⟩ | ⟨hno, rfl⟩⟩)
    · rename_i hlt
      obtain ⟨hx256, hqx⟩ := hRq.head hx.out
      have e5 : Hid (rdNum 0 0 r = some (orU n (x % 128) s, r')) := by show _ = _; rw [hq.out, hqx, rdNum, if_pos (by omega)]
      go_ret
      exact ⟨hK.trans hK1 (fun _ _ h => h), Or.inl ⟨_, r', e5, ret_int (or_form hn hx256), hR1⟩⟩
    · rename_i hlt
      obtain ⟨hx256, hqx⟩ := hRq.head hx.out
      have e5 : Hid (rdNum 0 0 r = rdNum (orU n (x % 128) s) (s + 7) r') := by show _ = _; rw [hq.out, hqx, rdNum, if_neg (by omega)]
      have hl2 : q.length = r'.length + 1 := by rw [hqx]; rfl
      refine ⟨⟨orU n (x % 128) s, s + 7, r', congrArg (Value.int .u64) (or_form hn hx256), by go_num, orU_lt hn, by omega, e5, hR1, hK.trans hK1 (fun _ _ h => h)⟩, ?_⟩
      simp [intOf]; omega
    · have e5 : Hid (rdNum 0 0 r = none) := by
        show _ = _
        rw [hq.out]
        cases q with
        | nil => rfl
        | cons y t => cases hno.out
      exact ⟨rfl, hK.trans hK1 (fun _ _ h => h), Or.inr ⟨e5, rfl⟩⟩

set_option maxRecDepth 100000 in
theorem readCount_any (b : Nat) (sa : Option Addr) (cap : Nat) (bs r : List Nat) (most : Nat) (z : Int) (w : World) (hR : Rd w b sa cap bs r) (hz : z = (most : Int)) (hm : most ≤ 1048576) :
    Calls Try.prog 124 #[.pointer (some ⟨b, 0, none⟩), .int .i64 z] w (RPost (rdCount most r) (fun x => .int .i64 (x : Int)) b sa cap bs w) := by
  subst hz
  have e6 : IntKind.u64.wrap (most : Int) = (most : Int) := by rw [IntKind.wrap_u64]; omega
  go_enter Try.func124, Try.ntmps124
  go_wp2_with (go_at_call 147; refine (readNumber_any b sa cap bs r _ hR).mono ?_; rintro e w1 ⟨hK1, ⟨x, r', hx, rfl, hR1⟩ | ⟨hno, rfl⟩⟩)
  · rename_i hgt
    have e5 : Hid (rdCount most r = none) := by show _ = _; unfold rdCount; rw [hx.out]; exact if_neg (by omega)
    exact ⟨rfl, hK1, Or.inr ⟨e5, rfl⟩⟩
  · rename_i hle
    have e5 : Hid (rdCount most r = some (x, r')) := by show _ = _; unfold rdCount; rw [hx.out]; exact if_pos (by omega)
    go_ret
    exact ⟨hK1, Or.inl ⟨x, r', e5, rfl, hR1⟩⟩
  · have e5 : Hid (rdCount most r = none) := by show _ = _; unfold rdCount; rw [hno.out]
    exact ⟨rfl, hK1, Or.inr ⟨e5, rfl⟩⟩

end Go.Proofs.Ytnbikemmnpldcab

/-
  RD2: the program's reader: words, values. Own work.
-/
namespace Go.Proofs.Ytnbikemmnpldcab
open Go.RowKit

theorem wrap64_eq (n : Int) : wrap64 n = IntKind.i64.wrap n := by rw [IntKind.wrap_i64]; unfold wrap64; omega
theorem orI_form {n : Int} {x i : Nat} (hx : x < 256) : bits .or .i64 n (wrap64 (wrap64 (x : Int) * 2 ^ (8 * i))) = orI n x i := by
  have e1 : wrap64 (x : Int) = (x : Int) := by unfold wrap64; omega
  rw [e1, wrap64_eq]; rfl

set_option maxRecDepth 100000 in
theorem readWord_any (b : Nat) (sa : Option Addr) (cap : Nat) (bs r : List Nat) (w : World) (hR : Rd w b sa cap bs r) :
    Calls Try.prog 150 #[.pointer (some ⟨b, 0, none⟩)] w (RPost (rdLow 8 0 0 r) (fun x => .int .i64 x) b sa cap bs w) := by
  go_enter Try.func150, Try.ntmps150
  go_wp2
  go_loopw [3, 5] (fun a c ws => ∃ (n : Int) (i : Nat) (q : List Nat), a = .int .i64 n ∧ c = .int .i64 i ∧ i ≤ 8 ∧ Hid (rdLow 8 0 0 r = rdLow (8 - i) i n q) ∧ Rd ws b sa cap bs q ∧ Kept (fun k => k = b) w ws) (fun _ c _ => 8 - (intOf c).toNat)
  case atStart => exact ⟨0, 0, r, rfl, rfl, by omega, rfl, hR, Kept.refl _ _⟩
  case round =>
    obtain ⟨n, i, q, rfl, rfl, hi, hq, hRq, hK⟩ := hrel
    by_cases hlt : i < 8
    · have hd : (i : Int) < 8 := by omega
      go_wp2_with (go_at_call 148; refine (readByte_any b sa cap bs q _ hRq).mono ?_; rintro e w1 ⟨hK1, ⟨x, r', hx, rfl, hR1⟩ | ⟨hno, rfl⟩⟩)
      · obtain ⟨hx256, hqx⟩ := hRq.head hx.out
        have e5 : Hid (rdLow 8 0 0 r = rdLow (8 - (i + 1)) (i + 1) (orI n x i) r') := by
          show _ = _
          rw [hq.out, hqx, show 8 - i = (8 - (i + 1)) + 1 by omega, rdLow]
        refine ⟨⟨_, i + 1, r', congrArg (Value.int .i64) (orI_form hx256), by go_num, by omega, e5, hR1, hK.trans hK1 (fun _ _ h => h)⟩, ?_⟩
        simp [intOf]; omega
      · have e5 : Hid (rdLow 8 0 0 r = none) := by
          show _ = _
          rw [hq.out, show 8 - i = (8 - (i + 1)) + 1 by omega]
          cases q with
          | nil => rfl
          | cons y t => cases hno.out
        exact ⟨rfl, hK.trans hK1 (fun _ _ h => h), Or.inr ⟨e5, rfl⟩⟩
    · obtain rfl : i = 8 := by omega
      go_wp2
      go_ret
      exact ⟨hK, Or.inl ⟨n, q, hq, rfl, hRq⟩⟩

theorem xor_all (x : Nat) (h : x < 18446744073709551616) : x ^^^ 18446744073709551615 = 18446744073709551615 - x := by
  have h1 := congrArg BitVec.toNat (BitVec.xor_allOnes (x := BitVec.ofNat 64 x))
  rw [BitVec.toNat_xor, BitVec.toNat_not, BitVec.toNat_allOnes, BitVec.toNat_ofNat, Nat.mod_eq_of_lt h] at h1
  exact h1
theorem zag_form {n : Nat} (hn : n < 18446744073709551616) : bits .xor .i64 ((n : Int) / 2) (wrap64 (-wrap64 (bits .and .u64 (n : Int) 1))) = zag n := by
  have e1 : bits .and .u64 (n : Int) 1 = ((n % 2 : Nat) : Int) := by
    rw [u64_and _ _ (by omega) (by omega) (by omega) (by omega)]
    have h1 : (1 : Int).toNat = 1 := rfl
    rw [h1, Int.toNat_natCast, nat_mask1]
  have e2 : (n : Int) / 2 = IntKind.i64.wrap ((n / 2 : Nat) : Int) := by rw [IntKind.wrap_i64]; omega
  rw [e1]
  unfold zag
  split
  · rename_i h
    have e3 : wrap64 (-wrap64 ((n % 2 : Nat) : Int)) = IntKind.i64.wrap ((18446744073709551615 : Nat) : Int) := by rw [h, IntKind.wrap_i64]; unfold wrap64; omega
    rw [e2, e3]
    show IntKind.i64.wrap ((BitVec.ofInt 64 (IntKind.i64.wrap ((n / 2 : Nat) : Int)) ^^^ BitVec.ofInt 64 (IntKind.i64.wrap ((18446744073709551615 : Nat) : Int))).toNat : Nat) = _
    rw [BitVec.toNat_xor, ofInt_wrap _ (by omega), ofInt_wrap _ (by omega), xor_all _ (by omega), IntKind.wrap_i64]
    omega
  · rename_i h
    have e3 : wrap64 (-wrap64 ((n % 2 : Nat) : Int)) = IntKind.i64.wrap ((0 : Nat) : Int) := by rw [show n % 2 = 0 by omega, IntKind.wrap_i64]; unfold wrap64; omega
    rw [e2, e3]
    show IntKind.i64.wrap ((BitVec.ofInt 64 (IntKind.i64.wrap ((n / 2 : Nat) : Int)) ^^^ BitVec.ofInt 64 (IntKind.i64.wrap ((0 : Nat) : Int))).toNat : Nat) = _
    rw [BitVec.toNat_xor, ofInt_wrap _ (by omega), ofInt_wrap _ (by omega), Nat.xor_zero, IntKind.wrap_i64]
    omega

set_option maxRecDepth 100000 in
theorem signed_any (n : Nat) (w : World) (hn : n < 18446744073709551616) :
    Calls Try.prog 149 #[.int .u64 (n : Int)] w fun e w' => e = .returned (.int .i64 (zag n)) ∧ Below w.heap.size w w' := by
  go_enter Try.func149, Try.ntmps149
  go_wp2
  go_ret
  exact ⟨ret_int (zag_form hn), gre _⟩

/-- what reading a value leaves -/
def RVPost (b : Nat) (sa : Option Addr) (cap : Nat) (bs r : List Nat) (w : World) (e : Ending) (w' : World) : Prop := RPost (rdVal r) GV.val b sa cap bs w e w'

set_option maxRecDepth 100000 in
theorem rdNum_lt : ∀ (n s : Nat) (r : List Nat) (x : Nat) (r' : List Nat), n < 18446744073709551616 → rdNum n s r = some (x, r') → x < 18446744073709551616
  | _, _, [], _, _, _, h => by cases h
  | n, s, b :: r, x, r', hn, h => by
    unfold rdNum at h
    split at h
    · have e := congrArg (fun o => o.map Prod.fst) h
      have e2 : orU n (b % 128) s = x := by simpa using e
      rw [← e2]; exact orU_lt hn
    · exact rdNum_lt _ _ r x r' (orU_lt hn) h

theorem kk {b : Nat} {w w' w'' : World} (h : Kept (fun k => k = b) w w') (k : Kept (fun k => k = b) w' w'') : Kept (fun k => k = b) w w'' := h.trans k (fun _ _ h => h)

theorem RPost.ok {α : Type} {x : α} {r' : List Nat} {enc : α → Value} {b : Nat} {sa : Option Addr} {cap : Nat} {bs : List Nat} {w : World} {e : Ending} {w' : World} (h : RPost (some (x, r')) enc b sa cap bs w e w') : e = .returned (enc x) ∧ Rd w' b sa cap bs r' ∧ Kept (fun k => k = b) w w' := by
  obtain ⟨hK, ⟨y, q, he, e1, hR⟩ | ⟨he, _⟩⟩ := h
  · have e2 : x = y ∧ r' = q := by simpa using he.out
    obtain ⟨rfl, rfl⟩ := e2
    exact ⟨e1, hR, hK⟩
  · cases he.out
theorem RPost.no {α : Type} {enc : α → Value} {b : Nat} {sa : Option Addr} {cap : Nat} {bs : List Nat} {w : World} {e : Ending} {w' : World} (h : RPost (none : Option (α × List Nat)) enc b sa cap bs w e w') : e = .panicked [haltP] ∧ Kept (fun k => k = b) w w' := by
  obtain ⟨hK, ⟨y, q, he, _⟩ | ⟨_, e1⟩⟩ := h
  · cases he.out
  · exact ⟨e1, hK⟩

theorem fin4 {w wX : World} {b : Nat} {sa : Option Addr} {cap : Nat} {bs r' : List Nat} (hb : b < w.heap.size) (hK : Kept (fun k => k = b) w wX) (hR : Rd wX b sa cap bs r') (u0 u1 u2 u3 : Value) :
    Kept (fun k => k = b) w ((((wX.setCell ⟨w.heap.size, 0, none⟩ u0).setCell ⟨w.heap.size, 1, none⟩ u1).setCell ⟨w.heap.size, 2, none⟩ u2).setCell ⟨w.heap.size, 3, none⟩ u3) ∧ Rd ((((wX.setCell ⟨w.heap.size, 0, none⟩ u0).setCell ⟨w.heap.size, 1, none⟩ u1).setCell ⟨w.heap.size, 2, none⟩ u2).setCell ⟨w.heap.size, 3, none⟩ u3) b sa cap bs r' :=
  ⟨(((hK.set (fun h => absurd h (Nat.lt_irrefl _)) _).set (fun h => absurd h (Nat.lt_irrefl _)) _).set (fun h => absurd h (Nat.lt_irrefl _)) _).set (fun h => absurd h (Nat.lt_irrefl _)) _,
    hR.kept (((((Kept.refl (fun k => k = w.heap.size) wX).set (fun _ => rfl) _).set (fun _ => rfl) _).set (fun _ => rfl) _).set (fun _ => rfl) _) (fun k hk e => by omega)⟩

theorem Four.set4 {w : World} {b : Nat} {u : GV} (h : Four w b u) (v : GV) : Four ((((w.setCell ⟨b, 0, none⟩ (.int .i64 v.kind)).setCell ⟨b, 1, none⟩ (.int .i64 v.num)).setCell ⟨b, 2, none⟩ (.string v.text)).setCell ⟨b, 3, none⟩ (.int .i64 v.node)) b v := by
  obtain ⟨hl, c0, c1, c2, c3, hf⟩ := h
  refine ⟨by simpa [World.setCell] using hl, ?_, ?_, ?_, ?_, fun o => ?_⟩
  · rw [World.cell?_setCell_other _ _ _ _ (by simp), World.cell?_setCell_other _ _ _ _ (by simp), World.cell?_setCell_other _ _ _ _ (by simp)]
    exact World.cell?_setCell_same _ _ _ c0
  · rw [World.cell?_setCell_other _ _ _ _ (by simp), World.cell?_setCell_other _ _ _ _ (by simp)]
    exact World.cell?_setCell_same (u := .int .i64 u.num) _ _ _ (by rw [World.cell?_setCell_other _ _ _ _ (by simp)]; exact c1)
  · rw [World.cell?_setCell_other _ _ _ _ (by simp)]
    exact World.cell?_setCell_same (u := .string u.text) _ _ _ (by rw [World.cell?_setCell_other _ _ _ _ (by simp), World.cell?_setCell_other _ _ _ _ (by simp)]; exact c2)
  · exact World.cell?_setCell_same (u := .int .i64 u.node) _ _ _ (by rw [World.cell?_setCell_other _ _ _ _ (by simp), World.cell?_setCell_other _ _ _ _ (by simp), World.cell?_setCell_other _ _ _ _ (by simp)]; exact c3)
  · rw [World.frozen?_setCell, World.frozen?_setCell, World.frozen?_setCell, World.frozen?_setCell]; exact hf o

end Go.Proofs.Ytnbikemmnpldcab

/-
  RDV1: the program's reader: values. Own work.
-/
namespace Go.Proofs.Ytnbikemmnpldcab
open Go.RowKit

set_option maxHeartbeats 1000000 in
set_option maxRecDepth 100000 in
theorem readVal_nil (b : Nat) (sa : Option Addr) (cap : Nat) (bs t : List Nat)  (w : World) (hR : Rd w b sa cap bs (0 :: t))  :
    Calls Try.prog 125 #[.pointer (some ⟨b, 0, none⟩)] w (RVPost b sa cap bs (0 :: t) w) := by
  have hlt := hR.lt
  have hF0 := Four.new w ⟨0, 0, ⟨#[]⟩, 0⟩ 30
  go_enter Try.func125, Try.ntmps125
  go_wp2_with (go_at_call 148; refine (readByte_any b sa cap bs (0 :: t) _ (hR.grow (gal (gre _) _))).mono ?_; rintro e w1 h1; obtain ⟨rfl, hR1, hK1⟩ := RPost.ok h1; have hF1 := hF0.kept hK1 (by omega); obtain ⟨az, a0, a1, a2, a3, af⟩ := id hF1; have hG := Four.new w1 ⟨0, 0, ⟨#[]⟩, 0⟩ 30; have hs1 := hK1.size; simp only [World.size_alloc] at hs1)
  obtain ⟨_, f0, f1, f2, f3, _⟩ := (hF1.set4 ⟨0, 0, ⟨#[]⟩, 0⟩).alloc (.cells #[.int .i64 0, .int .i64 0, .string ⟨#[]⟩, .int .i64 0] 30)
  obtain ⟨hKF, hRF⟩ := fin4 hlt (kk ((Kept.refl _ w).alloc _) hK1) hR1 (.int .i64 0) (.int .i64 0) (.string ⟨#[]⟩) (.int .i64 0)
  refine bodyPost_ret (v := (GV.mk 0 0 ⟨#[]⟩ 0).val) (by simp [results, Try.results125, go_sem, f0, f1, f2, f3]) rfl ?_
  exact ⟨hKF.alloc _, Or.inl ⟨_, _, rfl, rfl, hRF.grow (gal (gre _) _)⟩⟩

set_option maxHeartbeats 1000000 in
set_option maxRecDepth 100000 in
theorem readVal_num (b : Nat) (sa : Option Addr) (cap : Nat) (bs t : List Nat) (n : Nat) (q : List Nat) (w : World) (hR : Rd w b sa cap bs (1 :: t)) (hq : Hid (rdNum 0 0 t = some (n, q))) :
    Calls Try.prog 125 #[.pointer (some ⟨b, 0, none⟩)] w (RVPost b sa cap bs (1 :: t) w) := by
  have hlt := hR.lt
  have hF0 := Four.new w ⟨0, 0, ⟨#[]⟩, 0⟩ 30
  have hn := rdNum_lt 0 0 t n q (by omega) hq.out
  go_enter Try.func125, Try.ntmps125
  go_wp2_with (first
    | (go_at_call 148; refine (readByte_any b sa cap bs (1 :: t) _ (hR.grow (gal (gre _) _))).mono ?_; rintro e w1 h1; obtain ⟨rfl, hR1, hK1⟩ := RPost.ok h1; have hF1 := hF0.kept hK1 (by omega); obtain ⟨az, a0, a1, a2, a3, af⟩ := id hF1; have hG := Four.new w1 ⟨1, 0, ⟨#[]⟩, 0⟩ 30; have hs1 := hK1.size; simp only [World.size_alloc] at hs1)
    | (go_at_call 147; refine (readNumber_any b sa cap bs t _ (hR1.grow (gal (gre _) _))).mono ?_; rintro e w2 h2; rw [hq.out] at h2; obtain ⟨rfl, hR2, hK2⟩ := RPost.ok h2; have hF2 := (hF1.alloc (.cells #[.int .i64 1, .int .i64 0, .string ⟨#[]⟩, .int .i64 0] 30)).kept hK2 (by omega); obtain ⟨bz, b0, b1, b2, b3, bf⟩ := id hF2; have hG2 := hG.kept hK2 (by omega); obtain ⟨gz, g0, g1, g2, g3, gf⟩ := id hG2; have hs2 := hK2.size; simp only [World.size_alloc] at hs2)
    | (go_at_call 149; refine (signed_any n _ hn).mono ?_; rintro e w3 ⟨rfl, hb3⟩; obtain ⟨iz, i0, i1, i2, i3, if_⟩ := hG2.kept (Kept.of_below hb3 (fun _ => False)) (fun e => e); obtain ⟨cz, c0, c1, c2, c3, cf⟩ := hF2.kept (Kept.of_below hb3 (fun _ => False)) (fun e => e)))
  have hKX := kk (kk ((kk ((Kept.refl _ w).alloc _) hK1).alloc (.cells #[.int .i64 1, .int .i64 0, .string ⟨#[]⟩, .int .i64 0] 30)) hK2) (Kept.of_below hb3 _)
  have hRX := (hR2.grow hb3).kept ((Kept.refl (fun k => k = w1.heap.size) w3).set (a := ⟨w1.heap.size, 1, none⟩) (fun _ => rfl) (.int .i64 (zag n))) (fun k hk e => by omega)
  obtain ⟨hKF, hRF⟩ := fin4 hlt (hKX.set (a := ⟨w1.heap.size, 1, none⟩) (fun h => absurd h (by show ¬ w1.heap.size < _; omega)) (.int .i64 (zag n))) hRX (.int .i64 1) (.int .i64 (zag n)) (.string ⟨#[]⟩) (.int .i64 0)
  refine bodyPost_ret (v := (GV.mk 1 (zag n) ⟨#[]⟩ 0).val) (by simp [results, Try.results125, go_sem, c0, c1, c2, c3]) rfl ?_
  exact ⟨hKF, Or.inl ⟨⟨1, (zag n), ⟨#[]⟩, 0⟩, q, by show rdVal (1 :: t) = _; simp [rdVal, hq.out], rfl, hRF⟩⟩

set_option maxHeartbeats 1000000 in
set_option maxRecDepth 100000 in
theorem readVal_num_no (b : Nat) (sa : Option Addr) (cap : Nat) (bs t : List Nat)  (w : World) (hR : Rd w b sa cap bs (1 :: t)) (hq : Hid (rdNum 0 0 t = none)) :
    Calls Try.prog 125 #[.pointer (some ⟨b, 0, none⟩)] w (RVPost b sa cap bs (1 :: t) w) := by
  have hlt := hR.lt
  have hF0 := Four.new w ⟨0, 0, ⟨#[]⟩, 0⟩ 30
  go_enter Try.func125, Try.ntmps125
  go_wp2_with (first
    | (go_at_call 148; refine (readByte_any b sa cap bs (1 :: t) _ (hR.grow (gal (gre _) _))).mono ?_; rintro e w1 h1; obtain ⟨rfl, hR1, hK1⟩ := RPost.ok h1; have hF1 := hF0.kept hK1 (by omega); obtain ⟨az, a0, a1, a2, a3, af⟩ := id hF1; have hG := Four.new w1 ⟨1, 0, ⟨#[]⟩, 0⟩ 30; have hs1 := hK1.size; simp only [World.size_alloc] at hs1)
    | (go_at_call 147; refine (readNumber_any b sa cap bs t _ (hR1.grow (gal (gre _) _))).mono ?_; rintro e w2 h2; rw [hq.out] at h2; obtain ⟨rfl, hK2⟩ := RPost.no h2))
  exact ⟨rfl, kk ((kk ((Kept.refl _ w).alloc _) hK1).alloc (.cells #[.int .i64 1, .int .i64 0, .string ⟨#[]⟩, .int .i64 0] 30)) hK2, Or.inr ⟨by show rdVal (1 :: t) = _; simp [rdVal, hq.out], rfl⟩⟩

end Go.Proofs.Ytnbikemmnpldcab

/-
  RDV2: the program's reader: values. Own work.
-/
namespace Go.Proofs.Ytnbikemmnpldcab
open Go.RowKit

set_option maxHeartbeats 1000000 in
set_option maxRecDepth 100000 in
theorem readVal_bits (b : Nat) (sa : Option Addr) (cap : Nat) (bs t : List Nat) (n : Int) (q : List Nat) (w : World) (hR : Rd w b sa cap bs (2 :: t)) (hq : Hid (rdLow 8 0 0 t = some (n, q))) :
    Calls Try.prog 125 #[.pointer (some ⟨b, 0, none⟩)] w (RVPost b sa cap bs (2 :: t) w) := by
  have hlt := hR.lt
  have hF0 := Four.new w ⟨0, 0, ⟨#[]⟩, 0⟩ 30
  go_enter Try.func125, Try.ntmps125
  go_wp2_with (first
    | (go_at_call 148; refine (readByte_any b sa cap bs (2 :: t) _ (hR.grow (gal (gre _) _))).mono ?_; rintro e w1 h1; obtain ⟨rfl, hR1, hK1⟩ := RPost.ok h1; have hF1 := hF0.kept hK1 (by omega); obtain ⟨az, a0, a1, a2, a3, af⟩ := id hF1; have hG := Four.new w1 ⟨2, 0, ⟨#[]⟩, 0⟩ 30; have hs1 := hK1.size; simp only [World.size_alloc] at hs1)
    | (go_at_call 150; refine (readWord_any b sa cap bs t _ (hR1.grow (gal (gre _) _))).mono ?_; rintro e w2 h2; rw [hq.out] at h2; obtain ⟨rfl, hR2, hK2⟩ := RPost.ok h2; have hF2 := (hF1.alloc (.cells #[.int .i64 2, .int .i64 0, .string ⟨#[]⟩, .int .i64 0] 30)).kept hK2 (by omega); obtain ⟨bz, b0, b1, b2, b3, bf⟩ := id hF2; have hG2 := hG.kept hK2 (by omega); obtain ⟨gz, g0, g1, g2, g3, gf⟩ := id hG2; have hs2 := hK2.size; simp only [World.size_alloc] at hs2))
  have hKX := kk ((kk ((Kept.refl _ w).alloc _) hK1).alloc (.cells #[.int .i64 2, .int .i64 0, .string ⟨#[]⟩, .int .i64 0] 30)) hK2
  have hRX := (hR2).kept ((Kept.refl (fun k => k = w1.heap.size) w2).set (a := ⟨w1.heap.size, 1, none⟩) (fun _ => rfl) (.int .i64 n)) (fun k hk e => by omega)
  obtain ⟨hKF, hRF⟩ := fin4 hlt (hKX.set (a := ⟨w1.heap.size, 1, none⟩) (fun h => absurd h (by show ¬ w1.heap.size < _; omega)) (.int .i64 n)) hRX (.int .i64 2) (.int .i64 n) (.string ⟨#[]⟩) (.int .i64 0)
  refine bodyPost_ret (v := (GV.mk 2 n ⟨#[]⟩ 0).val) (by simp [results, Try.results125, go_sem, b0, b1, b2, b3]) rfl ?_
  exact ⟨hKF, Or.inl ⟨⟨2, n, ⟨#[]⟩, 0⟩, q, by show rdVal (2 :: t) = _; simp [rdVal, hq.out], rfl, hRF⟩⟩

set_option maxHeartbeats 1000000 in
set_option maxRecDepth 100000 in
theorem readVal_bits_no (b : Nat) (sa : Option Addr) (cap : Nat) (bs t : List Nat)  (w : World) (hR : Rd w b sa cap bs (2 :: t)) (hq : Hid (rdLow 8 0 0 t = none)) :
    Calls Try.prog 125 #[.pointer (some ⟨b, 0, none⟩)] w (RVPost b sa cap bs (2 :: t) w) := by
  have hlt := hR.lt
  have hF0 := Four.new w ⟨0, 0, ⟨#[]⟩, 0⟩ 30
  go_enter Try.func125, Try.ntmps125
  go_wp2_with (first
    | (go_at_call 148; refine (readByte_any b sa cap bs (2 :: t) _ (hR.grow (gal (gre _) _))).mono ?_; rintro e w1 h1; obtain ⟨rfl, hR1, hK1⟩ := RPost.ok h1; have hF1 := hF0.kept hK1 (by omega); obtain ⟨az, a0, a1, a2, a3, af⟩ := id hF1; have hG := Four.new w1 ⟨2, 0, ⟨#[]⟩, 0⟩ 30; have hs1 := hK1.size; simp only [World.size_alloc] at hs1)
    | (go_at_call 150; refine (readWord_any b sa cap bs t _ (hR1.grow (gal (gre _) _))).mono ?_; rintro e w2 h2; rw [hq.out] at h2; obtain ⟨rfl, hK2⟩ := RPost.no h2))
  exact ⟨rfl, kk ((kk ((Kept.refl _ w).alloc _) hK1).alloc (.cells #[.int .i64 2, .int .i64 0, .string ⟨#[]⟩, .int .i64 0] 30)) hK2, Or.inr ⟨by show rdVal (2 :: t) = _; simp [rdVal, hq.out], rfl⟩⟩

set_option maxHeartbeats 1000000 in
set_option maxRecDepth 100000 in
theorem readVal_node (b : Nat) (sa : Option Addr) (cap : Nat) (bs t : List Nat) (n : Nat) (q : List Nat) (w : World) (hR : Rd w b sa cap bs (4 :: t)) (hq : Hid (rdCount 300 t = some (n, q))) :
    Calls Try.prog 125 #[.pointer (some ⟨b, 0, none⟩)] w (RVPost b sa cap bs (4 :: t) w) := by
  have hlt := hR.lt
  have hF0 := Four.new w ⟨0, 0, ⟨#[]⟩, 0⟩ 30
  go_enter Try.func125, Try.ntmps125
  go_wp2_with (first
    | (go_at_call 148; refine (readByte_any b sa cap bs (4 :: t) _ (hR.grow (gal (gre _) _))).mono ?_; rintro e w1 h1; obtain ⟨rfl, hR1, hK1⟩ := RPost.ok h1; have hF1 := hF0.kept hK1 (by omega); obtain ⟨az, a0, a1, a2, a3, af⟩ := id hF1; have hG := Four.new w1 ⟨4, 0, ⟨#[]⟩, 0⟩ 30; have hs1 := hK1.size; simp only [World.size_alloc] at hs1)
    | (go_at_call 124; refine (readCount_any b sa cap bs t 300 _ _ (hR1.grow (gal (gre _) _)) rfl (by omega)).mono ?_; rintro e w2 h2; rw [hq.out] at h2; obtain ⟨rfl, hR2, hK2⟩ := RPost.ok h2; have hF2 := (hF1.alloc (.cells #[.int .i64 4, .int .i64 0, .string ⟨#[]⟩, .int .i64 0] 30)).kept hK2 (by omega); obtain ⟨bz, b0, b1, b2, b3, bf⟩ := id hF2; have hG2 := hG.kept hK2 (by omega); obtain ⟨gz, g0, g1, g2, g3, gf⟩ := id hG2; have hs2 := hK2.size; simp only [World.size_alloc] at hs2))
  have hKX := kk ((kk ((Kept.refl _ w).alloc _) hK1).alloc (.cells #[.int .i64 4, .int .i64 0, .string ⟨#[]⟩, .int .i64 0] 30)) hK2
  have hRX := (hR2).kept ((Kept.refl (fun k => k = w1.heap.size) w2).set (a := ⟨w1.heap.size, 3, none⟩) (fun _ => rfl) (.int .i64 (n : Int))) (fun k hk e => by omega)
  obtain ⟨hKF, hRF⟩ := fin4 hlt (hKX.set (a := ⟨w1.heap.size, 3, none⟩) (fun h => absurd h (by show ¬ w1.heap.size < _; omega)) (.int .i64 (n : Int))) hRX (.int .i64 4) (.int .i64 0) (.string ⟨#[]⟩) (.int .i64 (n : Int))
  refine bodyPost_ret (v := (GV.mk 4 0 ⟨#[]⟩ (n : Int)).val) (by simp [results, Try.results125, go_sem, b0, b1, b2, b3]) rfl ?_
  exact ⟨hKF, Or.inl ⟨⟨4, 0, ⟨#[]⟩, (n : Int)⟩, q, by show rdVal (4 :: t) = _; simp [rdVal, hq.out], rfl, hRF⟩⟩

end Go.Proofs.Ytnbikemmnpldcab

/-
  RDV3: the program's reader: values. Own work.
-/
namespace Go.Proofs.Ytnbikemmnpldcab
open Go.RowKit

set_option maxHeartbeats 1000000 in
set_option maxRecDepth 100000 in
theorem readVal_node_no (b : Nat) (sa : Option Addr) (cap : Nat) (bs t : List Nat)  (w : World) (hR : Rd w b sa cap bs (4 :: t)) (hq : Hid (rdCount 300 t = none)) :
    Calls Try.prog 125 #[.pointer (some ⟨b, 0, none⟩)] w (RVPost b sa cap bs (4 :: t) w) := by
  have hlt := hR.lt
  have hF0 := Four.new w ⟨0, 0, ⟨#[]⟩, 0⟩ 30
  go_enter Try.func125, Try.ntmps125
  go_wp2_with (first
    | (go_at_call 148; refine (readByte_any b sa cap bs (4 :: t) _ (hR.grow (gal (gre _) _))).mono ?_; rintro e w1 h1; obtain ⟨rfl, hR1, hK1⟩ := RPost.ok h1; have hF1 := hF0.kept hK1 (by omega); obtain ⟨az, a0, a1, a2, a3, af⟩ := id hF1; have hG := Four.new w1 ⟨4, 0, ⟨#[]⟩, 0⟩ 30; have hs1 := hK1.size; simp only [World.size_alloc] at hs1)
    | (go_at_call 124; refine (readCount_any b sa cap bs t 300 _ _ (hR1.grow (gal (gre _) _)) rfl (by omega)).mono ?_; rintro e w2 h2; rw [hq.out] at h2; obtain ⟨rfl, hK2⟩ := RPost.no h2))
  exact ⟨rfl, kk ((kk ((Kept.refl _ w).alloc _) hK1).alloc (.cells #[.int .i64 4, .int .i64 0, .string ⟨#[]⟩, .int .i64 0] 30)) hK2, Or.inr ⟨by show rdVal (4 :: t) = _; simp [rdVal, hq.out], rfl⟩⟩

set_option maxHeartbeats 1000000 in
set_option maxRecDepth 100000 in
theorem readVal_text (b : Nat) (sa : Option Addr) (cap : Nat) (bs t : List Nat) (n : Nat) (q : List Nat) (s : ByteArray) (q2 : List Nat) (w : World) (hR : Rd w b sa cap bs (3 :: t)) (hq : Hid (rdCount 1000 t = some (n, q))) (hn : n ≤ 1048576) (hq2 : Hid (rdText n q = some (s, q2))) :
    Calls Try.prog 125 #[.pointer (some ⟨b, 0, none⟩)] w (RVPost b sa cap bs (3 :: t) w) := by
  have hlt := hR.lt
  have hF0 := Four.new w ⟨0, 0, ⟨#[]⟩, 0⟩ 30
  go_enter Try.func125, Try.ntmps125
  go_wp2_with (first
    | (go_at_call 148; refine (readByte_any b sa cap bs (3 :: t) _ (hR.grow (gal (gre _) _))).mono ?_; rintro e w1 h1; obtain ⟨rfl, hR1, hK1⟩ := RPost.ok h1; have hF1 := hF0.kept hK1 (by omega); obtain ⟨az, a0, a1, a2, a3, af⟩ := id hF1; have hG := Four.new w1 ⟨3, 0, ⟨#[]⟩, 0⟩ 30; have hs1 := hK1.size; simp only [World.size_alloc] at hs1)
    | (go_at_call 124; refine (readCount_any b sa cap bs t 1000 _ _ (hR1.grow (gal (gre _) _)) rfl (by omega)).mono ?_; rintro e w2 h2; rw [hq.out] at h2; obtain ⟨rfl, hR2, hK2⟩ := RPost.ok h2; have hF2 := (hF1.alloc (.cells #[.int .i64 3, .int .i64 0, .string ⟨#[]⟩, .int .i64 0] 30)).kept hK2 (by omega); obtain ⟨bz, b0, b1, b2, b3, bf⟩ := id hF2; have hG2 := hG.kept hK2 (by omega); obtain ⟨gz, g0, g1, g2, g3, gf⟩ := id hG2; have hs2 := hK2.size; simp only [World.size_alloc] at hs2)
    | (go_at_call 123; refine (readText_any b sa cap bs q n _ _ hR2 rfl hn).mono ?_; rintro e w3 h3; rw [hq2.out] at h3; obtain ⟨rfl, hR3, hK3⟩ := RPost.ok h3; obtain ⟨iz, i0, i1, i2, i3, if_⟩ := hG2.kept hK3 (by omega); obtain ⟨cz, c0, c1, c2, c3, cf⟩ := hF2.kept hK3 (by omega); have hs3 := hK3.size))
  have hKX := kk (kk ((kk ((Kept.refl _ w).alloc _) hK1).alloc (.cells #[.int .i64 3, .int .i64 0, .string ⟨#[]⟩, .int .i64 0] 30)) hK2) hK3
  have hRX := (hR3).kept ((Kept.refl (fun k => k = w1.heap.size) w3).set (a := ⟨w1.heap.size, 2, none⟩) (fun _ => rfl) (.string s)) (fun k hk e => by omega)
  obtain ⟨hKF, hRF⟩ := fin4 hlt (hKX.set (a := ⟨w1.heap.size, 2, none⟩) (fun h => absurd h (by show ¬ w1.heap.size < _; omega)) (.string s)) hRX (.int .i64 3) (.int .i64 0) (.string s) (.int .i64 0)
  refine bodyPost_ret (v := (GV.mk 3 0 s 0).val) (by simp [results, Try.results125, go_sem, c0, c1, c2, c3]) rfl ?_
  exact ⟨hKF, Or.inl ⟨⟨3, 0, s, 0⟩, q2, by show rdVal (3 :: t) = _; simp [rdVal, hq.out, hq2.out], rfl, hRF⟩⟩

set_option maxHeartbeats 1000000 in
set_option maxRecDepth 100000 in
theorem readVal_text_no (b : Nat) (sa : Option Addr) (cap : Nat) (bs t : List Nat)  (w : World) (hR : Rd w b sa cap bs (3 :: t)) (hq : Hid (rdCount 1000 t = none)) :
    Calls Try.prog 125 #[.pointer (some ⟨b, 0, none⟩)] w (RVPost b sa cap bs (3 :: t) w) := by
  have hlt := hR.lt
  have hF0 := Four.new w ⟨0, 0, ⟨#[]⟩, 0⟩ 30
  go_enter Try.func125, Try.ntmps125
  go_wp2_with (first
    | (go_at_call 148; refine (readByte_any b sa cap bs (3 :: t) _ (hR.grow (gal (gre _) _))).mono ?_; rintro e w1 h1; obtain ⟨rfl, hR1, hK1⟩ := RPost.ok h1; have hF1 := hF0.kept hK1 (by omega); obtain ⟨az, a0, a1, a2, a3, af⟩ := id hF1; have hG := Four.new w1 ⟨3, 0, ⟨#[]⟩, 0⟩ 30; have hs1 := hK1.size; simp only [World.size_alloc] at hs1)
    | (go_at_call 124; refine (readCount_any b sa cap bs t 1000 _ _ (hR1.grow (gal (gre _) _)) rfl (by omega)).mono ?_; rintro e w2 h2; rw [hq.out] at h2; obtain ⟨rfl, hK2⟩ := RPost.no h2))
  exact ⟨rfl, kk ((kk ((Kept.refl _ w).alloc _) hK1).alloc (.cells #[.int .i64 3, .int .i64 0, .string ⟨#[]⟩, .int .i64 0] 30)) hK2, Or.inr ⟨by show rdVal (3 :: t) = _; simp [rdVal, hq.out], rfl⟩⟩

end Go.Proofs.Ytnbikemmnpldcab

/-
  RDV4: the program's reader: values. Own work.
-/
namespace Go.Proofs.Ytnbikemmnpldcab
open Go.RowKit

set_option maxHeartbeats 1000000 in
set_option maxRecDepth 100000 in
theorem readVal_text_no2 (b : Nat) (sa : Option Addr) (cap : Nat) (bs t : List Nat) (n : Nat) (q : List Nat) (w : World) (hR : Rd w b sa cap bs (3 :: t)) (hq : Hid (rdCount 1000 t = some (n, q))) (hn : n ≤ 1048576) (hq2 : Hid (rdText n q = none)) :
    Calls Try.prog 125 #[.pointer (some ⟨b, 0, none⟩)] w (RVPost b sa cap bs (3 :: t) w) := by
  have hlt := hR.lt
  have hF0 := Four.new w ⟨0, 0, ⟨#[]⟩, 0⟩ 30
  go_enter Try.func125, Try.ntmps125
  go_wp2_with (first
    | (go_at_call 148; refine (readByte_any b sa cap bs (3 :: t) _ (hR.grow (gal (gre _) _))).mono ?_; rintro e w1 h1; obtain ⟨rfl, hR1, hK1⟩ := RPost.ok h1; have hF1 := hF0.kept hK1 (by omega); obtain ⟨az, a0, a1, a2, a3, af⟩ := id hF1; have hG := Four.new w1 ⟨3, 0, ⟨#[]⟩, 0⟩ 30; have hs1 := hK1.size; simp only [World.size_alloc] at hs1)
    | (go_at_call 124; refine (readCount_any b sa cap bs t 1000 _ _ (hR1.grow (gal (gre _) _)) rfl (by omega)).mono ?_; rintro e w2 h2; rw [hq.out] at h2; obtain ⟨rfl, hR2, hK2⟩ := RPost.ok h2; have hF2 := (hF1.alloc (.cells #[.int .i64 3, .int .i64 0, .string ⟨#[]⟩, .int .i64 0] 30)).kept hK2 (by omega); obtain ⟨bz, b0, b1, b2, b3, bf⟩ := id hF2; have hG2 := hG.kept hK2 (by omega); obtain ⟨gz, g0, g1, g2, g3, gf⟩ := id hG2; have hs2 := hK2.size; simp only [World.size_alloc] at hs2)
    | (go_at_call 123; refine (readText_any b sa cap bs q n _ _ hR2 rfl hn).mono ?_; rintro e w3 h3; rw [hq2.out] at h3; obtain ⟨rfl, hK3⟩ := RPost.no h3))
  exact ⟨rfl, kk (kk ((kk ((Kept.refl _ w).alloc _) hK1).alloc (.cells #[.int .i64 3, .int .i64 0, .string ⟨#[]⟩, .int .i64 0] 30)) hK2) hK3, Or.inr ⟨by show rdVal (3 :: t) = _; simp [rdVal, hq.out, hq2.out], rfl⟩⟩

set_option maxHeartbeats 1000000 in
set_option maxRecDepth 100000 in
theorem readVal_other (b : Nat) (sa : Option Addr) (cap : Nat) (bs t : List Nat) (x : Nat) (w : World) (hR : Rd w b sa cap bs (x :: t)) (hx : 4 < x) :
    Calls Try.prog 125 #[.pointer (some ⟨b, 0, none⟩)] w (RVPost b sa cap bs (x :: t) w) := by
  have hlt := hR.lt
  have hx256 : x < 256 := (hR.head (x := x) (r' := t) rfl).1
  have hF0 := Four.new w ⟨0, 0, ⟨#[]⟩, 0⟩ 30
  have n0 : ((x : Int) == 0) = false := by simp; omega
  have n1 : ((x : Int) == 1) = false := by simp; omega
  have n2 : ((x : Int) == 2) = false := by simp; omega
  have n3 : ((x : Int) == 3) = false := by simp; omega
  have n4 : ((x : Int) == 4) = false := by simp; omega
  go_enter Try.func125, Try.ntmps125
  go_wp2_with (go_at_call 148; refine (readByte_any b sa cap bs (x :: t) _ (hR.grow (gal (gre _) _))).mono ?_; rintro e w1 h1; obtain ⟨rfl, hR1, hK1⟩ := RPost.ok h1)
  exact ⟨rfl, (kk ((Kept.refl _ w).alloc _) hK1).alloc _, Or.inr ⟨by show rdVal (x :: t) = _; unfold rdVal; dsimp only; rw [if_neg (by omega), if_neg (by omega), if_neg (by omega), if_neg (by omega), if_neg (by omega)], rfl⟩⟩

set_option maxRecDepth 100000 in
theorem readVal_none (b : Nat) (sa : Option Addr) (cap : Nat) (bs : List Nat) (w : World) (hR : Rd w b sa cap bs []) :
    Calls Try.prog 125 #[.pointer (some ⟨b, 0, none⟩)] w (RVPost b sa cap bs [] w) := by
  go_enter Try.func125, Try.ntmps125
  go_wp2_with (go_at_call 148; refine (readByte_any b sa cap bs [] _ (hR.grow (gal (gre _) _))).mono ?_; rintro e w1 h1; obtain ⟨rfl, hK1⟩ := RPost.no h1)
  exact ⟨rfl, kk ((Kept.refl _ w).alloc _) hK1, Or.inr ⟨rfl, rfl⟩⟩

end Go.Proofs.Ytnbikemmnpldcab

/-
  RDV: the program's reader: any value. Own work.
-/
namespace Go.Proofs.Ytnbikemmnpldcab
open Go.RowKit

theorem rdCount_le {most : Nat} {r : List Nat} {n : Nat} {q : List Nat} (h : rdCount most r = some (n, q)) : n ≤ most := by
  unfold rdCount at h
  split at h
  · split at h
    · rename_i hle
      have e := congrArg (fun o => o.map Prod.fst) h
      simp only [Option.map_some, Option.some.injEq] at e
      rw [← e]; exact hle
    · cases h
  · cases h

theorem readVal_any (b : Nat) (sa : Option Addr) (cap : Nat) (bs r : List Nat) (w : World) (hR : Rd w b sa cap bs r) :
    Calls Try.prog 125 #[.pointer (some ⟨b, 0, none⟩)] w (RVPost b sa cap bs r w) := by
  cases r with
  | nil => exact readVal_none b sa cap bs w hR
  | cons x t =>
    by_cases h0 : x = 0
    · subst h0; exact readVal_nil b sa cap bs t w hR
    by_cases h1 : x = 1
    · subst h1
      cases hq : rdNum 0 0 t with
      | none => exact readVal_num_no b sa cap bs t w hR hq
      | some y => exact readVal_num b sa cap bs t y.1 y.2 w hR hq
    by_cases h2 : x = 2
    · subst h2
      cases hq : rdLow 8 0 0 t with
      | none => exact readVal_bits_no b sa cap bs t w hR hq
      | some y => exact readVal_bits b sa cap bs t y.1 y.2 w hR hq
    by_cases h3 : x = 3
    · subst h3
      cases hq : rdCount 1000 t with
      | none => exact readVal_text_no b sa cap bs t w hR hq
      | some y =>
        have hn : y.1 ≤ 1048576 := by have := rdCount_le (n := y.1) (q := y.2) hq; omega
        cases hq2 : rdText y.1 y.2 with
        | none => exact readVal_text_no2 b sa cap bs t y.1 y.2 w hR hq hn hq2
        | some z => exact readVal_text b sa cap bs t y.1 y.2 z.1 z.2 w hR hq hn hq2
    by_cases h4 : x = 4
    · subst h4
      cases hq : rdCount 300 t with
      | none => exact readVal_node_no b sa cap bs t w hR hq
      | some y => exact readVal_node b sa cap bs t y.1 y.2 w hR hq
    exact readVal_other b sa cap bs t x w hR (by omega)

end Go.Proofs.Ytnbikemmnpldcab

/-
  CLONE: a text's own copy is the same text. Own work.
-/
namespace Go.Proofs.Ytnbikemmnpldcab
open Go.RowKit

set_option maxRecDepth 100000 in
theorem info_byte : (Try.prog.info? 5).map (fun i => (i.zero, i.size, i.bytes)) = some (some (.int .u8 0), 1, 1) := by kernel_rfl
theorem size_byte : (Try.prog.info? 5).map (·.size) = some 1 := by kernel_rfl
theorem cells_byte : Try.prog.cellsOf 5 = 1 := by kernel_rfl

set_option maxRecDepth 100000 in
set_option maxHeartbeats 1000000 in
theorem sliteClone_any (s : ByteArray) (w : World) (hs : s.size ≤ 1000) :
    Calls Try.prog 154 #[.string s] w fun e w' => e = .returned (.string s) ∧ Below w.heap.size w w' := by
  by_cases h0 : s.size = 0
  · obtain rfl : s = ⟨#[]⟩ := ByteArray.ext (Array.eq_empty_of_size_eq_zero h0)
    go_enter Try.func154, Try.ntmps154
    go_wp2
    go_ret
    exact ⟨rfl, gre _⟩
  · obtain ⟨i0, hi, hz0, hz1, hz2⟩ := info_parts info_byte
    obtain ⟨M, hM⟩ : ∃ M, Hid (M = madeCells #[Value.int .u8 0] s.size) := ⟨_, rfl⟩
    have hMs : M.size = s.size := by rw [hM.out, size_madeCells]
    have hmk : ∀ u : World, (Instr.makeSlice 28 (.int .i64 (s.size : Int)) (.int .i64 (s.size : Int))).run Try.prog u = .ok (.slice (some ⟨u.heap.size, 0, none⟩) s.size s.size) (u.alloc (.cells M 5)) := fun u => by
      have h := run_make (P := Try.prog) u 28 5 i0 _ Try.underlying28 hi hz0 .i64 .i64 (s.size : Int) (s.size : Int) (by omega) (Int.le_refl _) (by rw [hz2]; omega) (by omega)
      rw [hM.out]
      simpa [hz1, Value.cells] using h
    have hnew : (w.alloc (.cells M 5)).heap[w.heap.size]? = some (.cells M 5 (0, 0)) := heap_alloc_new w _
    have hcp := Lib.run_copy_row_string (P := Try.prog) (w.alloc (.cells M 5)) 28 9 3 5 w.heap.size 0 s.size s.size s M 5 Try.underlying28 size_byte hnew (Nat.le_refl _) (by omega)
    obtain ⟨Y, hY⟩ : ∃ Y, Y = (M.toList.take 0 ++ Lib.byteCells s.data.toList ++ M.toList.drop (0 + s.size)).toArray := ⟨_, rfl⟩
    rw [← hY] at hcp
    have hYl : Y.toList = Lib.byteCells s.data.toList := by
      rw [hY, List.toList_toArray, List.take_zero, List.nil_append, List.drop_of_length_le (by rw [Array.length_toList]; omega), List.append_nil]
    have hYs : Y.size = s.size := by rw [← Array.length_toList, hYl, Lib.byteCells_length, ← Lib.size_eq]
    have hrow : ((w.alloc (.cells M 5)).setRow w.heap.size Y).heap[w.heap.size]? = some (.cells Y 5 (0, 0)) := setRow_heap _ _ M _ 5 (0, 0) hnew
    have hne : s.data.toList ≠ [] := fun e => h0 (by rw [Lib.size_eq, e]; rfl)
    have hus := Lib.run_unsafeString_row (P := Try.prog) ((w.alloc (.cells M 5)).setRow w.heap.size Y) 195 3 9 5 Try.underlying195 cells_byte w.heap.size Y.size (by unfold World.shape?; rw [hrow]) s.data.toList hne (by rw [← Lib.size_eq]; omega) (by rw [← Lib.size_eq]; omega)
      (fun j x hx => Lib.cells_of_row hrow Y.size j _ (by rw [List.take_of_length_le (by rw [Array.length_toList]; exact Nat.le_refl _), hYl]; simp [Lib.byteCells, hx]))
    rw [← Lib.size_eq] at hus
    clear hY hnew hrow hM
    go_enter Try.func154, Try.ntmps154
    go_wp2
    go_ret
    have hb : Below w.heap.size w ((w.alloc (.cells M 5)).setRow w.heap.size Y) := (gal (gre w) _).trans ⟨rfl, rfl, rfl, by simp, fun k hk => setRow_other _ _ _ _ (by omega)⟩
    exact ⟨rfl, Lib.below_freeze hb (p := ⟨w.heap.size, 0, none⟩) (Nat.le_refl _) _⟩

set_option maxRecDepth 100000 in
theorem clone_any (s : ByteArray) (w : World) (hs : s.size ≤ 1000) :
    Calls Try.prog 152 #[.string s] w fun e w' => e = .returned (.string s) ∧ Below w.heap.size w w' := by
  go_enter Try.func152, Try.ntmps152
  go_wp2_with (go_at_call 154; refine (sliteClone_any s _ hs).mono ?_; rintro e w' ⟨rfl, hb⟩)
  go_ret
  exact ⟨rfl, hb⟩

end Go.Proofs.Ytnbikemmnpldcab
