import Derived.Test.YthjddpkegooobabPartH

/-
  RD: the program's reader. Own work.
-/
namespace Go.Proofs.Ythjddpkegooobab
open Go.RowKit

/-- bytes at a place, below a bound -/
def BytesLow (B : Nat) (w : World) (a : Option Addr) (bs : List Nat) : Prop := ∀ i, i < bs.length → ∃ b off, a = some ⟨b, off, none⟩ ∧ b < B ∧ w.cell? ⟨b, off + i, none⟩ = some (.int .u8 ((bs[i]! : Nat) : Int))
set_option maxRecDepth 100000 in
theorem BytesLow.below {B : Nat} {w w' : World} {a : Option Addr} {bs : List Nat} (h : BytesLow B w a bs) (hb : Below B w w') : BytesLow B w' a bs := fun i hi => by
  obtain ⟨b, off, ha, hB, hc⟩ := h i hi
  exact ⟨b, off, ha, hB, (World.cell?_of_block (w := w) (hb.block b hB)).trans hc⟩
set_option maxRecDepth 100000 in
theorem BytesLow.at_ {B : Nat} {w : World} {a : Option Addr} {bs : List Nat} (h : BytesLow B w a bs) : BytesAt w a bs := fun i hi => by
  obtain ⟨b, off, ha, _, hc⟩ := h i hi
  exact ⟨b, off, ha, hc⟩
set_option maxRecDepth 100000 in
theorem BytesAt.low {w : World} {a : Option Addr} {bs : List Nat} (h : BytesAt w a bs) : BytesLow w.heap.size w a bs := fun i hi => by
  obtain ⟨b, off, ha, hc⟩ := h i hi
  exact ⟨b, off, ha, World.block_lt_of_cell? _ _ hc, hc⟩

/-- a reader that has so much left -/
structure Rd (w : World) (b : Nat) (sa : Option Addr) (cap : Nat) (bs r : List Nat) : Prop where
  ex : ∃ at_, Cur w b sa bs.length cap at_ ∧ at_ ≤ bs.length ∧ r = bs.drop at_
  low : BytesLow b w sa bs
  cap : bs.length ≤ cap
  len : bs.length ≤ 1099511627776
  byte : ∀ x, x ∈ bs → x < 256

set_option maxRecDepth 100000 in
theorem Rd.lt {w : World} {b : Nat} {sa : Option Addr} {cap : Nat} {bs r : List Nat} (h : Rd w b sa cap bs r) : b < w.heap.size := by obtain ⟨_, hc, _⟩ := h.ex; exact hc.lt
set_option maxRecDepth 100000 in
theorem Rd.kept {p : Nat → Prop} {w w' : World} {b : Nat} {sa : Option Addr} {cap : Nat} {bs r : List Nat} (h : Rd w b sa cap bs r) (k : Kept p w w') (hp : ∀ k, k ≤ b → ¬ p k) : Rd w' b sa cap bs r := by
  obtain ⟨at_, hc, ha, hr⟩ := h.ex
  exact ⟨⟨at_, hc.kept k (hp b (Nat.le_refl _)), ha, hr⟩, h.low.below (k.below (by have := hc.lt; omega) (fun k hk => hp k (by omega))), h.cap, h.len, h.byte⟩
set_option maxRecDepth 100000 in
theorem Rd.grow {w w' : World} {b : Nat} {sa : Option Addr} {cap : Nat} {bs r : List Nat} (h : Rd w b sa cap bs r) (k : Below w.heap.size w w') : Rd w' b sa cap bs r := h.kept (Kept.of_below k (fun _ => False)) (fun _ _ e => e)

/-- what a reader's call leaves -/
def RPost {α : Type} (f : Option (α × List Nat)) (enc : α → Value) (b : Nat) (sa : Option Addr) (cap : Nat) (bs : List Nat) (w : World) (e : Ending) (w' : World) : Prop :=
  Kept (fun k => k = b) w w' ∧ ((∃ x r', Hid (f = some (x, r')) ∧ e = .returned (enc x) ∧ Rd w' b sa cap bs r') ∨ (Hid (f = none) ∧ e = .panicked [haltP]))

def rdByte : List Nat → Option (Nat × List Nat)
  | [] => none
  | x :: r => some (x, r)

theorem hidx {α : Type} (x : α) : ∃ y, Hid (y = x) := ⟨x, rfl⟩
set_option maxRecDepth 100000 in
theorem drop_cons {bs : List Nat} {k : Nat} (h : k < bs.length) : bs.drop k = bs[k]! :: bs.drop (k + 1) := by
  rw [List.drop_eq_getElem_cons h, getElem!_pos bs k h]

set_option maxRecDepth 100000 in
theorem readByte_any (b : Nat) (sa : Option Addr) (cap : Nat) (bs r : List Nat) (w : World) (hR : Rd w b sa cap bs r) :
    Calls Try.prog 174 #[.pointer (some ⟨b, 0, none⟩)] w (RPost (rdByte r) (fun x => .int .u8 (x : Int)) b sa cap bs w) := by
  obtain ⟨⟨k, hC, hk, hr⟩, hlow, hcap, hlen, hbyte⟩ := hR
  by_cases hlt : k < bs.length
  · obtain ⟨x, hx⟩ := hidx bs[k]!
    have e1 : Hid (rdByte r = some (x, bs.drop (k + 1))) := by show _ = _; rw [hr, drop_cons hlt, hx.out]; rfl
    obtain ⟨ba, off, rfl, hba, hcell⟩ := hlow k hlt
    rw [← hx.out] at hcell
    go_enter Try.func174, Try.ntmps174
    go_wp2_with (go_at_call 158; refine (next_fits b _ bs.length cap k 1 _ hC hcap (by unfold maxLen; omega) (by omega)).mono ?_; rintro e w1 ⟨p, c, rfl, hp, hC1, hK1⟩; obtain rfl := hp (by omega) _ _ rfl; have hcell1 := hK1.cell hcell (by omega))
    go_ret
    exact ⟨hK1, Or.inl ⟨_, _, e1, rfl, ⟨⟨k + 1, hC1, by omega, rfl⟩, hlow.below (hK1.below (by have := hC.lt; omega) (fun k hk e => by omega)), hcap, hlen, hbyte⟩⟩⟩
  · have e1 : Hid (rdByte r = none) := by show _ = _; rw [hr, List.drop_of_length_le (by omega)]; rfl
    go_enter Try.func174, Try.ntmps174
    go_wp2_with (go_at_call 158; refine (next_not b _ bs.length cap k 1 _ hC (by unfold maxLen; omega) hk (by omega)).mono ?_; rintro e w1 ⟨rfl, hb⟩)
    exact ⟨rfl, Kept.of_below hb _, Or.inr ⟨e1, rfl⟩⟩

set_option maxRecDepth 100000 in
theorem conv_text {w : World} {a : Option Addr} {n c : Nat} {ys : List Nat} (h : BytesAt w a ys) (hn : ys.length = n) : (convert 28 9 (.slice a n c)).run Try.prog w = .ok (.string (strB ys)) w := by
  by_cases h0 : n = 0
  · subst h0
    have : ys = [] := List.eq_nil_of_length_eq_zero hn
    subst this
    cases a with
    | none =>
      rw [run_convert_bytes_nil w 28 5 Try.underlying28 Try.underlying5 0 c 9 Try.underlying9]
      rfl
    | some p =>
      obtain ⟨b, off, sp⟩ := p
      rw [run_convert_bytes_string w 28 9 5 _ 0 c Try.underlying28 Try.underlying5 Try.underlying9]
      have hl : (loadCells ⟨b, off, sp⟩ 0).run Try.prog w = .ok ((([] : List Int).map (Value.int .u8)).toArray) w := by simp [loadCells, loadCellsFrom]
      rw [run_bytesToString w _ 0 c [] hl]
      rfl
  · obtain ⟨b, off, rfl, _⟩ := h 0 (by omega)
    refine run_convert_bytes_arg w 28 5 Try.underlying28 Try.underlying5 b off n c (ys.map fun (x : Nat) => (x : Int)) (by rw [List.length_map]; exact hn) (fun i hi => ?_) 9 Try.underlying9
    obtain ⟨b', off', e, hc⟩ := h i (by omega)
    have e2 : b' = b ∧ off' = off := by simpa using e.symm
    obtain ⟨rfl, rfl⟩ := e2
    rw [hc, getElem!_pos ys i (by omega)]
    simp [List.getD, show i < ys.length by omega]

theorem take_bytes {w : World} {b : Nat} {sa p : Option Addr} {bs : List Nat} {k n : Nat} (hlow : BytesLow b w sa bs) (hkn : k + n ≤ bs.length) (hp : 0 < n → ∀ g off, sa = some ⟨g, off, none⟩ → p = some ⟨g, off + k, none⟩) : BytesAt w p ((bs.drop k).take n) := fun i hi => by
  rw [List.length_take, List.length_drop] at hi
  obtain ⟨ba, off, e, hba, hcell⟩ := hlow (k + i) (by omega)
  refine ⟨ba, off + k, hp (by omega) _ _ e, ?_⟩
  rw [Nat.add_assoc, hcell, getElem!_pos _ i (by rw [List.length_take, List.length_drop]; omega), getElem!_pos bs (k + i) (by omega)]
  simp

set_option maxRecDepth 100000 in
theorem readText_any (b : Nat) (sa : Option Addr) (cap : Nat) (bs r : List Nat) (n : Nat) (z : Int) (w : World) (hR : Rd w b sa cap bs r) (hz : z = (n : Int)) (hn : n ≤ 1048576) :
    Calls Try.prog 145 #[.pointer (some ⟨b, 0, none⟩), .int .i64 z] w (RPost (rdText n r) (fun x => .string x) b sa cap bs w) := by
  subst hz
  obtain ⟨⟨k, hC, hk, hr⟩, hlow, hcap, hlen, hbyte⟩ := hR
  have hrl : r.length = bs.length - k := by rw [hr, List.length_drop]
  by_cases hlt : k + n ≤ bs.length
  · have e1 : Hid (rdText n r = some (strB (r.take n), r.drop n)) := if_pos (by omega)
    go_enter Try.func145, Try.ntmps145
    go_wp2_with (go_at_call 158; refine (next_fits b _ bs.length cap k n _ hC hcap (by unfold maxLen; omega) hlt).mono ?_; rintro e w1 ⟨p, c, rfl, hp, hC1, hK1⟩; have hlow1 := hlow.below (hK1.below (show b ≤ w.heap.size by have := hC.lt; omega) (fun k hk e => by omega)); have hbt := take_bytes (n := n) hlow1 hlt hp; rw [← hr] at hbt; have hcv := conv_text (n := n) (c := c) hbt (by rw [List.length_take]; omega))
    go_ret
    exact ⟨hK1, Or.inl ⟨_, _, e1, by rw [hr]; rfl, ⟨⟨k + n, hC1, hlt, by rw [hr, List.drop_drop]⟩, hlow1, hcap, hlen, hbyte⟩⟩⟩
  · have e1 : Hid (rdText n r = none) := if_neg (by omega)
    go_enter Try.func145, Try.ntmps145
    go_wp2_with (go_at_call 158; refine (next_not b _ bs.length cap k n _ hC (by unfold maxLen; omega) hk (by omega)).mono ?_; rintro e w1 ⟨rfl, hb⟩)
    exact ⟨rfl, Kept.of_below hb _, Or.inr ⟨e1, rfl⟩⟩

theorem Rd.head {w : World} {b : Nat} {sa : Option Addr} {cap : Nat} {bs q r' : List Nat} {x : Nat} (h : Rd w b sa cap bs q) (hx : rdByte q = some (x, r')) : x < 256 ∧ q = x :: r' := by
  cases q with
  | nil => cases hx
  | cons y t =>
    have e : y = x ∧ t = r' := by simpa [rdByte] using hx
    obtain ⟨rfl, rfl⟩ := e
    obtain ⟨k, _, _, hr⟩ := h.ex
    refine ⟨h.byte y ?_, rfl⟩
    have h1 : y ∈ bs.drop k := by rw [← hr]; exact List.mem_cons_self ..
    exact List.mem_of_mem_drop h1
theorem or_form {n x s : Nat} (hn : n < 18446744073709551616) (hx : x < 256) : bits .or .u64 (n : Int) (IntKind.u64.wrap (IntKind.u64.wrap (bits .andNot .u8 (x : Int) 128) * 2 ^ min s 64)) = ((orU n (x % 128) s : Nat) : Int) := by
  have e1 : bits .andNot .u8 (x : Int) 128 = ((x % 128 : Nat) : Int) := by
    rw [u8_andNot _ _ (by omega) (by omega) (by omega) (by omega)]
    have h1 : (255 - (128 : Int).toNat) = 127 := rfl
    rw [h1, Int.toNat_natCast, nat_mask7]
  have e2 : IntKind.u64.wrap ((x % 128 : Nat) : Int) = ((x % 128 : Nat) : Int) := by rw [IntKind.wrap_u64]; omega
  have e3 : (((x % 128 : Nat) : Int) * 2 ^ min s 64) = ((x % 128 * 2 ^ min s 64 : Nat) : Int) := by push_cast; rfl
  have e4 : IntKind.u64.wrap ((x % 128 * 2 ^ min s 64 : Nat) : Int) = ((x % 128 * 2 ^ min s 64 % 18446744073709551616 : Nat) : Int) := by rw [IntKind.wrap_u64]; generalize x % 128 * 2 ^ min s 64 = y; omega
  rw [e1, e2, e3, e4, u64_or_nat n _ hn (Nat.mod_lt _ (by omega))]
  rfl
theorem orU_lt {n x s : Nat} (hn : n < 18446744073709551616) : orU n x s < 18446744073709551616 := by
  unfold orU
  exact Nat.or_lt_two_pow (n := 64) hn (Nat.mod_lt _ (by omega))

set_option maxRecDepth 100000 in
theorem readNumber_any (b : Nat) (sa : Option Addr) (cap : Nat) (bs r : List Nat) (w : World) (hR : Rd w b sa cap bs r) :
    Calls Try.prog 173 #[.pointer (some ⟨b, 0, none⟩)] w (RPost (rdNum 0 0 r) (fun x => .int .u64 (x : Int)) b sa cap bs w) := by
  go_enter Try.func173, Try.ntmps173
  go_wp2
  go_loopw [3, 4] (fun a c ws => ∃ (n s : Nat) (q : List Nat), a = .int .u64 n ∧ c = .int .i64 s ∧ n < 18446744073709551616 ∧ s + 7 * q.length ≤ 7 * bs.length ∧ Hid (rdNum 0 0 r = rdNum n s q) ∧ Rd ws b sa cap bs q ∧ Kept (fun k => k = b) w ws) (fun _ c _ => 7 * bs.length + 7 - (intOf c).toNat)
  case atStart =>
    refine ⟨0, 0, r, rfl, rfl, by omega, ?_, rfl, hR, Kept.refl _ _⟩
    obtain ⟨k, _, _, hr⟩ := hR.ex
    rw [hr, List.length_drop]; omega
  case round =>
    obtain ⟨n, s, q, rfl, rfl, hn, hs, hq, hRq, hK⟩ := hrel
    have hlen := hRq.len
    go_wp2_with (go_at_call 174; refine (readByte_any b sa cap bs q _ hRq).mono ?_; rintro e w1 ⟨hK1, ⟨x, r', hx, rfl, hR1⟩ | ⟨hno, rfl⟩⟩)
    · rename_i hlt
      obtain ⟨hx256, hqx⟩ := hRq.head hx.out
      have e5 : Hid (rdNum 0 0 r = some (orU n (x % 128) s, r')) := by show _ = _; rw [hq.out, hqx, rdNum, if_pos (by omega)]
      go_ret
      exact ⟨hK.trans hK1 (fun _ _ h => h), Or.inl ⟨_, r', e5, ret_int (or_form hn hx256), hR1⟩⟩
    · rename_i hlt
      obtain ⟨hx256, hqx⟩ := hRq.head hx.out
      have e5 : Hid (rdNum 0 0 r = rdNum (orU n (x % 128) s) (s + 7) r') := by show _ = _; rw [hq.out, hqx, rdNum, if_neg (by omega)]
      have hl2 : q.length = r'.length + 1 := by rw [hqx]; rfl
      refine ⟨⟨orU n (x % 128) s, s + 7, r', congrArg (Value.int .u64) (or_form hn hx256), by go_num, orU_lt hn, by omega, e5, hR1, hK.trans hK1 (fun _ _ h => h)⟩, ?_⟩
      simp [intOf]; omega
    · have e5 : Hid (rdNum 0 0 r = none) := by
        show _ = _
        rw [hq.out]
        cases q with
        | nil => rfl
        | cons y t => cases hno.out
      exact ⟨rfl, hK.trans hK1 (fun _ _ h => h), Or.inr ⟨e5, rfl⟩⟩

set_option maxRecDepth 100000 in
theorem readCount_any (b : Nat) (sa : Option Addr) (cap : Nat) (bs r : List Nat) (most : Nat) (z : Int) (w : World) (hR : Rd w b sa cap bs r) (hz : z = (most : Int)) (hm : most ≤ 1048576) :
    Calls Try.prog 146 #[.pointer (some ⟨b, 0, none⟩), .int .i64 z] w (RPost (rdCount most r) (fun x => .int .i64 (x : Int)) b sa cap bs w) := by
  subst hz
  have e6 : IntKind.u64.wrap (most : Int) = (most : Int) := by rw [IntKind.wrap_u64]; omega
  go_enter Try.func146, Try.ntmps146
  go_wp2_with (go_at_call 173; refine (readNumber_any b sa cap bs r _ hR).mono ?_; rintro e w1 ⟨hK1, ⟨x, r', hx, rfl, hR1⟩ | ⟨hno, rfl⟩⟩)
  · rename_i hgt
    have e5 : Hid (rdCount most r = none) := by show _ = _; unfold rdCount; rw [hx.out]; exact if_neg (by omega)
    exact ⟨rfl, hK1, Or.inr ⟨e5, rfl⟩⟩
  · rename_i hle
    have e5 : Hid (rdCount most r = some (x, r')) := by show _ = _; unfold rdCount; rw [hx.out]; exact if_pos (by omega)
    go_ret
    exact ⟨hK1, Or.inl ⟨x, r', e5, rfl, hR1⟩⟩
  · have e5 : Hid (rdCount most r = none) := by show _ = _; unfold rdCount; rw [hno.out]
    exact ⟨rfl, hK1, Or.inr ⟨e5, rfl⟩⟩

end Go.Proofs.Ythjddpkegooobab

/-
  RD2: the program's reader: words, values. Own work.
-/
namespace Go.Proofs.Ythjddpkegooobab
open Go.RowKit

theorem wrap64_eq (n : Int) : wrap64 n = IntKind.i64.wrap n := by rw [IntKind.wrap_i64]; unfold wrap64; omega
theorem orI_form {n : Int} {x i : Nat} (hx : x < 256) : bits .or .i64 n (wrap64 (wrap64 (x : Int) * 2 ^ (8 * i))) = orI n x i := by
  have e1 : wrap64 (x : Int) = (x : Int) := by unfold wrap64; omega
  rw [e1, wrap64_eq]; rfl

set_option maxRecDepth 100000 in
theorem readWord_any (b : Nat) (sa : Option Addr) (cap : Nat) (bs r : List Nat) (w : World) (hR : Rd w b sa cap bs r) :
    Calls Try.prog 157 #[.pointer (some ⟨b, 0, none⟩)] w (RPost (rdLow 8 0 0 r) (fun x => .int .i64 x) b sa cap bs w) := by
  go_enter Try.func157, Try.ntmps157
  go_wp2
  go_loopw [3, 5] (fun a c ws => ∃ (n : Int) (i : Nat) (q : List Nat), a = .int .i64 n ∧ c = .int .i64 i ∧ i ≤ 8 ∧ Hid (rdLow 8 0 0 r = rdLow (8 - i) i n q) ∧ Rd ws b sa cap bs q ∧ Kept (fun k => k = b) w ws) (fun _ c _ => 8 - (intOf c).toNat)
  case atStart => exact ⟨0, 0, r, rfl, rfl, by omega, rfl, hR, Kept.refl _ _⟩
  case round =>
    obtain ⟨n, i, q, rfl, rfl, hi, hq, hRq, hK⟩ := hrel
    by_cases hlt : i < 8
    · have hd : (i : Int) < 8 := by omega
      go_wp2_with (go_at_call 174; refine (readByte_any b sa cap bs q _ hRq).mono ?_; rintro e w1 ⟨hK1, ⟨x, r', hx, rfl, hR1⟩ | ⟨hno, rfl⟩⟩)
      · obtain ⟨hx256, hqx⟩ := hRq.head hx.out
        have e5 : Hid (rdLow 8 0 0 r = rdLow (8 - (i + 1)) (i + 1) (orI n x i) r') := by
          show _ = _
          rw [hq.out, hqx, show 8 - i = (8 - (i + 1)) + 1 by omega, rdLow]
        refine ⟨⟨_, i + 1, r', congrArg (Value.int .i64) (orI_form hx256), by go_num, by omega, e5, hR1, hK.trans hK1 (fun _ _ h => h)⟩, ?_⟩
        simp [intOf]; omega
      · have e5 : Hid (rdLow 8 0 0 r = none) := by
          show _ = _
          rw [hq.out, show 8 - i = (8 - (i + 1)) + 1 by omega]
          cases q with
          | nil => rfl
          | cons y t => cases hno.out
        exact ⟨rfl, hK.trans hK1 (fun _ _ h => h), Or.inr ⟨e5, rfl⟩⟩
    · obtain rfl : i = 8 := by omega
      go_wp2
      go_ret
      exact ⟨hK, Or.inl ⟨n, q, hq, rfl, hRq⟩⟩

theorem xor_all (x : Nat) (h : x < 18446744073709551616) : x ^^^ 18446744073709551615 = 18446744073709551615 - x := by
  have h1 := congrArg BitVec.toNat (BitVec.xor_allOnes (x := BitVec.ofNat 64 x))
  rw [BitVec.toNat_xor, BitVec.toNat_not, BitVec.toNat_allOnes, BitVec.toNat_ofNat, Nat.mod_eq_of_lt h] at h1
  exact h1
theorem zag_form {n : Nat} (hn : n < 18446744073709551616) : bits .xor .i64 ((n : Int) / 2) (wrap64 (-wrap64 (bits .and .u64 (n : Int) 1))) = zag n := by
  have e1 : bits .and .u64 (n : Int) 1 = ((n % 2 : Nat) : Int) := by
    rw [u64_and _ _ (by omega) (by omega) (by omega) (by omega)]
    have h1 : (1 : Int).toNat = 1 := rfl
    rw [h1, Int.toNat_natCast, nat_mask1]
  have e2 : (n : Int) / 2 = IntKind.i64.wrap ((n / 2 : Nat) : Int) := by rw [IntKind.wrap_i64]; omega
  rw [e1]
  unfold zag
  split
  · rename_i h
    have e3 : wrap64 (-wrap64 ((n % 2 : Nat) : Int)) = IntKind.i64.wrap ((18446744073709551615 : Nat) : Int) := by rw [h, IntKind.wrap_i64]; unfold wrap64; omega
    rw [e2, e3]
    show IntKind.i64.wrap ((BitVec.ofInt 64 (IntKind.i64.wrap ((n / 2 : Nat) : Int)) ^^^ BitVec.ofInt 64 (IntKind.i64.wrap ((18446744073709551615 : Nat) : Int))).toNat : Nat) = _
    rw [BitVec.toNat_xor, ofInt_wrap _ (by omega), ofInt_wrap _ (by omega), xor_all _ (by omega), IntKind.wrap_i64]
    omega
  · rename_i h
    have e3 : wrap64 (-wrap64 ((n % 2 : Nat) : Int)) = IntKind.i64.wrap ((0 : Nat) : Int) := by rw [show n % 2 = 0 by omega, IntKind.wrap_i64]; unfold wrap64; omega
    rw [e2, e3]
    show IntKind.i64.wrap ((BitVec.ofInt 64 (IntKind.i64.wrap ((n / 2 : Nat) : Int)) ^^^ BitVec.ofInt 64 (IntKind.i64.wrap ((0 : Nat) : Int))).toNat : Nat) = _
    rw [BitVec.toNat_xor, ofInt_wrap _ (by omega), ofInt_wrap _ (by omega), Nat.xor_zero, IntKind.wrap_i64]
    omega

set_option maxRecDepth 100000 in
theorem signed_any (n : Nat) (w : World) (hn : n < 18446744073709551616) :
    Calls Try.prog 175 #[.int .u64 (n : Int)] w fun e w' => e = .returned (.int .i64 (zag n)) ∧ Below w.heap.size w w' := by
  go_enter Try.func175, Try.ntmps175
  go_wp2
  go_ret
  exact ⟨ret_int (zag_form hn), gre _⟩

/-- what reading a value leaves -/
def RVPost (b : Nat) (sa : Option Addr) (cap : Nat) (bs r : List Nat) (w : World) (e : Ending) (w' : World) : Prop := RPost (rdVal r) GV.val b sa cap bs w e w'

set_option maxRecDepth 100000 in
theorem rdNum_lt : ∀ (n s : Nat) (r : List Nat) (x : Nat) (r' : List Nat), n < 18446744073709551616 → rdNum n s r = some (x, r') → x < 18446744073709551616
  | _, _, [], _, _, _, h => by cases h
  | n, s, b :: r, x, r', hn, h => by
    unfold rdNum at h
    split at h
    · have e := congrArg (fun o => o.map Prod.fst) h
      have e2 : orU n (b % 128) s = x := by simpa using e
      rw [← e2]; exact orU_lt hn
    · exact rdNum_lt _ _ r x r' (orU_lt hn) h

theorem kk {b : Nat} {w w' w'' : World} (h : Kept (fun k => k = b) w w') (k : Kept (fun k => k = b) w' w'') : Kept (fun k => k = b) w w'' := h.trans k (fun _ _ h => h)

theorem RPost.ok {α : Type} {x : α} {r' : List Nat} {enc : α → Value} {b : Nat} {sa : Option Addr} {cap : Nat} {bs : List Nat} {w : World} {e : Ending} {w' : World} (h : RPost (some (x, r')) enc b sa cap bs w e w') : e = .returned (enc x) ∧ Rd w' b sa cap bs r' ∧ Kept (fun k => k = b) w w' := by
  obtain ⟨hK, ⟨y, q, he, e1, hR⟩ | ⟨he, _⟩⟩ := h
  · have e2 : x = y ∧ r' = q := by simpa using he.out
    obtain ⟨rfl, rfl⟩ := e2
    exact ⟨e1, hR, hK⟩
  · cases he.out
theorem RPost.no {α : Type} {enc : α → Value} {b : Nat} {sa : Option Addr} {cap : Nat} {bs : List Nat} {w : World} {e : Ending} {w' : World} (h : RPost (none : Option (α × List Nat)) enc b sa cap bs w e w') : e = .panicked [haltP] ∧ Kept (fun k => k = b) w w' := by
  obtain ⟨hK, ⟨y, q, he, _⟩ | ⟨_, e1⟩⟩ := h
  · cases he.out
  · exact ⟨e1, hK⟩

theorem fin4 {w wX : World} {b : Nat} {sa : Option Addr} {cap : Nat} {bs r' : List Nat} (hb : b < w.heap.size) (hK : Kept (fun k => k = b) w wX) (hR : Rd wX b sa cap bs r') (u0 u1 u2 u3 : Value) :
    Kept (fun k => k = b) w ((((wX.setCell ⟨w.heap.size, 0, none⟩ u0).setCell ⟨w.heap.size, 1, none⟩ u1).setCell ⟨w.heap.size, 2, none⟩ u2).setCell ⟨w.heap.size, 3, none⟩ u3) ∧ Rd ((((wX.setCell ⟨w.heap.size, 0, none⟩ u0).setCell ⟨w.heap.size, 1, none⟩ u1).setCell ⟨w.heap.size, 2, none⟩ u2).setCell ⟨w.heap.size, 3, none⟩ u3) b sa cap bs r' :=
  ⟨(((hK.set (fun h => absurd h (Nat.lt_irrefl _)) _).set (fun h => absurd h (Nat.lt_irrefl _)) _).set (fun h => absurd h (Nat.lt_irrefl _)) _).set (fun h => absurd h (Nat.lt_irrefl _)) _,
    hR.kept (((((Kept.refl (fun k => k = w.heap.size) wX).set (fun _ => rfl) _).set (fun _ => rfl) _).set (fun _ => rfl) _).set (fun _ => rfl) _) (fun k hk e => by omega)⟩

theorem Four.set4 {w : World} {b : Nat} {u : GV} (h : Four w b u) (v : GV) : Four ((((w.setCell ⟨b, 0, none⟩ (.int .i64 v.kind)).setCell ⟨b, 1, none⟩ (.int .i64 v.num)).setCell ⟨b, 2, none⟩ (.string v.text)).setCell ⟨b, 3, none⟩ (.int .i64 v.node)) b v := by
  obtain ⟨hl, c0, c1, c2, c3, hf⟩ := h
  refine ⟨by simpa [World.setCell] using hl, ?_, ?_, ?_, ?_, fun o => ?_⟩
  · rw [World.cell?_setCell_other _ _ _ _ (by simp), World.cell?_setCell_other _ _ _ _ (by simp), World.cell?_setCell_other _ _ _ _ (by simp)]
    exact World.cell?_setCell_same _ _ _ c0
  · rw [World.cell?_setCell_other _ _ _ _ (by simp), World.cell?_setCell_other _ _ _ _ (by simp)]
    exact World.cell?_setCell_same (u := .int .i64 u.num) _ _ _ (by rw [World.cell?_setCell_other _ _ _ _ (by simp)]; exact c1)
  · rw [World.cell?_setCell_other _ _ _ _ (by simp)]
    exact World.cell?_setCell_same (u := .string u.text) _ _ _ (by rw [World.cell?_setCell_other _ _ _ _ (by simp), World.cell?_setCell_other _ _ _ _ (by simp)]; exact c2)
  · exact World.cell?_setCell_same (u := .int .i64 u.node) _ _ _ (by rw [World.cell?_setCell_other _ _ _ _ (by simp), World.cell?_setCell_other _ _ _ _ (by simp), World.cell?_setCell_other _ _ _ _ (by simp)]; exact c3)
  · rw [World.frozen?_setCell, World.frozen?_setCell, World.frozen?_setCell, World.frozen?_setCell]; exact hf o

end Go.Proofs.Ythjddpkegooobab

/-
  RDV1: the program's reader: values. Own work.
-/
namespace Go.Proofs.Ythjddpkegooobab
open Go.RowKit

set_option maxHeartbeats 1000000 in
set_option maxRecDepth 100000 in
theorem readVal_nil (b : Nat) (sa : Option Addr) (cap : Nat) (bs t : List Nat)  (w : World) (hR : Rd w b sa cap bs (0 :: t))  :
    Calls Try.prog 147 #[.pointer (some ⟨b, 0, none⟩)] w (RVPost b sa cap bs (0 :: t) w) := by
  have hlt := hR.lt
  have hF0 := Four.new w ⟨0, 0, ⟨#[]⟩, 0⟩ 30
  go_enter Try.func147, Try.ntmps147
  go_wp2_with (go_at_call 174; refine (readByte_any b sa cap bs (0 :: t) _ (hR.grow (gal (gre _) _))).mono ?_; rintro e w1 h1; obtain ⟨rfl, hR1, hK1⟩ := RPost.ok h1; have hF1 := hF0.kept hK1 (by omega); obtain ⟨az, a0, a1, a2, a3, af⟩ := id hF1; have hG := Four.new w1 ⟨0, 0, ⟨#[]⟩, 0⟩ 30; have hs1 := hK1.size; simp only [World.size_alloc] at hs1)
  obtain ⟨_, f0, f1, f2, f3, _⟩ := (hF1.set4 ⟨0, 0, ⟨#[]⟩, 0⟩).alloc (.cells #[.int .i64 0, .int .i64 0, .string ⟨#[]⟩, .int .i64 0] 30)
  obtain ⟨hKF, hRF⟩ := fin4 hlt (kk ((Kept.refl _ w).alloc _) hK1) hR1 (.int .i64 0) (.int .i64 0) (.string ⟨#[]⟩) (.int .i64 0)
  refine bodyPost_ret (v := (GV.mk 0 0 ⟨#[]⟩ 0).val) (by simp [results, Try.results147, go_sem, f0, f1, f2, f3]) rfl ?_
  exact ⟨hKF.alloc _, Or.inl ⟨_, _, rfl, rfl, hRF.grow (gal (gre _) _)⟩⟩

set_option maxHeartbeats 1000000 in
set_option maxRecDepth 100000 in
theorem readVal_num (b : Nat) (sa : Option Addr) (cap : Nat) (bs t : List Nat) (n : Nat) (q : List Nat) (w : World) (hR : Rd w b sa cap bs (1 :: t)) (hq : Hid (rdNum 0 0 t = some (n, q))) :
    Calls Try.prog 147 #[.pointer (some ⟨b, 0, none⟩)] w (RVPost b sa cap bs (1 :: t) w) := by
  have hlt := hR.lt
  have hF0 := Four.new w ⟨0, 0, ⟨#[]⟩, 0⟩ 30
  have hn := rdNum_lt 0 0 t n q (by omega) hq.out
  go_enter Try.func147, Try.ntmps147
  go_wp2_with (first
    | (go_at_call 174; refine (readByte_any b sa cap bs (1 :: t) _ (hR.grow (gal (gre _) _))).mono ?_; rintro e w1 h1; obtain ⟨rfl, hR1, hK1⟩ := RPost.ok h1; have hF1 := hF0.kept hK1 (by omega); obtain ⟨az, a0, a1, a2, a3, af⟩ := id hF1; have hG := Four.new w1 ⟨1, 0, ⟨#[]⟩, 0⟩ 30; have hs1 := hK1.size; simp only [World.size_alloc] at hs1)
    | (go_at_call 173; refine (readNumber_any b sa cap bs t _ (hR1.grow (gal (gre _) _))).mono ?_; rintro e w2 h2; rw [hq.out] at h2; obtain ⟨rfl, hR2, hK2⟩ := RPost.ok h2; have hF2 := (hF1.alloc (.cells #[.int .i64 1, .int .i64 0, .string ⟨#[]⟩, .int .i64 0] 30)).kept hK2 (by omega); obtain ⟨bz, b0, b1, b2, b3, bf⟩ := id hF2; have hG2 := hG.kept hK2 (by omega); obtain ⟨gz, g0, g1, g2, g3, gf⟩ := id hG2; have hs2 := hK2.size; simp only [World.size_alloc] at hs2)
    | (go_at_call 175; refine (signed_any n _ hn).mono ?_; rintro e w3 ⟨rfl, hb3⟩; obtain ⟨iz, i0, i1, i2, i3, if_⟩ := hG2.kept (Kept.of_below hb3 (fun _ => False)) (fun e => e); obtain ⟨cz, c0, c1, c2, c3, cf⟩ := hF2.kept (Kept.of_below hb3 (fun _ => False)) (fun e => e)))
  have hKX := kk (kk ((kk ((Kept.refl _ w).alloc _) hK1).alloc (.cells #[.int .i64 1, .int .i64 0, .string ⟨#[]⟩, .int .i64 0] 30)) hK2) (Kept.of_below hb3 _)
  have hRX := (hR2.grow hb3).kept ((Kept.refl (fun k => k = w1.heap.size) w3).set (a := ⟨w1.heap.size, 1, none⟩) (fun _ => rfl) (.int .i64 (zag n))) (fun k hk e => by omega)
  obtain ⟨hKF, hRF⟩ := fin4 hlt (hKX.set (a := ⟨w1.heap.size, 1, none⟩) (fun h => absurd h (by show ¬ w1.heap.size < _; omega)) (.int .i64 (zag n))) hRX (.int .i64 1) (.int .i64 (zag n)) (.string ⟨#[]⟩) (.int .i64 0)
  refine bodyPost_ret (v := (GV.mk 1 (zag n) ⟨#[]⟩ 0).val) (by simp [results, Try.results147, go_sem, c0, c1, c2, c3]) rfl ?_
  exact ⟨hKF, Or.inl ⟨⟨1, (zag n), ⟨#[]⟩, 0⟩, q, by show rdVal (1 :: t) = _; simp [rdVal, hq.out], rfl, hRF⟩⟩

set_option maxHeartbeats 1000000 in
set_option maxRecDepth 100000 in
theorem readVal_num_no (b : Nat) (sa : Option Addr) (cap : Nat) (bs t : List Nat)  (w : World) (hR : Rd w b sa cap bs (1 :: t)) (hq : Hid (rdNum 0 0 t = none)) :
    Calls Try.prog 147 #[.pointer (some ⟨b, 0, none⟩)] w (RVPost b sa cap bs (1 :: t) w) := by
  have hlt := hR.lt
  have hF0 := Four.new w ⟨0, 0, ⟨#[]⟩, 0⟩ 30
  go_enter Try.func147, Try.ntmps147
  go_wp2_with (first
    | (go_at_call 174; refine (readByte_any b sa cap bs (1 :: t) _ (hR.grow (gal (gre _) _))).mono ?_; rintro e w1 h1; obtain ⟨rfl, hR1, hK1⟩ := RPost.ok h1; have hF1 := hF0.kept hK1 (by omega); obtain ⟨az, a0, a1, a2, a3, af⟩ := id hF1; have hG := Four.new w1 ⟨1, 0, ⟨#[]⟩, 0⟩ 30; have hs1 := hK1.size; simp only [World.size_alloc] at hs1)
    | (go_at_call 173; refine (readNumber_any b sa cap bs t _ (hR1.grow (gal (gre _) _))).mono ?_; rintro e w2 h2; rw [hq.out] at h2; obtain ⟨rfl, hK2⟩ := RPost.no h2))
  exact ⟨rfl, kk ((kk ((Kept.refl _ w).alloc _) hK1).alloc (.cells #[.int .i64 1, .int .i64 0, .string ⟨#[]⟩, .int .i64 0] 30)) hK2, Or.inr ⟨by show rdVal (1 :: t) = _; simp [rdVal, hq.out], rfl⟩⟩

end Go.Proofs.Ythjddpkegooobab

/-
  RDV2: the program's reader: values. Own work.
-/
namespace Go.Proofs.Ythjddpkegooobab
open Go.RowKit

set_option maxHeartbeats 1000000 in
set_option maxRecDepth 100000 in
theorem readVal_bits (b : Nat) (sa : Option Addr) (cap : Nat) (bs t : List Nat) (n : Int) (q : List Nat) (w : World) (hR : Rd w b sa cap bs (2 :: t)) (hq : Hid (rdLow 8 0 0 t = some (n, q))) :
    Calls Try.prog 147 #[.pointer (some ⟨b, 0, none⟩)] w (RVPost b sa cap bs (2 :: t) w) := by
  have hlt := hR.lt
  have hF0 := Four.new w ⟨0, 0, ⟨#[]⟩, 0⟩ 30
  go_enter Try.func147, Try.ntmps147
  go_wp2_with (first
    | (go_at_call 174; refine (readByte_any b sa cap bs (2 :: t) _ (hR.grow (gal (gre _) _))).mono ?_; rintro e w1 h1; obtain ⟨rfl, hR1, hK1⟩ := RPost.ok h1; have hF1 := hF0.kept hK1 (by omega); obtain ⟨az, a0, a1, a2, a3, af⟩ := id hF1; have hG := Four.new w1 ⟨2, 0, ⟨#[]⟩, 0⟩ 30; have hs1 := hK1.size; simp only [World.size_alloc] at hs1)
    | (go_at_call 157; refine (readWord_any b sa cap bs t _ (hR1.grow (gal (gre _) _))).mono ?_; rintro e w2 h2; rw [hq.out] at h2; obtain ⟨rfl, hR2, hK2⟩ := RPost.ok h2; have hF2 := (hF1.alloc (.cells #[.int .i64 2, .int .i64 0, .string ⟨#[]⟩, .int .i64 0] 30)).kept hK2 (by omega); obtain ⟨bz, b0, b1, b2, b3, bf⟩ := id hF2; have hG2 := hG.kept hK2 (by omega); obtain ⟨gz, g0, g1, g2, g3, gf⟩ := id hG2; have hs2 := hK2.size; simp only [World.size_alloc] at hs2))
  have hKX := kk ((kk ((Kept.refl _ w).alloc _) hK1).alloc (.cells #[.int .i64 2, .int .i64 0, .string ⟨#[]⟩, .int .i64 0] 30)) hK2
  have hRX := (hR2).kept ((Kept.refl (fun k => k = w1.heap.size) w2).set (a := ⟨w1.heap.size, 1, none⟩) (fun _ => rfl) (.int .i64 n)) (fun k hk e => by omega)
  obtain ⟨hKF, hRF⟩ := fin4 hlt (hKX.set (a := ⟨w1.heap.size, 1, none⟩) (fun h => absurd h (by show ¬ w1.heap.size < _; omega)) (.int .i64 n)) hRX (.int .i64 2) (.int .i64 n) (.string ⟨#[]⟩) (.int .i64 0)
  refine bodyPost_ret (v := (GV.mk 2 n ⟨#[]⟩ 0).val) (by simp [results, Try.results147, go_sem, b0, b1, b2, b3]) rfl ?_
  exact ⟨hKF, Or.inl ⟨⟨2, n, ⟨#[]⟩, 0⟩, q, by show rdVal (2 :: t) = _; simp [rdVal, hq.out], rfl, hRF⟩⟩

set_option maxHeartbeats 1000000 in
set_option maxRecDepth 100000 in
theorem readVal_bits_no (b : Nat) (sa : Option Addr) (cap : Nat) (bs t : List Nat)  (w : World) (hR : Rd w b sa cap bs (2 :: t)) (hq : Hid (rdLow 8 0 0 t = none)) :
    Calls Try.prog 147 #[.pointer (some ⟨b, 0, none⟩)] w (RVPost b sa cap bs (2 :: t) w) := by
  have hlt := hR.lt
  have hF0 := Four.new w ⟨0, 0, ⟨#[]⟩, 0⟩ 30
  go_enter Try.func147, Try.ntmps147
  go_wp2_with (first
    | (go_at_call 174; refine (readByte_any b sa cap bs (2 :: t) _ (hR.grow (gal (gre _) _))).mono ?_; rintro e w1 h1; obtain ⟨rfl, hR1, hK1⟩ := RPost.ok h1; have hF1 := hF0.kept hK1 (by omega); obtain ⟨az, a0, a1, a2, a3, af⟩ := id hF1; have hG := Four.new w1 ⟨2, 0, ⟨#[]⟩, 0⟩ 30; have hs1 := hK1.size; simp only [World.size_alloc] at hs1)
    | (go_at_call 157; refine (readWord_any b sa cap bs t _ (hR1.grow (gal (gre _) _))).mono ?_; rintro e w2 h2; rw [hq.out] at h2; obtain ⟨rfl, hK2⟩ := RPost.no h2))
  exact ⟨rfl, kk ((kk ((Kept.refl _ w).alloc _) hK1).alloc (.cells #[.int .i64 2, .int .i64 0, .string ⟨#[]⟩, .int .i64 0] 30)) hK2, Or.inr ⟨by show rdVal (2 :: t) = _; simp [rdVal, hq.out], rfl⟩⟩

set_option maxHeartbeats 1000000 in
set_option maxRecDepth 100000 in
theorem readVal_node (b : Nat) (sa : Option Addr) (cap : Nat) (bs t : List Nat) (n : Nat) (q : List Nat) (w : World) (hR : Rd w b sa cap bs (4 :: t)) (hq : Hid (rdCount 300 t = some (n, q))) :
    Calls Try.prog 147 #[.pointer (some ⟨b, 0, none⟩)] w (RVPost b sa cap bs (4 :: t) w) := by
  have hlt := hR.lt
  have hF0 := Four.new w ⟨0, 0, ⟨#[]⟩, 0⟩ 30
  go_enter Try.func147, Try.ntmps147
  go_wp2_with (first
    | (go_at_call 174; refine (readByte_any b sa cap bs (4 :: t) _ (hR.grow (gal (gre _) _))).mono ?_; rintro e w1 h1; obtain ⟨rfl, hR1, hK1⟩ := RPost.ok h1; have hF1 := hF0.kept hK1 (by omega); obtain ⟨az, a0, a1, a2, a3, af⟩ := id hF1; have hG := Four.new w1 ⟨4, 0, ⟨#[]⟩, 0⟩ 30; have hs1 := hK1.size; simp only [World.size_alloc] at hs1)
    | (go_at_call 146; refine (readCount_any b sa cap bs t 300 _ _ (hR1.grow (gal (gre _) _)) rfl (by omega)).mono ?_; rintro e w2 h2; rw [hq.out] at h2; obtain ⟨rfl, hR2, hK2⟩ := RPost.ok h2; have hF2 := (hF1.alloc (.cells #[.int .i64 4, .int .i64 0, .string ⟨#[]⟩, .int .i64 0] 30)).kept hK2 (by omega); obtain ⟨bz, b0, b1, b2, b3, bf⟩ := id hF2; have hG2 := hG.kept hK2 (by omega); obtain ⟨gz, g0, g1, g2, g3, gf⟩ := id hG2; have hs2 := hK2.size; simp only [World.size_alloc] at hs2))
  have hKX := kk ((kk ((Kept.refl _ w).alloc _) hK1).alloc (.cells #[.int .i64 4, .int .i64 0, .string ⟨#[]⟩, .int .i64 0] 30)) hK2
  have hRX := (hR2).kept ((Kept.refl (fun k => k = w1.heap.size) w2).set (a := ⟨w1.heap.size, 3, none⟩) (fun _ => rfl) (.int .i64 (n : Int))) (fun k hk e => by omega)
  obtain ⟨hKF, hRF⟩ := fin4 hlt (hKX.set (a := ⟨w1.heap.size, 3, none⟩) (fun h => absurd h (by show ¬ w1.heap.size < _; omega)) (.int .i64 (n : Int))) hRX (.int .i64 4) (.int .i64 0) (.string ⟨#[]⟩) (.int .i64 (n : Int))
  refine bodyPost_ret (v := (GV.mk 4 0 ⟨#[]⟩ (n : Int)).val) (by simp [results, Try.results147, go_sem, b0, b1, b2, b3]) rfl ?_
  exact ⟨hKF, Or.inl ⟨⟨4, 0, ⟨#[]⟩, (n : Int)⟩, q, by show rdVal (4 :: t) = _; simp [rdVal, hq.out], rfl, hRF⟩⟩

end Go.Proofs.Ythjddpkegooobab

/-
  RDV3: the program's reader: values. Own work.
-/
namespace Go.Proofs.Ythjddpkegooobab
open Go.RowKit

set_option maxHeartbeats 1000000 in
set_option maxRecDepth 100000 in
theorem readVal_node_no (b : Nat) (sa : Option Addr) (cap : Nat) (bs t : List Nat)  (w : World) (hR : Rd w b sa cap bs (4 :: t)) (hq : Hid (rdCount 300 t = none)) :
    Calls Try.prog 147 #[.pointer (some ⟨b, 0, none⟩)] w (RVPost b sa cap bs (4 :: t) w) := by
  have hlt := hR.lt
  have hF0 := Four.new w ⟨0, 0, ⟨#[]⟩, 0⟩ 30
  go_enter Try.func147, Try.ntmps147
  go_wp2_with (first
    | (go_at_call 174; refine (readByte_any b sa cap bs (4 :: t) _ (hR.grow (gal (gre _) _))).mono ?_; rintro e w1 h1; obtain ⟨rfl, hR1, hK1⟩ := RPost.ok h1; have hF1 := hF0.kept hK1 (by omega); obtain ⟨az, a0, a1, a2, a3, af⟩ := id hF1; have hG := Four.new w1 ⟨4, 0, ⟨#[]⟩, 0⟩ 30; have hs1 := hK1.size; simp only [World.size_alloc] at hs1)
    | (go_at_call 146; refine (readCount_any b sa cap bs t 300 _ _ (hR1.grow (gal (gre _) _)) rfl (by omega)).mono ?_; rintro e w2 h2; rw [hq.out] at h2; obtain ⟨rfl, hK2⟩ := RPost.no h2))
  exact ⟨rfl, kk ((kk ((Kept.refl _ w).alloc _) hK1).alloc (.cells #[.int .i64 4, .int .i64 0, .string ⟨#[]⟩, .int .i64 0] 30)) hK2, Or.inr ⟨by show rdVal (4 :: t) = _; simp [rdVal, hq.out], rfl⟩⟩

set_option maxHeartbeats 1000000 in
set_option maxRecDepth 100000 in
theorem readVal_text (b : Nat) (sa : Option Addr) (cap : Nat) (bs t : List Nat) (n : Nat) (q : List Nat) (s : ByteArray) (q2 : List Nat) (w : World) (hR : Rd w b sa cap bs (3 :: t)) (hq : Hid (rdCount 1000 t = some (n, q))) (hn : n ≤ 1048576) (hq2 : Hid (rdText n q = some (s, q2))) :
    Calls Try.prog 147 #[.pointer (some ⟨b, 0, none⟩)] w (RVPost b sa cap bs (3 :: t) w) := by
  have hlt := hR.lt
  have hF0 := Four.new w ⟨0, 0, ⟨#[]⟩, 0⟩ 30
  go_enter Try.func147, Try.ntmps147
  go_wp2_with (first
    | (go_at_call 174; refine (readByte_any b sa cap bs (3 :: t) _ (hR.grow (gal (gre _) _))).mono ?_; rintro e w1 h1; obtain ⟨rfl, hR1, hK1⟩ := RPost.ok h1; have hF1 := hF0.kept hK1 (by omega); obtain ⟨az, a0, a1, a2, a3, af⟩ := id hF1; have hG := Four.new w1 ⟨3, 0, ⟨#[]⟩, 0⟩ 30; have hs1 := hK1.size; simp only [World.size_alloc] at hs1)
    | (go_at_call 146; refine (readCount_any b sa cap bs t 1000 _ _ (hR1.grow (gal (gre _) _)) rfl (by omega)).mono ?_; rintro e w2 h2; rw [hq.out] at h2; obtain ⟨rfl, hR2, hK2⟩ := RPost.ok h2; have hF2 := (hF1.alloc (.cells #[.int .i64 3, .int .i64 0, .string ⟨#[]⟩, .int .i64 0] 30)).kept hK2 (by omega); obtain ⟨bz, b0, b1, b2, b3, bf⟩ := id hF2; have hG2 := hG.kept hK2 (by omega); obtain ⟨gz, g0, g1, g2, g3, gf⟩ := id hG2; have hs2 := hK2.size; simp only [World.size_alloc] at hs2)
    | (go_at_call 145; refine (readText_any b sa cap bs q n _ _ hR2 rfl hn).mono ?_; rintro e w3 h3; rw [hq2.out] at h3; obtain ⟨rfl, hR3, hK3⟩ := RPost.ok h3; obtain ⟨iz, i0, i1, i2, i3, if_⟩ := hG2.kept hK3 (by omega); obtain ⟨cz, c0, c1, c2, c3, cf⟩ := hF2.kept hK3 (by omega); have hs3 := hK3.size))
  have hKX := kk (kk ((kk ((Kept.refl _ w).alloc _) hK1).alloc (.cells #[.int .i64 3, .int .i64 0, .string ⟨#[]⟩, .int .i64 0] 30)) hK2) hK3
  have hRX := (hR3).kept ((Kept.refl (fun k => k = w1.heap.size) w3).set (a := ⟨w1.heap.size, 2, none⟩) (fun _ => rfl) (.string s)) (fun k hk e => by omega)
  obtain ⟨hKF, hRF⟩ := fin4 hlt (hKX.set (a := ⟨w1.heap.size, 2, none⟩) (fun h => absurd h (by show ¬ w1.heap.size < _; omega)) (.string s)) hRX (.int .i64 3) (.int .i64 0) (.string s) (.int .i64 0)
  refine bodyPost_ret (v := (GV.mk 3 0 s 0).val) (by simp [results, Try.results147, go_sem, c0, c1, c2, c3]) rfl ?_
  exact ⟨hKF, Or.inl ⟨⟨3, 0, s, 0⟩, q2, by show rdVal (3 :: t) = _; simp [rdVal, hq.out, hq2.out], rfl, hRF⟩⟩

set_option maxHeartbeats 1000000 in
set_option maxRecDepth 100000 in
theorem readVal_text_no (b : Nat) (sa : Option Addr) (cap : Nat) (bs t : List Nat)  (w : World) (hR : Rd w b sa cap bs (3 :: t)) (hq : Hid (rdCount 1000 t = none)) :
    Calls Try.prog 147 #[.pointer (some ⟨b, 0, none⟩)] w (RVPost b sa cap bs (3 :: t) w) := by
  have hlt := hR.lt
  have hF0 := Four.new w ⟨0, 0, ⟨#[]⟩, 0⟩ 30
  go_enter Try.func147, Try.ntmps147
  go_wp2_with (first
    | (go_at_call 174; refine (readByte_any b sa cap bs (3 :: t) _ (hR.grow (gal (gre _) _))).mono ?_; rintro e w1 h1; obtain ⟨rfl, hR1, hK1⟩ := RPost.ok h1; have hF1 := hF0.kept hK1 (by omega); obtain ⟨az, a0, a1, a2, a3, af⟩ := id hF1; have hG := Four.new w1 ⟨3, 0, ⟨#[]⟩, 0⟩ 30; have hs1 := hK1.size; simp only [World.size_alloc] at hs1)
    | (go_at_call 146; refine (readCount_any b sa cap bs t 1000 _ _ (hR1.grow (gal (gre _) _)) rfl (by omega)).mono ?_; rintro e w2 h2; rw [hq.out] at h2; obtain ⟨rfl, hK2⟩ := RPost.no h2))
  exact ⟨rfl, kk ((kk ((Kept.refl _ w).alloc _) hK1).alloc (.cells #[.int .i64 3, .int .i64 0, .string ⟨#[]⟩, .int .i64 0] 30)) hK2, Or.inr ⟨by show rdVal (3 :: t) = _; simp [rdVal, hq.out], rfl⟩⟩

end Go.Proofs.Ythjddpkegooobab

/-
  RDV4: the program's reader: values. Own work.
-/
namespace Go.Proofs.Ythjddpkegooobab
open Go.RowKit

set_option maxHeartbeats 1000000 in
set_option maxRecDepth 100000 in
theorem readVal_text_no2 (b : Nat) (sa : Option Addr) (cap : Nat) (bs t : List Nat) (n : Nat) (q : List Nat) (w : World) (hR : Rd w b sa cap bs (3 :: t)) (hq : Hid (rdCount 1000 t = some (n, q))) (hn : n ≤ 1048576) (hq2 : Hid (rdText n q = none)) :
    Calls Try.prog 147 #[.pointer (some ⟨b, 0, none⟩)] w (RVPost b sa cap bs (3 :: t) w) := by
  have hlt := hR.lt
  have hF0 := Four.new w ⟨0, 0, ⟨#[]⟩, 0⟩ 30
  go_enter Try.func147, Try.ntmps147
  go_wp2_with (first
    | (go_at_call 174; refine (readByte_any b sa cap bs (3 :: t) _ (hR.grow (gal (gre _) _))).mono ?_; rintro e w1 h1; obtain ⟨rfl, hR1, hK1⟩ := RPost.ok h1; have hF1 := hF0.kept hK1 (by omega); obtain ⟨az, a0, a1, a2, a3, af⟩ := id hF1; have hG := Four.new w1 ⟨3, 0, ⟨#[]⟩, 0⟩ 30; have hs1 := hK1.size; simp only [World.size_alloc] at hs1)
    | (go_at_call 146; refine (readCount_any b sa cap bs t 1000 _ _ (hR1.grow (gal (gre _) _)) rfl (by omega)).mono ?_; rintro e w2 h2; rw [hq.out] at h2; obtain ⟨rfl, hR2, hK2⟩ := RPost.ok h2; have hF2 := (hF1.alloc (.cells #[.int .i64 3, .int .i64 0, .string ⟨#[]⟩, .int .i64 0] 30)).kept hK2 (by omega); obtain ⟨bz, b0, b1, b2, b3, bf⟩ := id hF2; have hG2 := hG.kept hK2 (by omega); obtain ⟨gz, g0, g1, g2, g3, gf⟩ := id hG2; have hs2 := hK2.size; simp only [World.size_alloc] at hs2)
    | (go_at_call 145; refine (readText_any b sa cap bs q n _ _ hR2 rfl hn).mono ?_; rintro e w3 h3; rw [hq2.out] at h3; obtain ⟨rfl, hK3⟩ := RPost.no h3))
  exact ⟨rfl, kk (kk ((kk ((Kept.refl _ w).alloc _) hK1).alloc (.cells #[.int .i64 3, .int .i64 0, .string ⟨#[]⟩, .int .i64 0] 30)) hK2) hK3, Or.inr ⟨by show rdVal (3 :: t) = _; simp [rdVal, hq.out, hq2.out], rfl⟩⟩

set_option maxHeartbeats 1000000 in
set_option maxRecDepth 100000 in
theorem readVal_other (b : Nat) (sa : Option Addr) (cap : Nat) (bs t : List Nat) (x : Nat) (w : World) (hR : Rd w b sa cap bs (x :: t)) (hx : 4 < x) :
    Calls Try.prog 147 #[.pointer (some ⟨b, 0, none⟩)] w (RVPost b sa cap bs (x :: t) w) := by
  have hlt := hR.lt
  have hx256 : x < 256 := (hR.head (x := x) (r' := t) rfl).1
  have hF0 := Four.new w ⟨0, 0, ⟨#[]⟩, 0⟩ 30
  have n0 : ((x : Int) == 0) = false := by simp; omega
  have n1 : ((x : Int) == 1) = false := by simp; omega
  have n2 : ((x : Int) == 2) = false := by simp; omega
  have n3 : ((x : Int) == 3) = false := by simp; omega
  have n4 : ((x : Int) == 4) = false := by simp; omega
  go_enter Try.func147, Try.ntmps147
  go_wp2_with (go_at_call 174; refine (readByte_any b sa cap bs (x :: t) _ (hR.grow (gal (gre _) _))).mono ?_; rintro e w1 h1; obtain ⟨rfl, hR1, hK1⟩ := RPost.ok h1)
  exact ⟨rfl, (kk ((Kept.refl _ w).alloc _) hK1).alloc _, Or.inr ⟨by show rdVal (x :: t) = _; unfold rdVal; dsimp only; rw [if_neg (by omega), if_neg (by omega), if_neg (by omega), if_neg (by omega), if_neg (by omega)], rfl⟩⟩

set_option maxRecDepth 100000 in
theorem readVal_none (b : Nat) (sa : Option Addr) (cap : Nat) (bs : List Nat) (w : World) (hR : Rd w b sa cap bs []) :
    Calls Try.prog 147 #[.pointer (some ⟨b, 0, none⟩)] w (RVPost b sa cap bs [] w) := by
  go_enter Try.func147, Try.ntmps147
  go_wp2_with (go_at_call 174; refine (readByte_any b sa cap bs [] _ (hR.grow (gal (gre _) _))).mono ?_; rintro e w1 h1; obtain ⟨rfl, hK1⟩ := RPost.no h1)
  exact ⟨rfl, kk ((Kept.refl _ w).alloc _) hK1, Or.inr ⟨rfl, rfl⟩⟩

end Go.Proofs.Ythjddpkegooobab

/-
  RDV: the program's reader: any value. Own work.
-/
namespace Go.Proofs.Ythjddpkegooobab
open Go.RowKit

theorem rdCount_le {most : Nat} {r : List Nat} {n : Nat} {q : List Nat} (h : rdCount most r = some (n, q)) : n ≤ most := by
  unfold rdCount at h
  split at h
  · split at h
    · rename_i hle
      have e := congrArg (fun o => o.map Prod.fst) h
      simp only [Option.map_some, Option.some.injEq] at e
      rw [← e]; exact hle
    · cases h
  · cases h

theorem readVal_any (b : Nat) (sa : Option Addr) (cap : Nat) (bs r : List Nat) (w : World) (hR : Rd w b sa cap bs r) :
    Calls Try.prog 147 #[.pointer (some ⟨b, 0, none⟩)] w (RVPost b sa cap bs r w) := by
  cases r with
  | nil => exact readVal_none b sa cap bs w hR
  | cons x t =>
    by_cases h0 : x = 0
    · subst h0; exact readVal_nil b sa cap bs t w hR
    by_cases h1 : x = 1
    · subst h1
      cases hq : rdNum 0 0 t with
      | none => exact readVal_num_no b sa cap bs t w hR hq
      | some y => exact readVal_num b sa cap bs t y.1 y.2 w hR hq
    by_cases h2 : x = 2
    · subst h2
      cases hq : rdLow 8 0 0 t with
      | none => exact readVal_bits_no b sa cap bs t w hR hq
      | some y => exact readVal_bits b sa cap bs t y.1 y.2 w hR hq
    by_cases h3 : x = 3
    · subst h3
      cases hq : rdCount 1000 t with
      | none => exact readVal_text_no b sa cap bs t w hR hq
      | some y =>
        have hn : y.1 ≤ 1048576 := by have := rdCount_le (n := y.1) (q := y.2) hq; omega
        cases hq2 : rdText y.1 y.2 with
        | none => exact readVal_text_no2 b sa cap bs t y.1 y.2 w hR hq hn hq2
        | some z => exact readVal_text b sa cap bs t y.1 y.2 z.1 z.2 w hR hq hn hq2
    by_cases h4 : x = 4
    · subst h4
      cases hq : rdCount 300 t with
      | none => exact readVal_node_no b sa cap bs t w hR hq
      | some y => exact readVal_node b sa cap bs t y.1 y.2 w hR hq
    exact readVal_other b sa cap bs t x w hR (by omega)

end Go.Proofs.Ythjddpkegooobab

/-
  WR3: the program's writer: values. Own work.
-/
namespace Go.Proofs.Ythjddpkegooobab
open Go.RowKit

set_option maxRecDepth 100000 in
theorem WPost.ok {b a : Nat} {xs ys : List Nat} {w wk : World} (hK : Kept (fun k => k = b ∨ k = a) w wk) (hW : Wr wk b a (xs ++ ys)) : WPost b a xs ys w (.returned (.tuple #[])) wk :=
  ⟨hK, Or.inl ⟨by have := hW.le; rwa [List.length_append] at this, rfl, hW⟩⟩
theorem WPost.no {b a : Nat} {xs ys : List Nat} {w wk : World} (hK : Kept (fun k => k = b ∨ k = a) w wk) (hno : 4096 < xs.length + ys.length) : WPost b a xs ys w (.panicked [haltP]) wk :=
  ⟨hK, Or.inr ⟨hno, rfl⟩⟩
set_option maxRecDepth 100000 in
theorem kt {p : Nat → Prop} {w w' w'' : World} (h : Kept p w w') (k : Kept p w' w'') : Kept p w w'' := h.trans k (fun _ _ h => h)

theorem writeVal_nil (b a : Nat) (xs : List Nat)  (w : World) (hW : Wr w b a xs)  :
    Calls Try.prog 136 #[.pointer (some ⟨b, 0, none⟩), (GV.mk 0 0 ⟨#[]⟩ 0).val] w (WPost b a xs (0 :: []) w) := by
  have hF := Four.new w ⟨0, 0, ⟨#[]⟩, 0⟩ 30
  have hlt := hW.cur.lt
  have hla := hW.row.lt
  go_enter Try.func136, Try.ntmps136
  go_wp2_with (go_at_call 139; refine (writeByte_any b a xs 0 _ _ (hW.grow (gal (gre _) _)) ?_).mono ?_; rfl; rintro e w1 ⟨hK1, h1⟩; obtain ⟨fz, f0, f1, f2, f3, ff⟩ := hF.kept hK1 (by omega); obtain ⟨hf, rfl, hW1⟩ | ⟨hno, rfl⟩ := h1)
  · go_end0
    exact WPost.ok (kt ((Kept.refl _ w).alloc _) hK1) hW1
  · exact ⟨rfl, WPost.no (kt ((Kept.refl _ w).alloc _) hK1) hno⟩

set_option maxRecDepth 100000 in
theorem writeVal_num (b a : Nat) (xs : List Nat) (num : Int) (w : World) (hW : Wr w b a xs) (hn : I64 num) :
    Calls Try.prog 136 #[.pointer (some ⟨b, 0, none⟩), (GV.mk 1 num ⟨#[]⟩ 0).val] w (WPost b a xs (1 :: numB (zig num)) w) := by
  have hF := Four.new w ⟨1, num, ⟨#[]⟩, 0⟩ 30
  have hlt := hW.cur.lt
  have hla := hW.row.lt
  go_enter Try.func136, Try.ntmps136
  go_wp2_with (first
    | (go_at_call 139; refine (writeByte_any b a xs 1 _ _ (hW.grow (gal (gre _) _)) ?_).mono ?_; rfl; rintro e w1 ⟨hK1, h1⟩; obtain ⟨fz, f0, f1, f2, f3, ff⟩ := hF.kept hK1 (by omega); obtain ⟨hf, rfl, hW1⟩ | ⟨hno, rfl⟩ := h1)
    | (go_at_call 167; refine (unsigned_any num _ hn).mono ?_; rintro e w2 ⟨rfl, hb2⟩)
    | (go_at_call 135; refine (writeNumber_any b a (xs ++ [1]) (zig num) _ _ (hW1.grow hb2) rfl (zig_lt hn)).mono ?_; rintro e w3 ⟨hK3, ⟨hf3, rfl, hW3⟩ | ⟨hno3, rfl⟩⟩))
  · go_end0
    exact WPost.ok (kt (kt (kt ((Kept.refl _ w).alloc _) hK1) (Kept.of_below hb2 _)) hK3) (by rw [List.append_assoc] at hW3; exact hW3)
  · exact ⟨rfl, WPost.no (kt (kt (kt ((Kept.refl _ w).alloc _) hK1) (Kept.of_below hb2 _)) hK3) (by simp at hno3 ⊢; omega)⟩
  · exact ⟨rfl, WPost.no (kt ((Kept.refl _ w).alloc _) hK1) (by simp at hno ⊢; omega)⟩

set_option maxRecDepth 100000 in
theorem writeVal_bits (b a : Nat) (xs : List Nat) (num : Int) (w : World) (hW : Wr w b a xs) (hn : I64 num) :
    Calls Try.prog 136 #[.pointer (some ⟨b, 0, none⟩), (GV.mk 2 num ⟨#[]⟩ 0).val] w (WPost b a xs (2 :: lowB 8 (u64n num)) w) := by
  have hF := Four.new w ⟨2, num, ⟨#[]⟩, 0⟩ 30
  have hlt := hW.cur.lt
  have hla := hW.row.lt
  go_enter Try.func136, Try.ntmps136
  go_wp2_with (first
    | (go_at_call 139; refine (writeByte_any b a xs 2 _ _ (hW.grow (gal (gre _) _)) ?_).mono ?_; rfl; rintro e w1 ⟨hK1, h1⟩; obtain ⟨fz, f0, f1, f2, f3, ff⟩ := hF.kept hK1 (by omega); obtain ⟨hf, rfl, hW1⟩ | ⟨hno, rfl⟩ := h1)
    | (go_at_call 77; refine (writeWord_any b a (xs ++ [2]) num _ hW1 hn).mono ?_; rintro e w3 ⟨hK3, ⟨hf3, rfl, hW3⟩ | ⟨hno3, rfl⟩⟩))
  · go_end0
    exact WPost.ok (kt (kt ((Kept.refl _ w).alloc _) hK1) hK3) (by rw [List.append_assoc] at hW3; exact hW3)
  · exact ⟨rfl, WPost.no (kt (kt ((Kept.refl _ w).alloc _) hK1) hK3) (by simp at hno3 ⊢; omega)⟩
  · exact ⟨rfl, WPost.no (kt ((Kept.refl _ w).alloc _) hK1) (by simp at hno ⊢; omega)⟩

set_option maxRecDepth 100000 in
theorem writeVal_node (b a : Nat) (xs : List Nat) (node : Nat) (w : World) (hW : Wr w b a xs) (hn : node < 300) :
    Calls Try.prog 136 #[.pointer (some ⟨b, 0, none⟩), (GV.mk 4 0 ⟨#[]⟩ node).val] w (WPost b a xs (4 :: numB node) w) := by
  have hF := Four.new w ⟨4, 0, ⟨#[]⟩, node⟩ 30
  have hlt := hW.cur.lt
  have hla := hW.row.lt
  have e6 : IntKind.u64.wrap (node : Int) = (node : Int) := by rw [IntKind.wrap_u64]; omega
  go_enter Try.func136, Try.ntmps136
  go_wp2_with (first
    | (go_at_call 139; refine (writeByte_any b a xs 4 _ _ (hW.grow (gal (gre _) _)) ?_).mono ?_; rfl; rintro e w1 ⟨hK1, h1⟩; obtain ⟨fz, f0, f1, f2, f3, ff⟩ := hF.kept hK1 (by omega); obtain ⟨hf, rfl, hW1⟩ | ⟨hno, rfl⟩ := h1)
    | (go_at_call 135; refine (writeNumber_any b a (xs ++ [4]) node _ _ hW1 ?_ (by omega)).mono ?_; (first | rfl | exact e6 | trace_state); rintro e w3 ⟨hK3, ⟨hf3, rfl, hW3⟩ | ⟨hno3, rfl⟩⟩))
  · go_end0
    exact WPost.ok (kt (kt ((Kept.refl _ w).alloc _) hK1) hK3) (by rw [List.append_assoc] at hW3; exact hW3)
  · exact ⟨rfl, WPost.no (kt (kt ((Kept.refl _ w).alloc _) hK1) hK3) (by simp at hno3 ⊢; omega)⟩
  · exact ⟨rfl, WPost.no (kt ((Kept.refl _ w).alloc _) hK1) (by simp at hno ⊢; omega)⟩

set_option maxRecDepth 100000 in
theorem writeVal_text (b a : Nat) (xs : List Nat) (text : ByteArray) (w : World) (hW : Wr w b a xs) (hn : text.size ≤ 1000) :
    Calls Try.prog 136 #[.pointer (some ⟨b, 0, none⟩), (GV.mk 3 0 text 0).val] w (WPost b a xs (3 :: (numB text.size ++ bsOf text)) w) := by
  have hF := Four.new w ⟨3, 0, text, 0⟩ 30
  have hlt := hW.cur.lt
  have hla := hW.row.lt
  have e6 : IntKind.u64.wrap (text.size : Int) = (text.size : Int) := by rw [IntKind.wrap_u64]; omega
  go_enter Try.func136, Try.ntmps136
  go_wp2_with (first
    | (go_at_call 139; refine (writeByte_any b a xs 3 _ _ (hW.grow (gal (gre _) _)) ?_).mono ?_; rfl; rintro e w1 ⟨hK1, h1⟩; have hF1 := hF.kept hK1 (by omega); obtain ⟨fz, f0, f1, f2, f3, ff⟩ := id hF1; obtain ⟨hf, rfl, hW1⟩ | ⟨hno, rfl⟩ := h1)
    | (go_at_call 135; refine (writeNumber_any b a (xs ++ [3]) text.size _ _ hW1 ?_ (by omega)).mono ?_; (first | rfl | exact e6 | trace_state); rintro e w3 ⟨hK3, h3⟩; obtain ⟨gz, g0, g1, g2, g3, gf⟩ := hF1.kept hK3 (by omega); obtain ⟨hf3, rfl, hW3⟩ | ⟨hno3, rfl⟩ := h3)
    | (go_at_call 118; refine (writeText_any b a (xs ++ [3] ++ numB text.size) text _ hW3 hn).mono ?_; rintro e w4 ⟨hK4, ⟨hf4, rfl, hW4⟩ | ⟨hno4, rfl⟩⟩))
  · go_end0
    exact WPost.ok (kt (kt (kt ((Kept.refl _ w).alloc _) hK1) hK3) hK4) (by rw [List.append_assoc, List.append_assoc] at hW4; exact hW4)
  · exact ⟨rfl, WPost.no (kt (kt (kt ((Kept.refl _ w).alloc _) hK1) hK3) hK4) (by simp at hno4 ⊢; omega)⟩
  · exact ⟨rfl, WPost.no (kt (kt ((Kept.refl _ w).alloc _) hK1) hK3) (by simp at hno3 ⊢; omega)⟩
  · exact ⟨rfl, WPost.no (kt ((Kept.refl _ w).alloc _) hK1) (by simp at hno ⊢; omega)⟩

set_option maxRecDepth 100000 in
/-- a well made value is one of five -/
theorem okV_cases {n : Nat} {v : GV} (h : okV n v = true) : v = ⟨0, 0, ⟨#[]⟩, 0⟩ ∨ (∃ m, v = ⟨1, m, ⟨#[]⟩, 0⟩) ∨ (∃ m, v = ⟨2, m, ⟨#[]⟩, 0⟩) ∨ (∃ t, t.size ≤ 1000 ∧ v = ⟨3, 0, t, 0⟩) ∨ (∃ k : Nat, k < n ∧ v = ⟨4, 0, ⟨#[]⟩, k⟩) := by
  obtain ⟨k, m, t, d⟩ := v
  unfold okV at h
  dsimp only at h
  split at h
  · rename_i hk
    obtain ⟨h1, h2, h3⟩ := of_decide_eq_true h
    exact Or.inl (by rw [hk, h1, text_empty h2, h3])
  · split at h
    · rename_i hk
      obtain ⟨h2, h3⟩ := of_decide_eq_true h
      rcases hk with hk | hk
      · exact Or.inr (Or.inl ⟨m, by rw [hk, text_empty h2, h3]⟩)
      · exact Or.inr (Or.inr (Or.inl ⟨m, by rw [hk, text_empty h2, h3]⟩))
    · split at h
      · rename_i hk
        obtain ⟨h1, h2, h3⟩ := of_decide_eq_true h
        exact Or.inr (Or.inr (Or.inr (Or.inl ⟨t, h3, by rw [hk, h1, h2]⟩)))
      · split at h
        · rename_i hk
          obtain ⟨h1, h2, h3, h4⟩ := of_decide_eq_true h
          exact Or.inr (Or.inr (Or.inr (Or.inr ⟨d.toNat, by omega, by rw [hk, h1, text_empty h2, show ((d.toNat : Nat) : Int) = d by omega]⟩)))
        · cases h

set_option maxRecDepth 100000 in
theorem writeVal_any (b a n : Nat) (xs : List Nat) (v : GV) (w : World) (hW : Wr w b a xs) (hn : n ≤ 300) (ho : v.Ok) (hv : okV n v = true) :
    Calls Try.prog 136 #[.pointer (some ⟨b, 0, none⟩), v.val] w (WPost b a xs (valB v) w) := by
  rcases okV_cases hv with rfl | ⟨m, rfl⟩ | ⟨m, rfl⟩ | ⟨t, ht, rfl⟩ | ⟨k, hk, rfl⟩
  · exact writeVal_nil b a xs w hW
  · exact writeVal_num b a xs m w hW ho.num
  · exact writeVal_bits b a xs m w hW ho.num
  · exact writeVal_text b a xs t w hW ht
  · exact writeVal_node b a xs k w hW (by omega)

end Go.Proofs.Ythjddpkegooobab

/-
  CANONOK: the one form is of the sizes of what it comes from. Own work.
-/
namespace Go.Proofs.Ythjddpkegooobab
open Go.RowKit

theorem canonN_all {nodes : List GN} {ord0 : List Nat} {p : GN → Prop} (h0 : InvO nodes.length ord0) (hn : ∀ n, n ∈ nodes → okN nodes.length n = true) (hp : ∀ (ord : List Nat) (n : GN), InvO nodes.length ord → n ∈ nodes → p ⟨n.tag, renVals ord n.vals⟩) : ∀ (k : Nat) (n : GN), n ∈ canonN nodes ord0 k → p n
  | 0, n, hx => by unfold canonN at hx; cases hx
  | k + 1, n, hx => by
    rw [canonN_succ] at hx
    have hi := canonO_inv h0 hn k
    split at hx
    · rename_i hlt
      rcases List.mem_append.1 hx with h | h
      · exact canonN_all h0 hn hp k n h
      · rw [List.mem_singleton] at h
        rw [h]
        exact hp _ _ hi (mem_at (hi.2 _ (mem_at hlt)))
    · exact canonN_all h0 hn hp k n hx

theorem canonN_length (nodes : List GN) (ord0 : List Nat) : ∀ k, (canonN nodes ord0 k).length ≤ k
  | 0 => by unfold canonN; simp
  | k + 1 => by
    have := canonN_length nodes ord0 k
    rw [canonN_succ]
    split
    · simp; omega
    · omega

theorem canon_all {g : GG} {p : GN → Prop} (hok : okG g = true) (hp : ∀ (ord : List Nat) (n : GN), InvO g.nodes.length ord → n ∈ g.nodes → p ⟨n.tag, renVals ord n.vals⟩) : ∀ n, n ∈ (canon g).nodes → p n := fun n hn => by
  obtain ⟨_, h2, h3⟩ := okG_parts hok
  exact canonN_all ((InvO.nil _).ren h2) h3 hp g.nodes.length n hn

theorem canon_small {g : GG} (hok : okG g = true) : (canon g).nodes.length ≤ 300 ∧ ∀ n, n ∈ (canon g).nodes → n.vals.length ≤ 100 := by
  obtain ⟨h1, _, h3⟩ := okG_parts hok
  refine ⟨?_, canon_all hok (fun ord n _ hn => ?_)⟩
  · have := canonN_length g.nodes (renOrd [] g.root) g.nodes.length
    unfold canon
    simp only
    omega
  · simp only [renVals_length]
    exact (okN_parts (h3 n hn)).1

theorem renVal_ok {n : Nat} {ord : List Nat} {v : GV} (hv : v.Ok) (hk : okV n v = true) (hinv : InvO n ord) (hn : n ≤ 300) : (renVal ord v).Ok := by
  unfold renVal
  split
  · have h1 := (hinv.ren hk).le
    have h2 := List.idxOf_le_length (a := v.node.toNat) (l := renOrd ord v)
    exact ⟨hv.1, hv.2, hv.3, by unfold I64; simp only; omega⟩
  · exact hv

theorem renVals_ok {n : Nat} {ord : List Nat} {l : List GV} (hv : ∀ v, v ∈ l → v.Ok) (hk : ∀ v, v ∈ l → okV n v = true) (hinv : InvO n ord) (hn : n ≤ 300) : ∀ v, v ∈ renVals ord l → v.Ok := by
  induction l generalizing ord with
  | nil => intro v hx; unfold renVals at hx; cases hx
  | cons y r ih =>
    intro v hx
    unfold renVals at hx
    rcases List.mem_cons.1 hx with h | h
    · rw [h]; exact renVal_ok (hv y (List.mem_cons_self ..)) (hk y (List.mem_cons_self ..)) hinv hn
    · exact ih (fun z hz => hv z (List.mem_cons_of_mem _ hz)) (fun z hz => hk z (List.mem_cons_of_mem _ hz)) (hinv.ren (hk y (List.mem_cons_self ..))) v h

theorem canon_ok {g : GG} (hg : g.Ok) (hok : okG g = true) : (canon g).Ok := by
  obtain ⟨h1, h2, h3⟩ := okG_parts hok
  have hs := canon_small hok
  refine ⟨renVal_ok hg.root h2 (InvO.nil _) h1, by unfold maxLen; omega, canon_all hok (fun ord n hi hn => ?_)⟩
  have h4 := okN_parts (h3 n hn)
  exact ⟨(hg.nodes n hn).tag, by simp only [renVals_length]; exact (hg.nodes n hn).len, renVals_ok (hg.nodes n hn).vals h4.2 hi h1⟩

end Go.Proofs.Ythjddpkegooobab
