import Derived.Laws.BytesArg
import Derived.Laws.BitsAllLaws
import Derived.WalkLawsBesides
import Derived.Deep.QuietTactic
import Derived.Test.YtmdpmdmilgbfiaaGreatDoorPartH

/-
  RDPLAIN: reading images, plain. Own work.
-/
namespace Go.Proofs.YtmdpmdmilgbfiaaGreatDoor

/-- a group of bits more -/
def orU (n x s : Nat) : Nat := n ||| (x * 2 ^ min s 64 % 18446744073709551616)
/-- the program's number -/
def rdNum (n s : Nat) : List Nat → Option (Nat × List Nat)
  | [] => none
  | b :: r => if b < 128 then some (orU n (b % 128) s, r) else rdNum (orU n (b % 128) s) (s + 7) r
def rdCount (most : Nat) (r : List Nat) : Option (Nat × List Nat) :=
  match rdNum 0 0 r with
  | some (n, r') => if n ≤ most then some (n, r') else none
  | none => none
def strB (bs : List Nat) : ByteArray := strOfNums (bs.map fun (x : Nat) => (x : Int))
def rdText (n : Nat) (r : List Nat) : Option (ByteArray × List Nat) := if n ≤ r.length then some (strB (r.take n), r.drop n) else none
/-- a byte more into a word -/
def orI (n : Int) (b i : Nat) : Int := bits .or .i64 n (IntKind.i64.wrap ((b : Int) * 2 ^ (8 * i)))
def rdLow : Nat → Nat → Int → List Nat → Option (Int × List Nat)
  | 0, _, n, r => some (n, r)
  | _ + 1, _, _, [] => none
  | k + 1, i, n, b :: r => rdLow k (i + 1) (orI n b i) r
def zag (n : Nat) : Int := if n % 2 = 1 then -((n / 2 : Nat) : Int) - 1 else ((n / 2 : Nat) : Int)
def rdVal : List Nat → Option (GV × List Nat)
  | [] => none
  | k :: r =>
    if k = 0 then some (⟨0, 0, ⟨#[]⟩, 0⟩, r)
    else if k = 1 then (rdNum 0 0 r).map fun x => (⟨1, zag x.1, ⟨#[]⟩, 0⟩, x.2)
    else if k = 2 then (rdLow 8 0 0 r).map fun x => (⟨2, x.1, ⟨#[]⟩, 0⟩, x.2)
    else if k = 3 then (rdCount 1000 r).bind fun x => (rdText x.1 x.2).map fun y => (⟨3, 0, y.1, 0⟩, y.2)
    else if k = 4 then (rdCount 300 r).map fun x => (⟨4, 0, ⟨#[]⟩, (x.1 : Int)⟩, x.2)
    else none
def rdVals : Nat → List Nat → Option (List GV × List Nat)
  | 0, r => some ([], r)
  | k + 1, r => (rdVal r).bind fun x => (rdVals k x.2).map fun y => (x.1 :: y.1, y.2)
def rdNode (r : List Nat) : Option (GN × List Nat) :=
  (rdCount 1000 r).bind fun t => (rdCount 100 t.2).bind fun m => (rdVals m.1 m.2).map fun y => (⟨(t.1 : Int), y.1⟩, y.2)
def rdNodes : Nat → List Nat → Option (List GN × List Nat)
  | 0, r => some ([], r)
  | k + 1, r => (rdNode r).bind fun x => (rdNodes k x.2).map fun y => (x.1 :: y.1, y.2)
def rdGraph (r : List Nat) : Option (GG × List Nat) :=
  (rdText 2 r).bind fun t => if t.1 = ⟨#[72, 49]⟩ then (rdCount 300 t.2).bind fun m => (rdVal m.2).bind fun x => (rdNodes m.1 x.2).map fun y => (⟨x.1, y.1⟩, y.2) else none

/-! numbers are read back -/
theorem orU_join {n x s : Nat} (hn : n < 2 ^ s) (hx : n + x * 2 ^ s < 18446744073709551616) (hs : s ≤ 64) : orU n x s = n + x * 2 ^ s := by
  unfold orU
  rw [Nat.min_eq_left hs, Nat.mod_eq_of_lt (by omega), Nat.or_comm, nat_join s (x * 2 ^ s) n (Nat.mul_mod_left _ _) hn]
  omega

theorem rdNum_back : ∀ (f m n s : Nat) (r : List Nat), m < f → n < 2 ^ s → n + m * 2 ^ s < 18446744073709551616 → s ≤ 64 → rdNum n s (numB m ++ r) = some (n + m * 2 ^ s, r)
  | 0, _, _, _, _, h, _, _, _ => absurd h (Nat.not_lt_zero _)
  | f + 1, m, n, s, r, hf, hn, hb, hs => by
    by_cases h : m < 128
    · rw [numB_small h]
      show (if m < 128 then _ else _) = _
      rw [if_pos h, Nat.mod_eq_of_lt h, orU_join hn hb hs]
      rfl
    · rw [numB_great h]
      show (if m % 128 + 128 < 128 then _ else _) = _
      have e1 : (m % 128 + 128) % 128 = m % 128 := by omega
      have hpow : 2 ^ (s + 7) = 2 ^ s * 128 := by rw [Nat.pow_add]
      have h2s : 0 < 2 ^ s := Nat.pow_pos (by omega)
      have hm : m = m % 128 + m / 128 * 128 := by omega
      have hsum : n + m * 2 ^ s = n + m % 128 * 2 ^ s + m / 128 * 2 ^ (s + 7) := by
        rw [hpow]
        conv => lhs; rw [hm]
        rw [Nat.add_mul, Nat.mul_assoc, Nat.mul_comm 128 (2 ^ s), Nat.add_assoc]
      have hs7 : s + 7 ≤ 64 := by
        have h1 : 2 ^ (s + 7) ≤ m / 128 * 2 ^ (s + 7) := Nat.le_mul_of_pos_left _ (by omega)
        have h2 : 2 ^ (s + 7) < 2 ^ 64 := by omega
        have := (Nat.pow_lt_pow_iff_right (a := 2) (by omega)).1 h2
        omega
      rw [if_neg (by omega), e1, orU_join hn (by omega) hs]
      have h3 : n + m % 128 * 2 ^ s < 2 ^ (s + 7) := by
        rw [hpow]
        have h4 : (m % 128 + 1) * 2 ^ s ≤ 128 * 2 ^ s := Nat.mul_le_mul_right _ (by omega)
        rw [Nat.add_mul] at h4
        rw [Nat.mul_comm (2 ^ s) 128]
        omega
      rw [hsum]
      exact rdNum_back f (m / 128) _ (s + 7) r (by omega) h3 (by omega) hs7

theorem rdNum_num {m : Nat} (h : m < 18446744073709551616) (r : List Nat) : rdNum 0 0 (numB m ++ r) = some (m, r) := by
  have h1 := rdNum_back (m + 1) m 0 0 r (by omega) (by simp) (by simpa using h) (by omega)
  simpa using h1
theorem rdCount_num {m most : Nat} (h : m ≤ most) (hm : most < 18446744073709551616) (r : List Nat) : rdCount most (numB m ++ r) = some (m, r) := by
  unfold rdCount
  rw [rdNum_num (by omega)]
  exact if_pos h

theorem strB_bs (s : ByteArray) : strB (bsOf s) = s := by
  apply ByteArray.ext
  apply Array.ext'
  show ((bsOf s).map _).map _ = _
  unfold bsOf
  rw [List.map_map, List.map_map]
  conv => rhs; rw [← List.map_id s.data.toList]
  apply List.map_congr_left
  intro x _
  show UInt8.ofNat ((x.toNat : Int)).toNat = x
  simp
theorem rdText_bs (s : ByteArray) (r : List Nat) : rdText s.size (bsOf s ++ r) = some (s, r) := by
  unfold rdText
  have h := bsOf_length s
  rw [if_pos (by rw [List.length_append]; omega)]
  have e1 : (bsOf s ++ r).take s.size = bsOf s := by rw [← h, List.take_left]
  have e2 : (bsOf s ++ r).drop s.size = r := by rw [← h, List.drop_left]
  rw [e1, e2, strB_bs]

theorem ofInt_wrap (a : Nat) (h : a < 18446744073709551616) : (BitVec.ofInt 64 (IntKind.i64.wrap (a : Int))).toNat = a := by
  rw [IntKind.wrap_i64, BitVec.toNat_ofInt]
  have e : ((2 ^ 64 : Nat) : Int) = 18446744073709551616 := by decide
  rw [e]
  omega
theorem orI_join {a b i : Nat} (ha : a < 2 ^ (8 * i)) (hb : b < 256) (hi : i < 8) : orI (IntKind.i64.wrap (a : Int)) b i = IntKind.i64.wrap ((a + b * 2 ^ (8 * i) : Nat) : Int) := by
  have h64 : a + b * 2 ^ (8 * i) < 18446744073709551616 := by
    have h1 : (b + 1) * 2 ^ (8 * i) ≤ 256 * 2 ^ (8 * i) := Nat.mul_le_mul_right _ (by omega)
    have h2 : 256 * 2 ^ (8 * i) = 2 ^ (8 * i + 8) := by rw [Nat.pow_add]; omega
    have h3 : 2 ^ (8 * i + 8) ≤ 2 ^ 64 := Nat.pow_le_pow_right (by omega) (by omega)
    rw [Nat.add_mul] at h1
    omega
  have e : ((b : Int) * 2 ^ (8 * i)) = ((b * 2 ^ (8 * i) : Nat) : Int) := by push_cast; rfl
  unfold orI
  rw [e]
  show IntKind.i64.wrap ((BitVec.ofInt 64 (IntKind.i64.wrap (a : Int)) ||| BitVec.ofInt 64 (IntKind.i64.wrap ((b * 2 ^ (8 * i) : Nat) : Int))).toNat : Nat) = _
  rw [BitVec.toNat_or, ofInt_wrap a (by omega), ofInt_wrap _ (by omega), Nat.or_comm, nat_join (8 * i) (b * 2 ^ (8 * i)) a (Nat.mul_mod_left _ _) ha, Nat.add_comm]

theorem rdLow_back : ∀ (k i a m : Nat) (r : List Nat), i + k = 8 → a < 2 ^ (8 * i) → rdLow k i (IntKind.i64.wrap (a : Int)) (lowB k m ++ r) = some (IntKind.i64.wrap ((a + m % 2 ^ (8 * k) * 2 ^ (8 * i) : Nat) : Int), r)
  | 0, i, a, m, r, _, _ => by
    show some (_, r) = _
    simp [Nat.mod_one]
  | k + 1, i, a, m, r, hk, ha => by
    show rdLow k (i + 1) (orI (IntKind.i64.wrap (a : Int)) (m % 256) i) (lowB k (m / 256) ++ r) = _
    have hp : 2 ^ (8 * (i + 1)) = 2 ^ (8 * i) * 256 := by rw [show 8 * (i + 1) = 8 * i + 8 by omega, Nat.pow_add]
    have hlt : a + m % 256 * 2 ^ (8 * i) < 2 ^ (8 * (i + 1)) := by
      have h1 : (m % 256 + 1) * 2 ^ (8 * i) ≤ 256 * 2 ^ (8 * i) := Nat.mul_le_mul_right _ (by omega)
      rw [Nat.add_mul] at h1
      rw [hp, Nat.mul_comm (2 ^ (8 * i)) 256]
      omega
    rw [orI_join ha (by omega) (by omega), rdLow_back k (i + 1) _ (m / 256) r (by omega) hlt]
    congr 4
    have e1 : m % 2 ^ (8 * (k + 1)) = m % 256 + m / 256 % 2 ^ (8 * k) * 256 := by
      rw [show 2 ^ (8 * (k + 1)) = 256 * 2 ^ (8 * k) by rw [show 8 * (k + 1) = 8 + 8 * k by omega, Nat.pow_add], Nat.mod_mul]
      omega
    rw [e1, hp, Nat.add_mul, Nat.mul_assoc, Nat.mul_comm 256 (2 ^ (8 * i)), Nat.add_assoc]

theorem rdLow_word {n : Int} (h : I64 n) (r : List Nat) : rdLow 8 0 0 (lowB 8 (u64n n) ++ r) = some (n, r) := by
  have h1 := rdLow_back 8 0 0 (u64n n) r (by omega) (by simp)
  have e0 : IntKind.i64.wrap ((0 : Nat) : Int) = 0 := by rw [IntKind.wrap_i64]; omega
  rw [e0] at h1
  rw [h1]
  congr 2
  unfold I64 at h
  have e1 : u64n n % 2 ^ (8 * 8) = u64n n := Nat.mod_eq_of_lt (u64n_lt n)
  rw [e1, IntKind.wrap_i64]
  unfold u64n
  simp
  omega
theorem zag_zig (n : Int) : zag (zig n) = n := by
  unfold zag zig
  split <;> split <;> omega

end Go.Proofs.YtmdpmdmilgbfiaaGreatDoor

/-
  HPLAIN: heads as they are read. Own work.
-/
namespace Go.Proofs.YtmdpmdmilgbfiaaGreatDoor
open Go.RowKit

structure HH where
  ok : Bool
  gen : Int
  len : Int
  sum : Int
abbrev HH.val (h : HH) : Value := headV h.ok h.gen h.len h.sum
abbrev noH : HH := ⟨false, 0, 0, 0⟩

/-- a head whose block these bytes are -/
structure HH.Is (h : HH) (bs : List Nat) : Prop where
  ok : h.ok = true
  rng : headOkB true h.gen h.len = true
  sum : I64 h.sum
  eq : bs = headB h.gen h.len h.sum

def headOf (bs : List Nat) : HH :=
  match rdLow 8 0 0 (bs.drop 4) with
  | some (g, r) =>
    match rdLow 8 0 0 r with
    | some (l, r2) =>
      match rdLow 8 0 0 r2 with
      | some (s, _) => if headOkB true g l = true ∧ (-9223372036854775808 ≤ s ∧ s ≤ 9223372036854775807) ∧ bs = headB g l s then ⟨true, g, l, s⟩ else noH
      | none => noH
    | none => noH
  | none => noH

theorem rng_i64 {g l : Int} (h : headOkB true g l = true) : (1 ≤ g ∧ g ≤ 1000000000000) ∧ 1 ≤ l ∧ l ≤ 4096 := by
  unfold headOkB at h
  simp at h
  omega
theorem rng_mk {g l : Int} (h : (1 ≤ g ∧ g ≤ 1000000000000) ∧ 1 ≤ l ∧ l ≤ 4096) : headOkB true g l = true := by
  unfold headOkB
  simp
  omega
theorem headB_drop (g l s : Int) : (headB g l s).drop 4 = lowB 8 (u64n g) ++ (lowB 8 (u64n l) ++ (lowB 8 (u64n s) ++ (lowB 8 (sumN (headN g l s)) ++ List.replicate 28 0))) := by
  unfold headB headN
  simp [List.append_assoc]

theorem headOf_yes {x : HH} {bs : List Nat} (h : x.Is bs) : headOf bs = x := by
  obtain ⟨ok, g, l, s⟩ := x
  obtain ⟨h1, h2, h3, h4⟩ := h
  simp only at h1 h2 h3 h4
  subst h1
  have hr := rng_i64 h2
  unfold headOf
  rw [h4, headB_drop, rdLow_word (by unfold I64; omega)]
  simp only
  rw [rdLow_word (by unfold I64; omega)]
  simp only
  rw [rdLow_word h3]
  simp only
  rw [if_pos]
  refine ⟨h2, by unfold I64 at h3; omega, ?_⟩
  first | rfl | trivial
theorem headOf_no {bs : List Nat} (h : ∀ x : HH, ¬ x.Is bs) : headOf bs = noH := by
  unfold headOf
  split
  · split
    · split
      · rename_i g r _ _ l r2 _ _ s _ _
        refine if_neg (fun h2 => h ⟨true, g, l, s⟩ ⟨rfl, h2.1, ?_, h2.2.2⟩)
        unfold I64; have := h2.2.1; simp only; omega
      · rfl
    · rfl
  · rfl
theorem headOf_cases (bs : List Nat) : (headOf bs).Is bs ∨ headOf bs = noH := by
  by_cases h : ∃ x : HH, x.Is bs
  · obtain ⟨x, hx⟩ := h
    rw [headOf_yes hx]; exact Or.inl hx
  · exact Or.inr (headOf_no (fun x hx => h ⟨x, hx⟩))

end Go.Proofs.YtmdpmdmilgbfiaaGreatDoor

/-
  CUR: a place in bytes. Own work.
-/
namespace Go.Proofs.YtmdpmdmilgbfiaaGreatDoor
open Go.RowKit

/-- the panic by which an image is left -/
abbrev haltP : PanicEntry := { v := .iface 141 (.agg #[]), recovered := false }

/-- a cursor's two cells -/
structure Cur (w : World) (b : Nat) (sa : Option Addr) (len cap at_ : Nat) : Prop where
  lt : b < w.heap.size
  c0 : w.cell? ⟨b, 0, none⟩ = some (.slice sa len cap)
  c1 : w.cell? ⟨b, 1, none⟩ = some (.int .i64 (at_ : Int))
  f : ∀ o, w.frozen? ⟨b, o, none⟩ = false

set_option maxRecDepth 100000 in
theorem Cur.same {w w' : World} {b : Nat} {sa : Option Addr} {len cap at_ : Nat} (h : Cur w b sa len cap at_) (e : w'.heap[b]? = w.heap[b]?) (hlt : b < w'.heap.size) : Cur w' b sa len cap at_ :=
  ⟨hlt, (World.cell?_of_block (w := w) e).trans h.c0, (World.cell?_of_block (w := w) e).trans h.c1, fun o => (World.frozen?_of_block (w := w) e).trans (h.f o)⟩
theorem Cur.kept {p : Nat → Prop} {w w' : World} {b : Nat} {sa : Option Addr} {len cap at_ : Nat} (h : Cur w b sa len cap at_) (k : Kept p w w') (hn : ¬ p b) : Cur w' b sa len cap at_ := h.same (k.block b h.lt hn) (Nat.lt_of_lt_of_le h.lt k.size)
set_option maxRecDepth 100000 in
theorem Cur.set {w : World} {b : Nat} {sa : Option Addr} {len cap at_ : Nat} (h : Cur w b sa len cap at_) {z : Int} {n : Nat} (hz : z = (n : Int)) : Cur (w.setCell ⟨b, 1, none⟩ (.int .i64 z)) b sa len cap n := by
  subst hz
  refine ⟨by have := h.lt; simpa [World.setCell] using this, ?_, ?_, fun o => ?_⟩
  · rw [World.cell?_setCell_other _ _ _ _ (by simp)]; exact h.c0
  · exact World.cell?_setCell_same _ _ _ h.c1
  · rw [World.frozen?_setCell]; exact h.f o
set_option maxRecDepth 100000 in
theorem Cur.drewN {w : World} {b : Nat} {sa : Option Addr} {len cap at_ : Nat} (h : Cur w b sa len cap at_) (k : Nat) : Cur (w.drewN k) b sa len cap at_ := ⟨h.lt, h.c0, h.c1, h.f⟩
theorem Kept.drewN {p : Nat → Prop} {w w' : World} (h : Kept p w w') (k : Nat) : Kept p w (w'.drewN k) := ⟨h.os, h.tape, h.output, h.size, h.block⟩

/-- what 'next' leaves, where there is so much -/
def NextPost (b : Nat) (sa : Option Addr) (len cap at_ n : Nat) (w : World) (e : Ending) (w' : World) : Prop :=
  ∃ p c, e = .returned (.slice p n c) ∧ (0 < n → ∀ g off, sa = some ⟨g, off, none⟩ → p = some ⟨g, off + at_, none⟩) ∧ Cur w' b sa len cap (at_ + n) ∧ Kept (fun k => k = b) w w'

set_option maxRecDepth 100000 in
theorem next_fits (b : Nat) (sa : Option Addr) (len cap at_ n : Nat) (w : World) (hc : Cur w b sa len cap at_) (hlc : len ≤ cap) (hlm : len ≤ maxLen) (hn : at_ + n ≤ len) :
    Calls Tryz.prog 124 #[.pointer (some ⟨b, 0, none⟩), .int .i64 (n : Int)] w (NextPost b sa len cap at_ n w) := by
  obtain ⟨hlt, c0, c1, hf⟩ := id hc
  unfold maxLen at hlm
  have hd : ¬ ((len : Int) - (at_ : Int) < (n : Int)) := by omega
  by_cases hca : cap = at_
  · subst hca
    go_enter Tryz.func124, Tryz.ntmps124
    go_wp2_with (go_quiet (fail))
    go_ret
    refine ⟨_, _, rfl, fun h => ?_, ((hc.drewN _).set (by omega)).drewN _, (((Kept.refl (fun k => k = b) w).drewN _).set (fun _ => rfl) _).drewN _⟩
    exact absurd h (by omega)
  · go_enter Tryz.func124, Tryz.ntmps124
    go_wp2_with (go_quiet (fail))
    go_ret
    exact ⟨_, _, rfl, fun _ g off e => by subst e; simp [Addr.add], ((hc.drewN _).set (by omega)).drewN _, (((Kept.refl (fun k => k = b) w).drewN _).set (fun _ => rfl) _).drewN _⟩

/-- what 'next' leaves, where there is not -/
def HaltPost (w : World) (e : Ending) (w' : World) : Prop := e = .panicked [haltP] ∧ Below w.heap.size w w'

set_option maxRecDepth 100000 in
theorem next_not (b : Nat) (sa : Option Addr) (len cap at_ n : Nat) (w : World) (hc : Cur w b sa len cap at_) (hlm : len ≤ maxLen) (hat : at_ ≤ len) (hn : len < at_ + n) :
    Calls Tryz.prog 124 #[.pointer (some ⟨b, 0, none⟩), .int .i64 (n : Int)] w (HaltPost w) := by
  obtain ⟨hlt, c0, c1, hf⟩ := id hc
  unfold maxLen at hlm
  have hd : (len : Int) - (at_ : Int) < (n : Int) := by omega
  go_enter Tryz.func124, Tryz.ntmps124
  go_wp2_with (go_quiet (fail))
  exact ⟨rfl, rfl, (gre w).trans ⟨rfl, rfl, rfl, Nat.le_refl _, fun _ _ => rfl⟩⟩

set_option maxRecDepth 100000 in
theorem passed_any (b : Nat) (sa : Option Addr) (len cap at_ : Nat) (w : World) (hc : Cur w b sa len cap at_) (hlc : len ≤ cap) (_hlm : len ≤ maxLen) (hat : at_ ≤ len) :
    Calls Tryz.prog 47 #[.pointer (some ⟨b, 0, none⟩)] w fun e w' => e = .returned (.slice sa at_ cap) ∧ Below w.heap.size w w' := by
  obtain ⟨hlt, c0, c1, hf⟩ := id hc
  have h0 : (0 : Int) ≤ (at_ : Int) := by omega
  have h1 : (at_ : Int) ≤ (cap : Int) := by omega
  go_enter Tryz.func47, Tryz.ntmps47
  go_wp2_with (go_quiet (fail))
  go_ret
  exact ⟨rfl, (gre w).trans ⟨rfl, rfl, rfl, Nat.le_refl _, fun _ _ => rfl⟩⟩

end Go.Proofs.YtmdpmdmilgbfiaaGreatDoor

/-
  WR: the program's writer. Own work.
-/
namespace Go.Proofs.YtmdpmdmilgbfiaaGreatDoor
open Go.RowKit

set_option maxRecDepth 100000 in
theorem bsOf_get {s : ByteArray} {i : Nat} (hi : i < s.size) : (Lib.byteCells s.data.toList)[i]? = some (.int .u8 (((bsOf s)[i]! : Nat) : Int)) := by
  have h1 : i < s.data.toList.length := by rw [Array.length_toList]; exact hi
  rw [getElem!_pos (bsOf s) i (by rw [bsOf_length]; exact hi)]
  simp [Lib.byteCells, bsOf, List.getElem?_eq_getElem h1]
set_option maxRecDepth 100000 in
theorem BRow.text {w : World} {a n : Nat} {xs : List Nat} {cur : Array Value} (hc : w.heap[a]? = some (.cells cur 5 (0, 0))) (h : BRow w a n xs) (s : ByteArray) (hl : xs.length + s.size ≤ n) :
    BRow (w.setRow a (cur.toList.take xs.length ++ Lib.byteCells s.data.toList ++ cur.toList.drop (xs.length + s.size)).toArray) a n (xs ++ bsOf s) := by
  obtain ⟨c, hc', hs, hl', hx⟩ := h
  rw [hc] at hc'
  obtain rfl : cur = c := by simpa using hc'
  have e1 : (cur.toList.take xs.length).length = xs.length := by rw [List.length_take]; exact Nat.min_eq_left (by show _ ≤ cur.size; omega)
  have e2 : (Lib.byteCells s.data.toList).length = s.size := by rw [Lib.byteCells_length, ← Lib.size_eq]
  refine ⟨_, setRow_heap _ _ _ _ _ _ hc, ?_, by rw [List.length_append, bsOf_length]; exact hl, fun i hi => ?_⟩
  · simp only [List.size_toArray, List.length_append, e1, e2, List.length_drop, Array.length_toList]; omega
  · rw [app_get hi]
    have hi' : i < xs.length + s.size := by rw [List.length_append, bsOf_length] at hi; exact hi
    rw [List.getElem?_toArray, List.append_assoc]
    split
    · rename_i h
      rw [List.getElem?_append_left (by omega), List.getElem?_take_of_lt h, Array.getElem?_toList]
      exact hx i h
    · rename_i h
      rw [List.getElem?_append_right (by omega), e1, List.getElem?_append_left (by omega)]
      exact bsOf_get (by omega)

/-- a writer that has written so much -/
structure Wr (w : World) (b a : Nat) (xs : List Nat) : Prop where
  cur : Cur w b (some ⟨a, 0, none⟩) 4096 4096 xs.length
  ne : a ≠ b
  row : BRow w a 4096 xs

set_option maxRecDepth 100000 in
theorem Wr.le {w : World} {b a : Nat} {xs : List Nat} (h : Wr w b a xs) : xs.length ≤ 4096 := by obtain ⟨c, _, _, hl, _⟩ := h.row; exact hl
theorem Wr.kept {p : Nat → Prop} {w w' : World} {b a : Nat} {xs : List Nat} (h : Wr w b a xs) (k : Kept p w w') (hb : ¬ p b) (ha : ¬ p a) : Wr w' b a xs := ⟨h.cur.kept k hb, h.ne, h.row.kept k ha⟩
theorem Wr.grow {w w' : World} {b a : Nat} {xs : List Nat} (h : Wr w b a xs) (k : Below w.heap.size w w') : Wr w' b a xs := h.kept (Kept.of_below k (fun _ => False)) (fun e => e) (fun e => e)

set_option maxRecDepth 100000 in
theorem Cur.setOther {w : World} {b : Nat} {sa : Option Addr} {len cap at_ : Nat} (h : Cur w b sa len cap at_) {p : Addr} (hp : b ≠ p.block) (u : Value) : Cur (w.setCell p u) b sa len cap at_ := h.same (Below.heap_setCell _ _ _ _ hp) (by have := h.lt; simpa [World.setCell] using this)

/-- what a writer's call leaves that writes so much -/
def WPost (b a : Nat) (xs ys : List Nat) (w : World) (e : Ending) (w' : World) : Prop :=
  Kept (fun k => k = b ∨ k = a) w w' ∧ ((xs.length + ys.length ≤ 4096 ∧ e = .returned (.tuple #[]) ∧ Wr w' b a (xs ++ ys)) ∨ (4096 < xs.length + ys.length ∧ e = .panicked [haltP]))

set_option maxRecDepth 100000 in
theorem writeByte_any (b a : Nat) (xs : List Nat) (x : Nat) (z : Int) (w : World) (hW : Wr w b a xs) (hz : z = (x : Int)) :
    Calls Tryz.prog 86 #[.pointer (some ⟨b, 0, none⟩), .int .u8 z] w (WPost b a xs [x] w) := by
  subst hz
  by_cases hl : xs.length + 1 ≤ 4096
  · go_enter Tryz.func86, Tryz.ntmps86
    go_wp2_with (go_at_call 124; refine (next_fits b _ 4096 4096 xs.length 1 _ hW.cur (by omega) (by decide) hl).mono ?_; rintro e w1 ⟨p, c, rfl, hp, hC, hK⟩; obtain rfl := hp (by omega) _ _ rfl; have hB := hW.row.kept hK hW.ne; obtain ⟨v, hv⟩ := hB.any (i := xs.length) (by omega); have hfz := hB.frozen xs.length)
    go_end0
    have hB2 := hB.push (by omega) x
    exact ⟨(hK.mono (q := fun k => k = b ∨ k = a) (fun _ _ h => Or.inl h)).set (fun _ => Or.inr rfl) _, Or.inl ⟨hl, rfl, ⟨by rw [List.length_append]; exact hC.setOther (fun e => hW.ne e.symm) _, hW.ne, hB2⟩⟩⟩
  · go_enter Tryz.func86, Tryz.ntmps86
    go_wp2_with (go_at_call 124; refine (next_not b _ 4096 4096 xs.length 1 _ hW.cur (by decide) hW.le (by omega)).mono ?_; rintro e w1 ⟨rfl, hb⟩)
    exact ⟨rfl, Kept.of_below hb _, Or.inr ⟨by show 4096 < xs.length + 1; omega, rfl⟩⟩

set_option maxRecDepth 100000 in
theorem writeText_any (b a : Nat) (xs : List Nat) (s : ByteArray) (w : World) (hW : Wr w b a xs) (hs : s.size ≤ 1000) :
    Calls Tryz.prog 81 #[.pointer (some ⟨b, 0, none⟩), .string s] w (WPost b a xs (bsOf s) w) := by
  have hbl := bsOf_length s
  by_cases hl : xs.length + s.size ≤ 4096
  · by_cases h0 : s.size = 0
    · obtain rfl : s = ⟨#[]⟩ := ByteArray.ext (Array.eq_empty_of_size_eq_zero h0)
      go_enter Tryz.func81, Tryz.ntmps81
      go_wp2_with (go_at_call 124; refine (next_fits b _ 4096 4096 xs.length 0 _ hW.cur (by omega) (by decide) hW.le).mono ?_; rintro e w1 ⟨p, c, rfl, hp, hC, hK⟩; have hB := hW.row.kept hK hW.ne; have hcp := Lib.run_copy_empty_string (P := Tryz.prog) w1 22 9 3 5 p 0 c ⟨#[]⟩ Tryz.underlying22 (by rw [size_byte]; rfl) rfl)
      go_end0
      have hbs : bsOf ⟨#[]⟩ = [] := rfl
      exact ⟨hK.mono (fun _ _ h => Or.inl h), Or.inl ⟨hl, rfl, ⟨by rw [hbs, List.append_nil]; exact hC, hW.ne, by rw [hbs, List.append_nil]; exact hB⟩⟩⟩
    · go_enter Tryz.func81, Tryz.ntmps81
      go_wp2_with (go_at_call 124; refine (next_fits b _ 4096 4096 xs.length s.size _ hW.cur (by omega) (by decide) hl).mono ?_; rintro e w1 ⟨p, c, rfl, hp, hC, hK⟩; obtain rfl := hp (by omega) _ _ rfl; have hB := hW.row.kept hK hW.ne; obtain ⟨cur, hcur, hcs, _⟩ := id hB; have hcp := Lib.run_copy_row_string (P := Tryz.prog) w1 22 9 3 5 a xs.length s.size c s cur 5 Tryz.underlying22 size_byte hcur (Nat.le_refl _) (by omega))
      go_end0
      have hB2 := hB.text hcur s hl
      rw [List.append_assoc] at hB2
      have hKs : Kept (fun k => k = a) w1 (w1.setRow a (cur.toList.take xs.length ++ (Lib.byteCells s.data.toList ++ cur.toList.drop (xs.length + s.size))).toArray) := ⟨rfl, rfl, rfl, by simp, fun k _ hn => setRow_other _ _ _ _ hn⟩
      exact ⟨(hK.mono (q := fun k => k = b ∨ k = a) (fun _ _ h => Or.inl h)).trans hKs (fun _ _ h => Or.inr h), Or.inl ⟨by omega, rfl, ⟨by rw [List.length_append, hbl]; exact hC.kept hKs (fun e => hW.ne e.symm), hW.ne, hB2⟩⟩⟩
  · go_enter Tryz.func81, Tryz.ntmps81
    go_wp2_with (go_at_call 124; refine (next_not b _ 4096 4096 xs.length s.size _ hW.cur (by decide) hW.le (by omega)).mono ?_; rintro e w1 ⟨rfl, hb⟩)
    exact ⟨rfl, Kept.of_below hb _, Or.inr ⟨by omega, rfl⟩⟩

set_option maxRecDepth 100000 in
theorem numB_pos (n : Nat) : 0 < (numB n).length := by
  by_cases h : n < 128
  · rw [numB_small h]; simp
  · rw [numB_great h]; simp
set_option maxRecDepth 100000 in
theorem or128 (m : Nat) : bits .or .u8 ((m : Int) % 256) 128 = ((m % 128 + 128 : Nat) : Int) := by
  rw [u8_or _ _ (by omega) (by omega) (by omega) (by omega)]
  have h1 : ((m : Int) % 256).toNat = m % 256 := by omega
  rw [h1]
  have h2 : m % 256 ||| 128 = m % 128 + 128 := by
    have hj := nat_join 7 128 (m % 128) (by decide) (by omega)
    by_cases hc : m % 256 < 128
    · rw [show m % 256 = m % 128 by omega, Nat.or_comm, hj]; omega
    · rw [show m % 256 = 128 + m % 128 by omega, ← hj, Nat.or_comm, ← Nat.or_assoc, Nat.or_self, hj]; omega
  show ((m % 256 ||| 128 : Nat) : Int) = _
  rw [h2]

set_option maxRecDepth 100000 in
theorem writeNumber_any (b a : Nat) (xs : List Nat) (n : Nat) (z : Int) (w : World) (hW : Wr w b a xs) (hz : z = (n : Int)) (hn : n < 18446744073709551616) :
    Calls Tryz.prog 82 #[.pointer (some ⟨b, 0, none⟩), .int .u64 z] w (WPost b a xs (numB n) w) := by
  subst hz
  go_enter Tryz.func82, Tryz.ntmps82
  go_wp2
  go_loopw [1] (fun i ws => ∃ (m : Nat) (ys : List Nat), i = .int .u64 m ∧ Hid (numB n = ys ++ numB m) ∧ m < 18446744073709551616 ∧ Wr ws b a (xs ++ ys) ∧ Kept (fun k => k = b ∨ k = a) w ws) (fun i _ => (intOf i).toNat)
  case atStart => exact ⟨n, [], rfl, rfl, hn, by rw [List.append_nil]; exact hW, Kept.refl _ _⟩
  case round =>
    obtain ⟨m, ys, rfl, hm, hm64, hWm, hK⟩ := hrel
    have hp := numB_pos m
    by_cases hlt : m < 128
    · have hd : ¬ ((128 : Int) ≤ (m : Int)) := by omega
      have e1 : Hid (numB n = ys ++ [m]) := by rw [numB_small hlt] at hm; exact hm
      have e2 : (m : Int) % 256 = (m : Int) := by omega
      go_wp2_with (go_at_call 86; refine (writeByte_any b a _ m _ _ hWm ?_).mono ?_; (first | rfl | exact e2); rintro e w1 ⟨hK1, ⟨hf, rfl, hW1⟩ | ⟨hno, rfl⟩⟩)
      · go_end0
        refine ⟨hK.trans hK1 (fun _ _ h => h), Or.inl ⟨?_, rfl, ?_⟩⟩
        · rw [e1.out]; simp at hf ⊢; omega
        · rw [e1.out, ← List.append_assoc]; exact hW1
      · refine ⟨rfl, hK.trans hK1 (fun _ _ h => h), Or.inr ⟨?_, rfl⟩⟩
        rw [e1.out]; simp at hno ⊢; omega
    · have hd : ((128 : Int) ≤ (m : Int)) := by omega
      have e1 : Hid (numB n = (ys ++ [m % 128 + 128]) ++ numB (m / 128)) := by rw [numB_great hlt] at hm; show numB n = _; rw [hm.out]; simp
      have e3 := or128 m
      go_wp2_with (go_at_call 86; refine (writeByte_any b a _ (m % 128 + 128) _ _ hWm ?_).mono ?_; (first | rfl | exact e3); rintro e w1 ⟨hK1, ⟨hf, rfl, hW1⟩ | ⟨hno, rfl⟩⟩)
      · go_roundw
        case rel => exact ⟨m / 128, ys ++ [m % 128 + 128], by go_num, e1, by omega, by rw [← List.append_assoc]; exact hW1, hK.trans hK1 (fun _ _ h => h)⟩
        case measure => simp [intOf]; omega
      · refine ⟨rfl, hK.trans hK1 (fun _ _ h => h), Or.inr ⟨?_, rfl⟩⟩
        rw [e1.out]; simp at hno ⊢; omega

end Go.Proofs.YtmdpmdmilgbfiaaGreatDoor

/-
  WR2: the program's writer: words, values. Own work.
-/
namespace Go.Proofs.YtmdpmdmilgbfiaaGreatDoor
open Go.RowKit

set_option maxRecDepth 100000 in
theorem word_byte (n : Int) (k : Nat) (hk : k < 8) : n / 2 ^ (8 * k) % 256 = ((u64n n / 256 ^ k % 256 : Nat) : Int) := by
  unfold u64n
  have h : k = 0 ∨ k = 1 ∨ k = 2 ∨ k = 3 ∨ k = 4 ∨ k = 5 ∨ k = 6 ∨ k = 7 := by omega
  rcases h with rfl | rfl | rfl | rfl | rfl | rfl | rfl | rfl <;> simp only [Nat.reduceMul, Int.reducePow, Nat.reducePow] <;> omega

set_option maxRecDepth 100000 in
theorem writeWord_any (b a : Nat) (xs : List Nat) (n : Int) (w : World) (hW : Wr w b a xs) (_hn : I64 n) :
    Calls Tryz.prog 45 #[.pointer (some ⟨b, 0, none⟩), .int .i64 n] w (WPost b a xs (lowB 8 (u64n n)) w) := by
  go_enter Tryz.func45, Tryz.ntmps45
  go_wp2
  go_loopw [5] (fun i ws => ∃ (k : Nat), i = .int .i64 k ∧ k ≤ 8 ∧ Wr ws b a (xs ++ lowB k (u64n n)) ∧ Kept (fun k => k = b ∨ k = a) w ws) (fun i _ => 8 - (intOf i).toNat)
  case atStart => exact ⟨0, rfl, by omega, by rw [lowB, List.append_nil]; exact hW, Kept.refl _ _⟩
  case round =>
    obtain ⟨k, rfl, hk, hWm, hK⟩ := hrel
    by_cases hlt : k < 8
    · have hd : (k : Int) < 8 := by omega
      go_wp2_with (go_at_call 86; refine (writeByte_any b a _ (u64n n / 256 ^ k % 256) _ _ hWm (word_byte n k hlt)).mono ?_; rintro e w1 ⟨hK1, ⟨hf, rfl, hW1⟩ | ⟨hno, rfl⟩⟩)
      · go_roundw
        case rel => exact ⟨k + 1, by go_num, by omega, by rw [lowB_snoc, ← List.append_assoc]; exact hW1, hK.trans hK1 (fun _ _ h => h)⟩
        case measure => simp [intOf]; omega
      · refine ⟨rfl, hK.trans hK1 (fun _ _ h => h), Or.inr ⟨?_, rfl⟩⟩
        rw [lowB_length]; simp [lowB_length] at hno; omega
    · obtain rfl : k = 8 := by omega
      go_wp2
      go_end0
      refine ⟨hK, Or.inl ⟨?_, rfl, hWm⟩⟩
      have := hWm.le
      simpa [List.length_append] using this

set_option maxRecDepth 100000 in
theorem xor_ones (x : Nat) (h : x < 18446744073709551616) : x ^^^ 18446744073709551615 = 18446744073709551615 - x := by
  have h1 := congrArg BitVec.toNat (BitVec.xor_allOnes (x := BitVec.ofNat 64 x))
  rw [BitVec.toNat_xor, BitVec.toNat_not, BitVec.toNat_allOnes, BitVec.toNat_ofNat, Nat.mod_eq_of_lt h] at h1
  exact h1
set_option maxRecDepth 100000 in
theorem zig_bits (n : Int) (hn : I64 n) : bits .xor .u64 (IntKind.u64.wrap (IntKind.u64.wrap n * 2)) (IntKind.u64.wrap (n / 9223372036854775808)) = (zig n : Int) := by
  unfold I64 at hn
  rw [IntKind.wrap_u64, IntKind.wrap_u64, IntKind.wrap_u64]
  unfold zig
  split
  · have e1 : n / 9223372036854775808 % 18446744073709551616 = 18446744073709551615 := by omega
    rw [e1, u64_xor _ _ (by omega) (by omega) (by omega) (by omega)]
    have e2 : (18446744073709551615 : Int).toNat = 18446744073709551615 := rfl
    rw [e2, xor_ones _ (by omega)]
    omega
  · have e1 : n / 9223372036854775808 % 18446744073709551616 = 0 := by omega
    rw [e1, u64_xor _ _ (by omega) (by omega) (by omega) (by omega)]
    have e2 : (0 : Int).toNat = 0 := rfl
    rw [e2, Nat.xor_zero]
    omega

set_option maxRecDepth 100000 in
theorem unsigned_any (n : Int) (w : World) (hn : I64 n) :
    Calls Tryz.prog 125 #[.int .i64 n] w fun e w' => e = .returned (.int .u64 (zig n : Int)) ∧ Below w.heap.size w w' := by
  have hz := zig_bits n hn
  go_enter Tryz.func125, Tryz.ntmps125
  go_wp2
  go_ret
  exact ⟨rfl, gre _⟩

end Go.Proofs.YtmdpmdmilgbfiaaGreatDoor

/-
  HWR: the program's writer over a block that is zero behind what is written. Own work.
-/
namespace Go.Proofs.YtmdpmdmilgbfiaaGreatDoor
open Go.RowKit

/-- a row of bytes, zero behind the first ones -/
def ZRow (w : World) (a n : Nat) (xs : List Nat) : Prop := xs.length ≤ n ∧ w.rowIs a 5 n (fun i => .int .u8 ((xs[i]! : Nat) : Int))

theorem ZRow.brow {w : World} {a n : Nat} {xs : List Nat} (h : ZRow w a n xs) : BRow w a n xs := BRow.of_row h.2 h.1 (fun _ _ => rfl)
theorem ZRow.kept {p : Nat → Prop} {w w' : World} {a n : Nat} {xs : List Nat} (h : ZRow w a n xs) (k : Kept p w w') (hn : ¬ p a) : ZRow w' a n xs := by
  have hlt := h.brow.lt
  obtain ⟨hl, c, hc, r⟩ := h
  exact ⟨hl, c, (k.block a hlt hn).trans hc, r⟩

theorem snoc_any (xs : List Nat) (x i : Nat) : (xs ++ [x])[i]! = if i = xs.length then x else xs[i]! := by
  by_cases hi : i < (xs ++ [x]).length
  · exact snoc_get hi
  · have h2 : ¬ i < xs.length := by simp at hi; omega
    have h3 : i ≠ xs.length := by simp at hi; omega
    rw [if_neg h3, getElem!_neg _ i hi, getElem!_neg xs i h2]

set_option maxRecDepth 100000 in
theorem ZRow.push {w : World} {a n : Nat} {xs : List Nat} (h : ZRow w a n xs) (hl : xs.length < n) (x : Nat) : ZRow (w.setCell ⟨a, xs.length, none⟩ (.int .u8 (x : Int))) a n (xs ++ [x]) := by
  refine ⟨by simp; omega, ?_⟩
  have h1 := h.2.set xs.length (.int .u8 (x : Int))
  have e : (fun i => Value.int .u8 (((xs ++ [x])[i]! : Nat) : Int)) = (fun i => if i = xs.length then Value.int .u8 (x : Int) else .int .u8 ((xs[i]! : Nat) : Int)) := by
    funext i
    rw [snoc_any]
    split <;> rfl
  rw [e]
  exact h1

/-- a writer of a block -/
structure ZWr (w : World) (b a : Nat) (xs : List Nat) : Prop where
  cur : Cur w b (some ⟨a, 0, none⟩) 64 64 xs.length
  ne : a ≠ b
  row : ZRow w a 64 xs
theorem ZWr.kept {p : Nat → Prop} {w w' : World} {b a : Nat} {xs : List Nat} (h : ZWr w b a xs) (k : Kept p w w') (hb : ¬ p b) (ha : ¬ p a) : ZWr w' b a xs := ⟨h.cur.kept k hb, h.ne, h.row.kept k ha⟩
theorem ZWr.grow {w w' : World} {b a : Nat} {xs : List Nat} (h : ZWr w b a xs) (k : Below w.heap.size w w') : ZWr w' b a xs := h.kept (Kept.of_below k (fun _ => False)) (fun e => e) (fun e => e)

set_option maxRecDepth 100000 in
theorem zWriteByte (b a : Nat) (xs : List Nat) (x : Nat) (z : Int) (w : World) (hW : ZWr w b a xs) (hz : z = (x : Int)) (hl : xs.length + 1 ≤ 64) :
    Calls Tryz.prog 86 #[.pointer (some ⟨b, 0, none⟩), .int .u8 z] w fun e w' => e = .returned (.tuple #[]) ∧ ZWr w' b a (xs ++ [x]) ∧ Kept (fun k => k = b ∨ k = a) w w' := by
  subst hz
  go_enter Tryz.func86, Tryz.ntmps86
  go_wp2_with (go_at_call 124; refine (next_fits b _ 64 64 xs.length 1 _ hW.cur (by omega) (by decide) hl).mono ?_; rintro e w1 ⟨p, c, rfl, hp, hC, hK⟩; obtain rfl := hp (by omega) _ _ rfl; have hB := hW.row.kept hK hW.ne; obtain ⟨v, hv⟩ := hB.brow.any (i := xs.length) (by omega); have hfz := hB.brow.frozen xs.length)
  go_end0
  have hB2 := hB.push (by omega) x
  exact ⟨rfl, ⟨by rw [List.length_append]; exact hC.setOther (fun e => hW.ne e.symm) _, hW.ne, hB2⟩, (hK.mono (q := fun k => k = b ∨ k = a) (fun _ _ h => Or.inl h)).set (fun _ => Or.inr rfl) _⟩

set_option maxRecDepth 100000 in
theorem zWriteWord (b a : Nat) (xs : List Nat) (n : Int) (w : World) (hW : ZWr w b a xs) (hl : xs.length + 8 ≤ 64) :
    Calls Tryz.prog 45 #[.pointer (some ⟨b, 0, none⟩), .int .i64 n] w fun e w' => e = .returned (.tuple #[]) ∧ ZWr w' b a (xs ++ lowB 8 (u64n n)) ∧ Kept (fun k => k = b ∨ k = a) w w' := by
  go_enter Tryz.func45, Tryz.ntmps45
  go_wp2
  go_loopw [5] (fun i ws => ∃ (k : Nat), i = .int .i64 k ∧ k ≤ 8 ∧ ZWr ws b a (xs ++ lowB k (u64n n)) ∧ Kept (fun k => k = b ∨ k = a) w ws) (fun i _ => 8 - (intOf i).toNat)
  case atStart => exact ⟨0, rfl, by omega, by rw [lowB, List.append_nil]; exact hW, Kept.refl _ _⟩
  case round =>
    obtain ⟨k, rfl, hk, hWm, hK⟩ := hrel
    by_cases hlt : k < 8
    · have hd : (k : Int) < 8 := by omega
      go_wp2_with (go_at_call 86; refine (zWriteByte b a _ (u64n n / 256 ^ k % 256) _ _ hWm (word_byte n k hlt) (by simp [lowB_length]; omega)).mono ?_; rintro e w1 ⟨rfl, hW1, hK1⟩)
      go_roundw
      case rel => exact ⟨k + 1, by go_num, by omega, by rw [lowB_snoc, ← List.append_assoc]; exact hW1, hK.trans hK1 (fun _ _ h => h)⟩
      case measure => simp [intOf]; omega
    · obtain rfl : k = 8 := by omega
      go_wp2
      go_end0
      exact ⟨rfl, hWm, hK⟩

set_option maxRecDepth 100000 in
theorem ZRow.text {w : World} {a n : Nat} {cur : Array Value} (hc : w.heap[a]? = some (.cells cur 5 (0, 0))) (h : ZRow w a n []) (s : ByteArray) (hl : s.size ≤ n) :
    ZRow (w.setRow a (Lib.byteCells s.data.toList ++ cur.toList.drop s.size).toArray) a n (bsOf s) := by
  obtain ⟨_, c, hc', hs, hx⟩ := h
  rw [hc] at hc'
  obtain rfl : cur = c := by simpa using hc'
  have e2 : (Lib.byteCells s.data.toList).length = s.size := by rw [Lib.byteCells_length, ← Lib.size_eq]
  refine ⟨by rw [bsOf_length]; exact hl, _, setRow_heap _ _ _ _ _ _ hc, ?_, fun i hi => ?_⟩
  · simp only [List.size_toArray, List.length_append, e2, List.length_drop, Array.length_toList]; omega
  · rw [List.getElem?_toArray]
    by_cases h : i < s.size
    · rw [List.getElem?_append_left (by omega)]
      exact bsOf_get h
    · rw [List.getElem?_append_right (by omega), e2, List.getElem?_drop, Array.getElem?_toList, show s.size + (i - s.size) = i by omega, hx i hi]
      show some (Value.int .u8 ((([] : List Nat)[i]! : Nat) : Int)) = some (Value.int .u8 (((bsOf s)[i]! : Nat) : Int))
      rw [getElem!_neg (bsOf s) i (by rw [bsOf_length]; exact h), getElem!_neg ([] : List Nat) i (by simp)]

set_option maxRecDepth 100000 in
theorem zWriteText (b a : Nat) (s : ByteArray) (w : World) (hW : ZWr w b a []) (hs : s.size ≤ 64) (h0 : 0 < s.size) :
    Calls Tryz.prog 81 #[.pointer (some ⟨b, 0, none⟩), .string s] w fun e w' => e = .returned (.tuple #[]) ∧ ZWr w' b a (bsOf s) ∧ Kept (fun k => k = b ∨ k = a) w w' := by
  have hbl := bsOf_length s
  go_enter Tryz.func81, Tryz.ntmps81
  go_wp2_with (go_at_call 124; refine (next_fits b _ 64 64 0 s.size _ hW.cur (by omega) (by decide) (by omega)).mono ?_; rintro e w1 ⟨p, c, rfl, hp, hC, hK⟩; obtain rfl := hp (by omega) _ _ rfl; have hB := hW.row.kept hK hW.ne; obtain ⟨cur, hcur, hcs, _⟩ := hB.brow; have hcp := Lib.run_copy_row_string (P := Tryz.prog) w1 22 9 3 5 a 0 s.size c s cur 5 Tryz.underlying22 size_byte hcur (Nat.le_refl _) (by omega))
  go_end0
  have hB2 := hB.text hcur s hs
  have hKs : Kept (fun k => k = a) w1 (w1.setRow a (Lib.byteCells s.data.toList ++ cur.toList.drop s.size).toArray) := ⟨rfl, rfl, rfl, by simp, fun k _ hn => setRow_other _ _ _ _ hn⟩
  have e0 : (0 : Nat) + s.size = s.size := by omega
  rw [e0] at hC
  refine ⟨rfl, ?_, ?_⟩
  · try simp only [List.take_zero, List.nil_append, Nat.zero_add]
    exact ⟨by rw [hbl]; exact hC.kept hKs (fun e => hW.ne e.symm), hW.ne, hB2⟩
  · try simp only [List.take_zero, List.nil_append, Nat.zero_add]
    exact (hK.mono (q := fun k => k = b ∨ k = a) (fun _ _ h => Or.inl h)).trans hKs (fun _ _ h => Or.inr h)

end Go.Proofs.YtmdpmdmilgbfiaaGreatDoor
