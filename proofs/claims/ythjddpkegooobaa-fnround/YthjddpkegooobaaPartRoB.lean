import Derived.Lib.AppendStr
import Derived.Laws.BitsAllLaws
import Derived.Laws.BytesArg
import Derived.WalkLawsBesides
import Derived.Deep.QuietTactic
import Derived.Lib.Strings
import Derived.Lib.BufferWrite
import Derived.Lib.UnsafeStr
import Derived.Test.YthjddpkegooobaaPartRoA

/-
  OB: bytes that are appended to. Own work.
-/
namespace Go.Proofs.Ythjddpkegooobaa
open Go.RowKit

/-- bytes of one's own, since a world -/
structure Ob (w0 : World) (base : Nat) (oa0 : Option Addr) (w : World) (oa : Option Addr) (cap : Nat) (zs : List Nat) : Prop where
  own : w.ownsRow base 5 1 (.slice oa zs.length cap) zs.length (bcells zs)
  loc : ∀ k, k < w0.heap.size → oa = some ⟨k, 0, none⟩ → oa0 = some ⟨k, 0, none⟩
  kept : Kept (fun k => oa0 = some ⟨k, 0, none⟩) w0 w

set_option maxRecDepth 100000 in
theorem Ob.start {base : Nat} {w : World} {oa : Option Addr} {cap : Nat} {zs : List Nat} (h : w.ownsRow base 5 1 (.slice oa zs.length cap) zs.length (bcells zs)) : Ob w base oa w oa cap zs := ⟨h, fun _ _ e => e, Kept.refl _ _⟩
theorem Ob.lt {w0 w : World} {base : Nat} {oa0 oa : Option Addr} {cap : Nat} {zs : List Nat} (h : Ob w0 base oa0 w oa cap zs) {k : Nat} (e : oa = some ⟨k, 0, none⟩) : base ≤ k ∧ k < w.heap.size := h.own.lt k (by rw [e]; rfl)
theorem Ob.grow {w0 w w' : World} {base : Nat} {oa0 oa : Option Addr} {cap : Nat} {zs : List Nat} (h : Ob w0 base oa0 w oa cap zs) (hb : Below w.heap.size w w') : Ob w0 base oa0 w' oa cap zs :=
  ⟨(Kept.of_below hb (fun _ => False)).owns h.own (fun _ _ e => e), h.loc, h.kept.trans (Kept.of_below hb _) (fun _ _ e => e)⟩
set_option maxRecDepth 100000 in
theorem Ob.call {w0 w w1 : World} {base : Nat} {oa0 oa oa1 : Option Addr} {cap cap1 : Nat} {zs ys : List Nat} (h : Ob w0 base oa0 w oa cap zs) (k : Ob w base oa w1 oa1 cap1 ys) : Ob w0 base oa0 w1 oa1 cap1 ys :=
  ⟨k.own, fun b hb e => h.loc b hb (k.loc b (Nat.lt_of_lt_of_le hb h.kept.size) e), h.kept.trans k.kept (fun b hb e => h.loc b hb e)⟩
theorem Ob.push {w0 w wa w1 : World} {base : Nat} {oa0 oa : Option Addr} {cap cap1 g : Nat} {zs ys : List Nat} (h : Ob w0 base oa0 w oa cap zs) (hb : Below w.heap.size w wa)
    (hown : w1.ownsRow base 5 1 (.slice (some ⟨g, 0, none⟩) (zs.length + ys.length) cap1) (zs.length + ys.length) (bcells zs ++ bcells ys)) (hgrow : wa.grownBy w1 (Value.slice oa zs.length cap).ownBlock)
    (hat : (Value.slice oa zs.length cap).ownBlock = some g ∨ w.heap.size ≤ g) : Ob w0 base oa0 w1 (some ⟨g, 0, none⟩) cap1 (zs ++ ys) := by
  refine ⟨?_, fun k hk e => ?_, ?_⟩
  · rw [List.length_append, show bcells (zs ++ ys) = bcells zs ++ bcells ys by simp [bcells]]; exact hown
  · have e2 := some_addr e
    subst e2
    rcases hat with hg | hg
    · exact h.loc g hk (owns_addr h.own hg)
    · have := h.kept.size; omega
  · exact (h.kept.trans (Kept.of_below hb _) (fun _ _ e => e)).trans (Kept.of_grown hgrow) (fun k hk e => h.loc k hk (owns_addr h.own e))

/-- what a call leaves that appends so much -/
def APost (base : Nat) (oa : Option Addr) (xs ys : List Nat) (w : World) (e : Ending) (w' : World) : Prop :=
  ∃ oa' cap', e = .returned (.slice oa' (xs ++ ys).length cap') ∧ Ob w base oa w' oa' cap' (xs ++ ys)

set_option maxRecDepth 100000 in
theorem numB_len : ∀ (f n : Nat), n < 128 ^ f → 0 < f → (numB n).length ≤ f
  | 0, _, _, h => absurd h (Nat.lt_irrefl _)
  | f + 1, n, hn, _ => by
    by_cases h : n < 128
    · rw [numB_small h]; simp
    · rw [numB_great h]
      have hf : 0 < f := by
        rcases Nat.eq_zero_or_pos f with rfl | h2
        · simp at hn; omega
        · exact h2
      have := numB_len f (n / 128) (by rw [Nat.div_lt_iff_lt_mul (by omega)]; rw [Nat.pow_succ] at hn; exact hn) hf
      simp only [List.length_cons]
      omega
set_option maxRecDepth 100000 in
theorem numB_ten {n : Nat} (h : n < 18446744073709551616) : (numB n).length ≤ 10 := numB_len 10 n (Nat.lt_of_lt_of_le h (by decide)) (by omega)

theorem and_or128 (m : Nat) (hm : m < 18446744073709551616) : IntKind.u8.wrap (bits .or .u64 (bits .and .u64 (m : Int) 127) 128) = ((m % 128 + 128 : Nat) : Int) := by
  have e1 : bits .and .u64 (m : Int) 127 = ((m % 128 : Nat) : Int) := by
    rw [u64_and _ _ (by omega) (by omega) (by omega) (by omega)]
    have h1 : (127 : Int).toNat = 127 := rfl
    rw [h1, Int.toNat_natCast, nat_mask7]
  have e2 : bits .or .u64 ((m % 128 : Nat) : Int) 128 = ((m % 128 + 128 : Nat) : Int) := by
    rw [u64_or _ _ (by omega) (by omega) (by omega) (by omega)]
    have h1 : (128 : Int).toNat = 128 := rfl
    rw [h1, Int.toNat_natCast, Nat.or_comm, nat_join 7 128 (m % 128) (by decide) (by omega)]
    omega
  rw [e1, e2, IntKind.wrap_u8']
  omega

set_option maxRecDepth 100000 in
theorem l2num_any (base : Nat) (oa : Option Addr) (len cap : Nat) (xs : List Nat) (n : Nat) (z : Int) (w : World) (hlen : len = xs.length) (hz : z = (n : Int)) (hn : n < 18446744073709551616) (hbase : base ≤ w.heap.size) (hl : xs.length ≤ 1099511627776)
    (hO : w.ownsRow base 5 1 (.slice oa xs.length cap) xs.length (bcells xs)) :
    Calls Try.prog 127 #[.slice oa len cap, .int .u64 z] w (APost base oa xs (numB n) w) := by
  subst hz hlen
  obtain ⟨i0, hi, hz0, hz1, hz2⟩ := info_parts info_u8
  have hten := numB_ten hn
  go_enter Try.func127, Try.ntmps127
  go_wp2
  go_loopw [0, 1] (fun o i ws => ∃ (m : Nat) (ys zs : List Nat) (oa1 : Option Addr) (cap1 : Nat), o = .slice oa1 zs.length cap1 ∧ i = .int .u64 m ∧ Hid (zs = xs ++ ys) ∧ Hid (numB n = ys ++ numB m) ∧ m < 18446744073709551616 ∧ Ob w base oa ws oa1 cap1 zs) (fun _ i _ => (intOf i).toNat)
  case atStart => exact ⟨n, [], xs, oa, cap, rfl, rfl, (List.append_nil _).symm, rfl, hn, Ob.start hO⟩
  case round =>
    obtain ⟨m, ys, zs, oa1, cap1, rfl, rfl, hzs, hm, hm64, hOb⟩ := hrel
    have hyl : zs.length ≤ xs.length + 10 := by
      have h1 := congrArg List.length hm.out
      rw [hzs.out]
      simp only [List.length_append] at h1 ⊢
      omega
    have hsz := hOb.kept.size
    by_cases hlt : m < 128
    · have hd : ¬ ((127 : Int) < (m : Int)) := by omega
      have e2 : IntKind.u8.wrap (m : Int) = (m : Int) := by rw [IntKind.wrap_u8']; omega
      go_wp2_with (at_builtin; refine wpList_append_lies _ rfl (.tmp 16) (.tmp 19) 22 rfl base 5 i0 (.int .u8 0) 1 1 Try.underlying22 hi hz0 hz1 hz2 rfl (by decide) _ _ _ rfl (hOb.own.alloc _) ⟨wr.heap.size, 0, none⟩ 1 1 [.int .u8 (m : Int)] rfl rfl (World.news_of_block (cs := #[.int .u8 (m : Int)]) (t := 5) (fr := (0, 0)) (blk_new_at _ _ _ (by simp))) (by simp [Value.oneCell']) (by decide) (by unfold maxLen; omega) (by omega) (by simp; omega) (wr.heap.size + 1) (by simp) ?_; intro g cap2 w1 hown1 hgrow hat hlt2)
      go_ret
      have hP := hOb.push (ys := [m]) (gal (gre _) _) hown1 hgrow (hat.elim Or.inl (fun h => Or.inr (by omega)))
      have e3 : zs ++ [m] = xs ++ numB n := by rw [hm.out, hzs.out, numB_small hlt, List.append_assoc]
      rw [e3] at hP
      exact ⟨_, cap2, by rw [← e3]; simp, hP⟩
    · have hd : ((127 : Int) < (m : Int)) := by omega
      obtain ⟨x, hx⟩ : ∃ x, Hid (x = m % 128 + 128) := ⟨_, rfl⟩
      have e2 : IntKind.u8.wrap (bits .or .u64 (bits .and .u64 (m : Int) 127) 128) = (x : Int) := by rw [hx.out]; exact and_or128 m hm64
      go_wp2_with (at_builtin; refine wpList_append_lies _ rfl (.tmp 7) (.tmp 12) 22 rfl base 5 i0 (.int .u8 0) 1 1 Try.underlying22 hi hz0 hz1 hz2 rfl (by decide) _ _ _ rfl (hOb.own.alloc _) ⟨wr.heap.size, 0, none⟩ 1 1 [.int .u8 (x : Int)] rfl rfl (World.news_of_block (cs := #[.int .u8 (x : Int)]) (t := 5) (fr := (0, 0)) (blk_new_at _ _ _ (by simp))) (by simp [Value.oneCell']) (by decide) (by unfold maxLen; omega) (by omega) (by simp; omega) (wr.heap.size + 1) (by simp) ?_; intro g cap2 w1 hown1 hgrow hat hlt2)
      have hP := hOb.push (ys := [x]) (gal (gre _) _) hown1 hgrow (hat.elim Or.inl (fun h => Or.inr (by omega)))
      go_roundw
      case rel =>
        refine ⟨m / 128, ys ++ [x], zs ++ [x], _, _, by simp, by go_num, by show _ = _; rw [hzs.out, List.append_assoc], ?_, by omega, hP⟩
        show _ = _
        rw [hm.out, numB_great hlt, hx.out]; simp
      case measure => simp [intOf]; omega

end Go.Proofs.Ythjddpkegooobaa

/-
  RDPLAIN: reading images, plain. Own work.
-/
namespace Go.Proofs.Ythjddpkegooobaa

/-- a group of bits more -/
def orU (n x s : Nat) : Nat := n ||| (x * 2 ^ min s 64 % 18446744073709551616)
/-- the program's number -/
def rdNum (n s : Nat) : List Nat → Option (Nat × List Nat)
  | [] => none
  | b :: r => if b < 128 then some (orU n (b % 128) s, r) else rdNum (orU n (b % 128) s) (s + 7) r
def rdCount (most : Nat) (r : List Nat) : Option (Nat × List Nat) :=
  match rdNum 0 0 r with
  | some (n, r') => if n ≤ most then some (n, r') else none
  | none => none
def strB (bs : List Nat) : ByteArray := strOfNums (bs.map fun (x : Nat) => (x : Int))
def rdText (n : Nat) (r : List Nat) : Option (ByteArray × List Nat) := if n ≤ r.length then some (strB (r.take n), r.drop n) else none
/-- a byte more into a word -/
def orI (n : Int) (b i : Nat) : Int := bits .or .i64 n (IntKind.i64.wrap ((b : Int) * 2 ^ (8 * i)))
def rdLow : Nat → Nat → Int → List Nat → Option (Int × List Nat)
  | 0, _, n, r => some (n, r)
  | _ + 1, _, _, [] => none
  | k + 1, i, n, b :: r => rdLow k (i + 1) (orI n b i) r
def zag (n : Nat) : Int := if n % 2 = 1 then -((n / 2 : Nat) : Int) - 1 else ((n / 2 : Nat) : Int)
def rdVal : List Nat → Option (GV × List Nat)
  | [] => none
  | k :: r =>
    if k = 0 then some (⟨0, 0, ⟨#[]⟩, 0⟩, r)
    else if k = 1 then (rdNum 0 0 r).map fun x => (⟨1, zag x.1, ⟨#[]⟩, 0⟩, x.2)
    else if k = 2 then (rdLow 8 0 0 r).map fun x => (⟨2, x.1, ⟨#[]⟩, 0⟩, x.2)
    else if k = 3 then (rdCount 1000 r).bind fun x => (rdText x.1 x.2).map fun y => (⟨3, 0, y.1, 0⟩, y.2)
    else if k = 4 then (rdCount 300 r).map fun x => (⟨4, 0, ⟨#[]⟩, (x.1 : Int)⟩, x.2)
    else none
def rdVals : Nat → List Nat → Option (List GV × List Nat)
  | 0, r => some ([], r)
  | k + 1, r => (rdVal r).bind fun x => (rdVals k x.2).map fun y => (x.1 :: y.1, y.2)
def rdNode (r : List Nat) : Option (GN × List Nat) :=
  (rdCount 1000 r).bind fun t => (rdCount 100 t.2).bind fun m => (rdVals m.1 m.2).map fun y => (⟨(t.1 : Int), y.1⟩, y.2)
def rdNodes : Nat → List Nat → Option (List GN × List Nat)
  | 0, r => some ([], r)
  | k + 1, r => (rdNode r).bind fun x => (rdNodes k x.2).map fun y => (x.1 :: y.1, y.2)
def rdGraph (r : List Nat) : Option (GG × List Nat) :=
  (rdText 2 r).bind fun t => if t.1 = ⟨#[72, 49]⟩ then (rdCount 300 t.2).bind fun m => (rdVal m.2).bind fun x => (rdNodes m.1 x.2).map fun y => (⟨x.1, y.1⟩, y.2) else none

/-! numbers are read back -/
theorem orU_join {n x s : Nat} (hn : n < 2 ^ s) (hx : n + x * 2 ^ s < 18446744073709551616) (hs : s ≤ 64) : orU n x s = n + x * 2 ^ s := by
  unfold orU
  rw [Nat.min_eq_left hs, Nat.mod_eq_of_lt (by omega), Nat.or_comm, nat_join s (x * 2 ^ s) n (Nat.mul_mod_left _ _) hn]
  omega

theorem rdNum_back : ∀ (f m n s : Nat) (r : List Nat), m < f → n < 2 ^ s → n + m * 2 ^ s < 18446744073709551616 → s ≤ 64 → rdNum n s (numB m ++ r) = some (n + m * 2 ^ s, r)
  | 0, _, _, _, _, h, _, _, _ => absurd h (Nat.not_lt_zero _)
  | f + 1, m, n, s, r, hf, hn, hb, hs => by
    by_cases h : m < 128
    · rw [numB_small h]
      show (if m < 128 then _ else _) = _
      rw [if_pos h, Nat.mod_eq_of_lt h, orU_join hn hb hs]
      rfl
    · rw [numB_great h]
      show (if m % 128 + 128 < 128 then _ else _) = _
      have e1 : (m % 128 + 128) % 128 = m % 128 := by omega
      have hpow : 2 ^ (s + 7) = 2 ^ s * 128 := by rw [Nat.pow_add]
      have h2s : 0 < 2 ^ s := Nat.pow_pos (by omega)
      have hm : m = m % 128 + m / 128 * 128 := by omega
      have hsum : n + m * 2 ^ s = n + m % 128 * 2 ^ s + m / 128 * 2 ^ (s + 7) := by
        rw [hpow]
        conv => lhs; rw [hm]
        rw [Nat.add_mul, Nat.mul_assoc, Nat.mul_comm 128 (2 ^ s), Nat.add_assoc]
      have hs7 : s + 7 ≤ 64 := by
        have h1 : 2 ^ (s + 7) ≤ m / 128 * 2 ^ (s + 7) := Nat.le_mul_of_pos_left _ (by omega)
        have h2 : 2 ^ (s + 7) < 2 ^ 64 := by omega
        have := (Nat.pow_lt_pow_iff_right (a := 2) (by omega)).1 h2
        omega
      rw [if_neg (by omega), e1, orU_join hn (by omega) hs]
      have h3 : n + m % 128 * 2 ^ s < 2 ^ (s + 7) := by
        rw [hpow]
        have h4 : (m % 128 + 1) * 2 ^ s ≤ 128 * 2 ^ s := Nat.mul_le_mul_right _ (by omega)
        rw [Nat.add_mul] at h4
        rw [Nat.mul_comm (2 ^ s) 128]
        omega
      rw [hsum]
      exact rdNum_back f (m / 128) _ (s + 7) r (by omega) h3 (by omega) hs7

theorem rdNum_num {m : Nat} (h : m < 18446744073709551616) (r : List Nat) : rdNum 0 0 (numB m ++ r) = some (m, r) := by
  have h1 := rdNum_back (m + 1) m 0 0 r (by omega) (by simp) (by simpa using h) (by omega)
  simpa using h1
theorem rdCount_num {m most : Nat} (h : m ≤ most) (hm : most < 18446744073709551616) (r : List Nat) : rdCount most (numB m ++ r) = some (m, r) := by
  unfold rdCount
  rw [rdNum_num (by omega)]
  exact if_pos h

theorem strB_bs (s : ByteArray) : strB (bsOf s) = s := by
  apply ByteArray.ext
  apply Array.ext'
  show ((bsOf s).map _).map _ = _
  unfold bsOf
  rw [List.map_map, List.map_map]
  conv => rhs; rw [← List.map_id s.data.toList]
  apply List.map_congr_left
  intro x _
  show UInt8.ofNat ((x.toNat : Int)).toNat = x
  simp
theorem rdText_bs (s : ByteArray) (r : List Nat) : rdText s.size (bsOf s ++ r) = some (s, r) := by
  unfold rdText
  have h := bsOf_length s
  rw [if_pos (by rw [List.length_append]; omega)]
  have e1 : (bsOf s ++ r).take s.size = bsOf s := by rw [← h, List.take_left]
  have e2 : (bsOf s ++ r).drop s.size = r := by rw [← h, List.drop_left]
  rw [e1, e2, strB_bs]

theorem ofInt_wrap (a : Nat) (h : a < 18446744073709551616) : (BitVec.ofInt 64 (IntKind.i64.wrap (a : Int))).toNat = a := by
  rw [IntKind.wrap_i64, BitVec.toNat_ofInt]
  have e : ((2 ^ 64 : Nat) : Int) = 18446744073709551616 := by decide
  rw [e]
  omega
theorem orI_join {a b i : Nat} (ha : a < 2 ^ (8 * i)) (hb : b < 256) (hi : i < 8) : orI (IntKind.i64.wrap (a : Int)) b i = IntKind.i64.wrap ((a + b * 2 ^ (8 * i) : Nat) : Int) := by
  have h64 : a + b * 2 ^ (8 * i) < 18446744073709551616 := by
    have h1 : (b + 1) * 2 ^ (8 * i) ≤ 256 * 2 ^ (8 * i) := Nat.mul_le_mul_right _ (by omega)
    have h2 : 256 * 2 ^ (8 * i) = 2 ^ (8 * i + 8) := by rw [Nat.pow_add]; omega
    have h3 : 2 ^ (8 * i + 8) ≤ 2 ^ 64 := Nat.pow_le_pow_right (by omega) (by omega)
    rw [Nat.add_mul] at h1
    omega
  have e : ((b : Int) * 2 ^ (8 * i)) = ((b * 2 ^ (8 * i) : Nat) : Int) := by push_cast; rfl
  unfold orI
  rw [e]
  show IntKind.i64.wrap ((BitVec.ofInt 64 (IntKind.i64.wrap (a : Int)) ||| BitVec.ofInt 64 (IntKind.i64.wrap ((b * 2 ^ (8 * i) : Nat) : Int))).toNat : Nat) = _
  rw [BitVec.toNat_or, ofInt_wrap a (by omega), ofInt_wrap _ (by omega), Nat.or_comm, nat_join (8 * i) (b * 2 ^ (8 * i)) a (Nat.mul_mod_left _ _) ha, Nat.add_comm]

theorem rdLow_back : ∀ (k i a m : Nat) (r : List Nat), i + k = 8 → a < 2 ^ (8 * i) → rdLow k i (IntKind.i64.wrap (a : Int)) (lowB k m ++ r) = some (IntKind.i64.wrap ((a + m % 2 ^ (8 * k) * 2 ^ (8 * i) : Nat) : Int), r)
  | 0, i, a, m, r, _, _ => by
    show some (_, r) = _
    simp [Nat.mod_one]
  | k + 1, i, a, m, r, hk, ha => by
    show rdLow k (i + 1) (orI (IntKind.i64.wrap (a : Int)) (m % 256) i) (lowB k (m / 256) ++ r) = _
    have hp : 2 ^ (8 * (i + 1)) = 2 ^ (8 * i) * 256 := by rw [show 8 * (i + 1) = 8 * i + 8 by omega, Nat.pow_add]
    have hlt : a + m % 256 * 2 ^ (8 * i) < 2 ^ (8 * (i + 1)) := by
      have h1 : (m % 256 + 1) * 2 ^ (8 * i) ≤ 256 * 2 ^ (8 * i) := Nat.mul_le_mul_right _ (by omega)
      rw [Nat.add_mul] at h1
      rw [hp, Nat.mul_comm (2 ^ (8 * i)) 256]
      omega
    rw [orI_join ha (by omega) (by omega), rdLow_back k (i + 1) _ (m / 256) r (by omega) hlt]
    congr 4
    have e1 : m % 2 ^ (8 * (k + 1)) = m % 256 + m / 256 % 2 ^ (8 * k) * 256 := by
      rw [show 2 ^ (8 * (k + 1)) = 256 * 2 ^ (8 * k) by rw [show 8 * (k + 1) = 8 + 8 * k by omega, Nat.pow_add], Nat.mod_mul]
      omega
    rw [e1, hp, Nat.add_mul, Nat.mul_assoc, Nat.mul_comm 256 (2 ^ (8 * i)), Nat.add_assoc]

theorem rdLow_word {n : Int} (h : I64 n) (r : List Nat) : rdLow 8 0 0 (lowB 8 (u64n n) ++ r) = some (n, r) := by
  have h1 := rdLow_back 8 0 0 (u64n n) r (by omega) (by simp)
  have e0 : IntKind.i64.wrap ((0 : Nat) : Int) = 0 := by rw [IntKind.wrap_i64]; omega
  rw [e0] at h1
  rw [h1]
  congr 2
  unfold I64 at h
  have e1 : u64n n % 2 ^ (8 * 8) = u64n n := Nat.mod_eq_of_lt (u64n_lt n)
  rw [e1, IntKind.wrap_i64]
  unfold u64n
  simp
  omega
theorem zag_zig (n : Int) : zag (zig n) = n := by
  unfold zag zig
  split <;> split <;> omega

end Go.Proofs.Ythjddpkegooobaa

/-
  ROWS3: values and nodes in rows that grow. Own work.
-/
namespace Go.Proofs.Ythjddpkegooobaa
open Go.RowKit

theorem flatMap_get {α β : Type} [Inhabited α] {f : α → List β} {c : Nat} (hf : ∀ x, (f x).length = c) : ∀ (l : List α) (i j : Nat), i < l.length → j < c → (l.flatMap f)[i * c + j]? = (f l[i]!)[j]?
  | [], _, _, hi, _ => absurd hi (Nat.not_lt_zero _)
  | x :: r, 0, j, _, hj => by
    rw [List.flatMap_cons, Nat.zero_mul, Nat.zero_add, List.getElem?_append_left (by rw [hf]; exact hj)]
    rfl
  | x :: r, i + 1, j, hi, hj => by
    have hlt : i < r.length := by simpa using hi
    have ih := flatMap_get hf r i j hlt hj
    rw [List.flatMap_cons, List.getElem?_append_right (by rw [hf, Nat.add_mul]; omega), hf, show (i + 1) * c + j - c = i * c + j by rw [Nat.add_mul]; omega, ih]
    rw [getElem!_pos r i hlt, getElem!_pos (x :: r) (i + 1) hi]
    rfl

def GV.four (v : GV) : List Value := [.int .i64 v.kind, .int .i64 v.num, .string v.text, .int .i64 v.node]
theorem GV.four_length (v : GV) : v.four.length = 4 := rfl
def valCells (vs : List GV) : List Value := vs.flatMap GV.four
theorem valCells_snoc (vs : List GV) (v : GV) : valCells (vs ++ [v]) = valCells vs ++ [.int .i64 v.kind, .int .i64 v.num, .string v.text, .int .i64 v.node] := by
  simp [valCells, GV.four]

theorem owns_vals {w : World} {base t n len cap : Nat} {a : Option Addr} {vs : List GV} (ho : w.ownsRow base t 4 (.slice a len cap) n (valCells vs)) {B : Nat} (hB : w.heap.size ≤ B) : ValsAt B w a vs := fun i hi => by
  have hg : ∀ j, j < 4 → (valCells vs)[i * 4 + j]? = (vs[i]!.four)[j]? := fun j hj => flatMap_get GV.four_length vs i j hi hj
  obtain ⟨g, ha, hb, hlt, c0⟩ := owns_cell ho (hg 0 (by decide))
  obtain ⟨g1, ha1, _, _, c1⟩ := owns_cell ho (hg 1 (by decide))
  obtain ⟨g2, ha2, _, _, c2⟩ := owns_cell ho (hg 2 (by decide))
  obtain ⟨g3, ha3, _, _, c3⟩ := owns_cell ho (hg 3 (by decide))
  rw [ha] at ha1 ha2 ha3
  simp at ha1 ha2 ha3
  subst ha1 ha2 ha3
  exact ⟨g, 0, ha, by omega, ⟨by rw [Nat.zero_add]; exact c0, by rw [Nat.zero_add]; exact c1, by rw [Nat.zero_add]; exact c2, by rw [Nat.zero_add]; exact c3⟩⟩

/-- a node, and where its values lie -/
structure NL where
  n : GN
  a : Option Addr
  cap : Nat
  deriving Inhabited
def NL.two (x : NL) : List Value := [.int .i64 x.n.tag, .slice x.a x.n.vals.length x.cap]
theorem NL.two_length (x : NL) : x.two.length = 2 := rfl
def nodeCells (l : List NL) : List Value := l.flatMap NL.two
theorem nodeCells_snoc (l : List NL) (x : NL) : nodeCells (l ++ [x]) = nodeCells l ++ [.int .i64 x.n.tag, .slice x.a x.n.vals.length x.cap] := by
  simp [nodeCells, NL.two]

theorem owns_nodes {w : World} {base t n len cap : Nat} {a : Option Addr} {l : List NL} (ho : w.ownsRow base t 2 (.slice a len cap) n (nodeCells l)) (hv : ∀ x, x ∈ l → ValsAt w.heap.size w x.a x.n.vals) : NodesAt w.heap.size w a (l.map (·.n)) := fun i hi => by
  have hi' : i < l.length := by simpa using hi
  have e : (l.map (·.n))[i]! = (l[i]!).n := by rw [getElem!_pos _ i hi, getElem!_pos l i hi']; simp
  have hg : ∀ j, j < 2 → (nodeCells l)[i * 2 + j]? = (l[i]!.two)[j]? := fun j hj => flatMap_get NL.two_length l i j hi' hj
  obtain ⟨g, ha, hb, hlt, c0⟩ := owns_cell ho (hg 0 (by decide))
  obtain ⟨g1, ha1, _, _, c1⟩ := owns_cell ho (hg 1 (by decide))
  rw [ha] at ha1
  simp at ha1
  subst ha1
  rw [e]
  exact ⟨g, 0, l[i]!.a, l[i]!.cap, ha, hlt, ⟨by rw [Nat.zero_add]; exact c0, by rw [Nat.zero_add]; exact c1, hv _ (mem_at hi')⟩⟩

/-- a node's own variable -/
structure Two (w : World) (b : Nat) (t : Int) (s : Value) : Prop where
  lt : b < w.heap.size
  c0 : w.cell? ⟨b, 0, none⟩ = some (.int .i64 t)
  c1 : w.cell? ⟨b, 1, none⟩ = some s
  f : ∀ o, w.frozen? ⟨b, o, none⟩ = false
  z : ∃ c ty, w.heap[b]? = some (.cells c ty (0, 0))
theorem Two.same {w w' : World} {b : Nat} {t : Int} {s : Value} (h : Two w b t s) (e : w'.heap[b]? = w.heap[b]?) (hlt : b < w'.heap.size) : Two w' b t s :=
  ⟨hlt, (World.cell?_of_block (w := w) e).trans h.c0, (World.cell?_of_block (w := w) e).trans h.c1, fun o => (World.frozen?_of_block (w := w) e).trans (h.f o), let ⟨c, ty, hc⟩ := h.z; ⟨c, ty, e.trans hc⟩⟩
theorem Two.kept {p : Nat → Prop} {w w' : World} {b : Nat} {t : Int} {s : Value} (h : Two w b t s) (k : Kept p w w') (hn : ¬ p b) : Two w' b t s := h.same (k.block b h.lt hn) (Nat.lt_of_lt_of_le h.lt k.size)
theorem Two.new_at (w : World) (t : Int) (s : Value) (ty : TypeId) (b : Nat) (hb : b = w.heap.size) : Two (w.alloc (.cells #[.int .i64 t, s] ty)) b t s := by
  subst hb; exact ⟨by simp, by simp, by simp, fun o => by simp, _, _, blk_new_at _ _ _ rfl⟩
theorem Two.set {w : World} {b : Nat} {t : Int} {s s' : Value} (h : Two w b t s) : Two (w.setCell ⟨b, 1, none⟩ s') b t s' := by
  refine ⟨by have := h.lt; simpa [World.setCell] using this, ?_, ?_, fun o => ?_, ?_⟩
  · rw [World.cell?_setCell_other _ _ _ _ (by simp)]; exact h.c0
  · exact World.cell?_setCell_same _ _ _ h.c1
  · rw [World.frozen?_setCell]; exact h.f o
  · obtain ⟨c, ty, hc⟩ := h.z
    exact ⟨c.setIfInBounds 1 s', ty, by simp [World.setCell, Array.getElem?_modify, hc]⟩

/-- a graph's own variable, written -/
structure Five (w : World) (b : Nat) (v : GV) (s : Value) : Prop where
  lt : b < w.heap.size
  c0 : w.cell? ⟨b, 0, none⟩ = some (.int .i64 v.kind)
  c1 : w.cell? ⟨b, 1, none⟩ = some (.int .i64 v.num)
  c2 : w.cell? ⟨b, 2, none⟩ = some (.string v.text)
  c3 : w.cell? ⟨b, 3, none⟩ = some (.int .i64 v.node)
  c4 : w.cell? ⟨b, 4, none⟩ = some s
  f : ∀ o, w.frozen? ⟨b, o, none⟩ = false
theorem Five.same {w w' : World} {b : Nat} {v : GV} {s : Value} (h : Five w b v s) (e : w'.heap[b]? = w.heap[b]?) (hlt : b < w'.heap.size) : Five w' b v s :=
  ⟨hlt, (World.cell?_of_block (w := w) e).trans h.c0, (World.cell?_of_block (w := w) e).trans h.c1, (World.cell?_of_block (w := w) e).trans h.c2, (World.cell?_of_block (w := w) e).trans h.c3, (World.cell?_of_block (w := w) e).trans h.c4, fun o => (World.frozen?_of_block (w := w) e).trans (h.f o)⟩
theorem Five.kept {p : Nat → Prop} {w w' : World} {b : Nat} {v : GV} {s : Value} (h : Five w b v s) (k : Kept p w w') (hn : ¬ p b) : Five w' b v s := h.same (k.block b h.lt hn) (Nat.lt_of_lt_of_le h.lt k.size)
theorem Five.new_at (w : World) (v : GV) (s : Value) (ty : TypeId) (b : Nat) (hb : b = w.heap.size) : Five (w.alloc (.cells #[.int .i64 v.kind, .int .i64 v.num, .string v.text, .int .i64 v.node, s] ty)) b v s := by
  subst hb; exact ⟨by simp, by simp, by simp, by simp, by simp, by simp, fun o => by simp⟩
theorem Five.set {w : World} {b : Nat} {v : GV} {s s' : Value} (h : Five w b v s) : Five (w.setCell ⟨b, 4, none⟩ s') b v s' := by
  refine ⟨by have := h.lt; simpa [World.setCell] using this, ?_, ?_, ?_, ?_, ?_, fun o => ?_⟩
  · rw [World.cell?_setCell_other _ _ _ _ (by simp)]; exact h.c0
  · rw [World.cell?_setCell_other _ _ _ _ (by simp)]; exact h.c1
  · rw [World.cell?_setCell_other _ _ _ _ (by simp)]; exact h.c2
  · rw [World.cell?_setCell_other _ _ _ _ (by simp)]; exact h.c3
  · exact World.cell?_setCell_same _ _ _ h.c4
  · rw [World.frozen?_setCell]; exact h.f o

/-- a value written into a variable of its own -/
abbrev put4 (w : World) (b : Nat) (v : GV) : World := (((w.setCell ⟨b, 0, none⟩ (.int .i64 v.kind)).setCell ⟨b, 1, none⟩ (.int .i64 v.num)).setCell ⟨b, 2, none⟩ (.string v.text)).setCell ⟨b, 3, none⟩ (.int .i64 v.node)
theorem Kept.put4 (w : World) (b : Nat) (v : GV) : Kept (fun k => k = b) w (put4 w b v) :=
  ((((Kept.refl (fun k => k = b) w).set (fun _ => rfl) _).set (fun _ => rfl) _).set (fun _ => rfl) _).set (fun _ => rfl) _

/-- a value written into a graph's root -/
theorem Five.put {w : World} {b : Nat} {v v' : GV} {s : Value} (h : Five w b v s) :
    Five ((((w.setCell ⟨b, 0, none⟩ (.int .i64 v'.kind)).setCell ⟨b, 1, none⟩ (.int .i64 v'.num)).setCell ⟨b, 2, none⟩ (.string v'.text)).setCell ⟨b, 3, none⟩ (.int .i64 v'.node)) b v' s := by
  have h0 := World.cell?_setCell_same w ⟨b, 0, none⟩ (.int .i64 v'.kind) h.c0
  have h1 : (w.setCell ⟨b, 0, none⟩ (.int .i64 v'.kind)).cell? ⟨b, 1, none⟩ = _ := (World.cell?_setCell_other _ _ _ _ (by simp)).trans h.c1
  have h2 : (w.setCell ⟨b, 0, none⟩ (.int .i64 v'.kind)).cell? ⟨b, 2, none⟩ = _ := (World.cell?_setCell_other _ _ _ _ (by simp)).trans h.c2
  have h3 : (w.setCell ⟨b, 0, none⟩ (.int .i64 v'.kind)).cell? ⟨b, 3, none⟩ = _ := (World.cell?_setCell_other _ _ _ _ (by simp)).trans h.c3
  have h4 : (w.setCell ⟨b, 0, none⟩ (.int .i64 v'.kind)).cell? ⟨b, 4, none⟩ = _ := (World.cell?_setCell_other _ _ _ _ (by simp)).trans h.c4
  refine ⟨by have := h.lt; simpa [World.setCell] using this, ?_, ?_, ?_, ?_, ?_, fun o => ?_⟩
  · rw [World.cell?_setCell_other _ _ _ _ (by simp), World.cell?_setCell_other _ _ _ _ (by simp), World.cell?_setCell_other _ _ _ _ (by simp)]; exact h0
  · rw [World.cell?_setCell_other _ _ _ _ (by simp), World.cell?_setCell_other _ _ _ _ (by simp)]; exact World.cell?_setCell_same _ _ _ h1
  · rw [World.cell?_setCell_other _ _ _ _ (by simp)]
    exact World.cell?_setCell_same _ _ _ (u := .string v.text) (by rw [World.cell?_setCell_other _ _ _ _ (by simp)]; exact h2)
  · exact World.cell?_setCell_same _ _ _ (u := .int .i64 v.node) (by rw [World.cell?_setCell_other _ _ _ _ (by simp), World.cell?_setCell_other _ _ _ _ (by simp)]; exact h3)
  · rw [World.cell?_setCell_other _ _ _ _ (by simp), World.cell?_setCell_other _ _ _ _ (by simp), World.cell?_setCell_other _ _ _ _ (by simp)]; exact h4
  · rw [World.frozen?_setCell, World.frozen?_setCell, World.frozen?_setCell, World.frozen?_setCell]; exact h.f o

end Go.Proofs.Ythjddpkegooobaa

/-
  CUR: a place in bytes. Own work.
-/
namespace Go.Proofs.Ythjddpkegooobaa
open Go.RowKit

/-- the panic by which an image is left -/
abbrev haltP : PanicEntry := { v := .iface 149 (.agg #[]), recovered := false }

/-- a cursor's two cells -/
structure Cur (w : World) (b : Nat) (sa : Option Addr) (len cap at_ : Nat) : Prop where
  lt : b < w.heap.size
  c0 : w.cell? ⟨b, 0, none⟩ = some (.slice sa len cap)
  c1 : w.cell? ⟨b, 1, none⟩ = some (.int .i64 (at_ : Int))
  f : ∀ o, w.frozen? ⟨b, o, none⟩ = false

set_option maxRecDepth 100000 in
theorem Cur.same {w w' : World} {b : Nat} {sa : Option Addr} {len cap at_ : Nat} (h : Cur w b sa len cap at_) (e : w'.heap[b]? = w.heap[b]?) (hlt : b < w'.heap.size) : Cur w' b sa len cap at_ :=
  ⟨hlt, (World.cell?_of_block (w := w) e).trans h.c0, (World.cell?_of_block (w := w) e).trans h.c1, fun o => (World.frozen?_of_block (w := w) e).trans (h.f o)⟩
theorem Cur.kept {p : Nat → Prop} {w w' : World} {b : Nat} {sa : Option Addr} {len cap at_ : Nat} (h : Cur w b sa len cap at_) (k : Kept p w w') (hn : ¬ p b) : Cur w' b sa len cap at_ := h.same (k.block b h.lt hn) (Nat.lt_of_lt_of_le h.lt k.size)
set_option maxRecDepth 100000 in
theorem Cur.set {w : World} {b : Nat} {sa : Option Addr} {len cap at_ : Nat} (h : Cur w b sa len cap at_) {z : Int} {n : Nat} (hz : z = (n : Int)) : Cur (w.setCell ⟨b, 1, none⟩ (.int .i64 z)) b sa len cap n := by
  subst hz
  refine ⟨by have := h.lt; simpa [World.setCell] using this, ?_, ?_, fun o => ?_⟩
  · rw [World.cell?_setCell_other _ _ _ _ (by simp)]; exact h.c0
  · exact World.cell?_setCell_same _ _ _ h.c1
  · rw [World.frozen?_setCell]; exact h.f o
set_option maxRecDepth 100000 in
theorem Cur.drewN {w : World} {b : Nat} {sa : Option Addr} {len cap at_ : Nat} (h : Cur w b sa len cap at_) (k : Nat) : Cur (w.drewN k) b sa len cap at_ := ⟨h.lt, h.c0, h.c1, h.f⟩
theorem Kept.drewN {p : Nat → Prop} {w w' : World} (h : Kept p w w') (k : Nat) : Kept p w (w'.drewN k) := ⟨h.os, h.tape, h.output, h.size, h.block⟩

/-- what 'next' leaves, where there is so much -/
def NextPost (b : Nat) (sa : Option Addr) (len cap at_ n : Nat) (w : World) (e : Ending) (w' : World) : Prop :=
  ∃ p c, e = .returned (.slice p n c) ∧ (0 < n → ∀ g off, sa = some ⟨g, off, none⟩ → p = some ⟨g, off + at_, none⟩) ∧ Cur w' b sa len cap (at_ + n) ∧ Kept (fun k => k = b) w w'

set_option maxRecDepth 100000 in
theorem next_fits (b : Nat) (sa : Option Addr) (len cap at_ n : Nat) (w : World) (hc : Cur w b sa len cap at_) (hlc : len ≤ cap) (hlm : len ≤ maxLen) (hn : at_ + n ≤ len) :
    Calls Try.prog 137 #[.pointer (some ⟨b, 0, none⟩), .int .i64 (n : Int)] w (NextPost b sa len cap at_ n w) := by
  obtain ⟨hlt, c0, c1, hf⟩ := id hc
  unfold maxLen at hlm
  have hd : ¬ ((len : Int) - (at_ : Int) < (n : Int)) := by omega
  by_cases hca : cap = at_
  · subst hca
    go_enter Try.func137, Try.ntmps137
    go_wp2_with (go_quiet (fail))
    go_ret
    refine ⟨_, _, rfl, fun h => ?_, ((hc.drewN _).set (by omega)).drewN _, (((Kept.refl (fun k => k = b) w).drewN _).set (fun _ => rfl) _).drewN _⟩
    exact absurd h (by omega)
  · go_enter Try.func137, Try.ntmps137
    go_wp2_with (go_quiet (fail))
    go_ret
    exact ⟨_, _, rfl, fun _ g off e => by subst e; simp [Addr.add], ((hc.drewN _).set (by omega)).drewN _, (((Kept.refl (fun k => k = b) w).drewN _).set (fun _ => rfl) _).drewN _⟩

/-- what 'next' leaves, where there is not -/
def HaltPost (w : World) (e : Ending) (w' : World) : Prop := e = .panicked [haltP] ∧ Below w.heap.size w w'

set_option maxRecDepth 100000 in
theorem next_not (b : Nat) (sa : Option Addr) (len cap at_ n : Nat) (w : World) (hc : Cur w b sa len cap at_) (hlm : len ≤ maxLen) (hat : at_ ≤ len) (hn : len < at_ + n) :
    Calls Try.prog 137 #[.pointer (some ⟨b, 0, none⟩), .int .i64 (n : Int)] w (HaltPost w) := by
  obtain ⟨hlt, c0, c1, hf⟩ := id hc
  unfold maxLen at hlm
  have hd : (len : Int) - (at_ : Int) < (n : Int) := by omega
  go_enter Try.func137, Try.ntmps137
  go_wp2_with (go_quiet (fail))
  exact ⟨rfl, rfl, (gre w).trans ⟨rfl, rfl, rfl, Nat.le_refl _, fun _ _ => rfl⟩⟩

set_option maxRecDepth 100000 in
theorem passed_any (b : Nat) (sa : Option Addr) (len cap at_ : Nat) (w : World) (hc : Cur w b sa len cap at_) (hlc : len ≤ cap) (_hlm : len ≤ maxLen) (hat : at_ ≤ len) :
    Calls Try.prog 64 #[.pointer (some ⟨b, 0, none⟩)] w fun e w' => e = .returned (.slice sa at_ cap) ∧ Below w.heap.size w w' := by
  obtain ⟨hlt, c0, c1, hf⟩ := id hc
  have h0 : (0 : Int) ≤ (at_ : Int) := by omega
  have h1 : (at_ : Int) ≤ (cap : Int) := by omega
  go_enter Try.func64, Try.ntmps64
  go_wp2_with (go_quiet (fail))
  go_ret
  exact ⟨rfl, (gre w).trans ⟨rfl, rfl, rfl, Nat.le_refl _, fun _ _ => rfl⟩⟩

end Go.Proofs.Ythjddpkegooobaa

/-
  RD: the program's reader. Own work.
-/
namespace Go.Proofs.Ythjddpkegooobaa
open Go.RowKit

/-- bytes at a place, below a bound -/
def BytesLow (B : Nat) (w : World) (a : Option Addr) (bs : List Nat) : Prop := ∀ i, i < bs.length → ∃ b off, a = some ⟨b, off, none⟩ ∧ b < B ∧ w.cell? ⟨b, off + i, none⟩ = some (.int .u8 ((bs[i]! : Nat) : Int))
set_option maxRecDepth 100000 in
theorem BytesLow.below {B : Nat} {w w' : World} {a : Option Addr} {bs : List Nat} (h : BytesLow B w a bs) (hb : Below B w w') : BytesLow B w' a bs := fun i hi => by
  obtain ⟨b, off, ha, hB, hc⟩ := h i hi
  exact ⟨b, off, ha, hB, (World.cell?_of_block (w := w) (hb.block b hB)).trans hc⟩
set_option maxRecDepth 100000 in
theorem BytesLow.at_ {B : Nat} {w : World} {a : Option Addr} {bs : List Nat} (h : BytesLow B w a bs) : BytesAt w a bs := fun i hi => by
  obtain ⟨b, off, ha, _, hc⟩ := h i hi
  exact ⟨b, off, ha, hc⟩
set_option maxRecDepth 100000 in
theorem BytesAt.low {w : World} {a : Option Addr} {bs : List Nat} (h : BytesAt w a bs) : BytesLow w.heap.size w a bs := fun i hi => by
  obtain ⟨b, off, ha, hc⟩ := h i hi
  exact ⟨b, off, ha, World.block_lt_of_cell? _ _ hc, hc⟩

/-- a reader that has so much left -/
structure Rd (w : World) (b : Nat) (sa : Option Addr) (cap : Nat) (bs r : List Nat) : Prop where
  ex : ∃ at_, Cur w b sa bs.length cap at_ ∧ at_ ≤ bs.length ∧ r = bs.drop at_
  low : BytesLow b w sa bs
  cap : bs.length ≤ cap
  len : bs.length ≤ 1099511627776
  byte : ∀ x, x ∈ bs → x < 256

set_option maxRecDepth 100000 in
theorem Rd.lt {w : World} {b : Nat} {sa : Option Addr} {cap : Nat} {bs r : List Nat} (h : Rd w b sa cap bs r) : b < w.heap.size := by obtain ⟨_, hc, _⟩ := h.ex; exact hc.lt
set_option maxRecDepth 100000 in
theorem Rd.kept {p : Nat → Prop} {w w' : World} {b : Nat} {sa : Option Addr} {cap : Nat} {bs r : List Nat} (h : Rd w b sa cap bs r) (k : Kept p w w') (hp : ∀ k, k ≤ b → ¬ p k) : Rd w' b sa cap bs r := by
  obtain ⟨at_, hc, ha, hr⟩ := h.ex
  exact ⟨⟨at_, hc.kept k (hp b (Nat.le_refl _)), ha, hr⟩, h.low.below (k.below (by have := hc.lt; omega) (fun k hk => hp k (by omega))), h.cap, h.len, h.byte⟩
set_option maxRecDepth 100000 in
theorem Rd.grow {w w' : World} {b : Nat} {sa : Option Addr} {cap : Nat} {bs r : List Nat} (h : Rd w b sa cap bs r) (k : Below w.heap.size w w') : Rd w' b sa cap bs r := h.kept (Kept.of_below k (fun _ => False)) (fun _ _ e => e)

/-- what a reader's call leaves -/
def RPost {α : Type} (f : Option (α × List Nat)) (enc : α → Value) (b : Nat) (sa : Option Addr) (cap : Nat) (bs : List Nat) (w : World) (e : Ending) (w' : World) : Prop :=
  Kept (fun k => k = b) w w' ∧ ((∃ x r', Hid (f = some (x, r')) ∧ e = .returned (enc x) ∧ Rd w' b sa cap bs r') ∨ (Hid (f = none) ∧ e = .panicked [haltP]))

def rdByte : List Nat → Option (Nat × List Nat)
  | [] => none
  | x :: r => some (x, r)

theorem hidx {α : Type} (x : α) : ∃ y, Hid (y = x) := ⟨x, rfl⟩
set_option maxRecDepth 100000 in
theorem drop_cons {bs : List Nat} {k : Nat} (h : k < bs.length) : bs.drop k = bs[k]! :: bs.drop (k + 1) := by
  rw [List.drop_eq_getElem_cons h, getElem!_pos bs k h]

set_option maxRecDepth 100000 in
theorem readByte_any (b : Nat) (sa : Option Addr) (cap : Nat) (bs r : List Nat) (w : World) (hR : Rd w b sa cap bs r) :
    Calls Try.prog 149 #[.pointer (some ⟨b, 0, none⟩)] w (RPost (rdByte r) (fun x => .int .u8 (x : Int)) b sa cap bs w) := by
  obtain ⟨⟨k, hC, hk, hr⟩, hlow, hcap, hlen, hbyte⟩ := hR
  by_cases hlt : k < bs.length
  · obtain ⟨x, hx⟩ := hidx bs[k]!
    have e1 : Hid (rdByte r = some (x, bs.drop (k + 1))) := by show _ = _; rw [hr, drop_cons hlt, hx.out]; rfl
    obtain ⟨ba, off, rfl, hba, hcell⟩ := hlow k hlt
    rw [← hx.out] at hcell
    go_enter Try.func149, Try.ntmps149
    go_wp2_with (go_at_call 137; refine (next_fits b _ bs.length cap k 1 _ hC hcap (by unfold maxLen; omega) (by omega)).mono ?_; rintro e w1 ⟨p, c, rfl, hp, hC1, hK1⟩; obtain rfl := hp (by omega) _ _ rfl; have hcell1 := hK1.cell hcell (by omega))
    go_ret
    exact ⟨hK1, Or.inl ⟨_, _, e1, rfl, ⟨⟨k + 1, hC1, by omega, rfl⟩, hlow.below (hK1.below (by have := hC.lt; omega) (fun k hk e => by omega)), hcap, hlen, hbyte⟩⟩⟩
  · have e1 : Hid (rdByte r = none) := by show _ = _; rw [hr, List.drop_of_length_le (by omega)]; rfl
    go_enter Try.func149, Try.ntmps149
    go_wp2_with (go_at_call 137; refine (next_not b _ bs.length cap k 1 _ hC (by unfold maxLen; omega) hk (by omega)).mono ?_; rintro e w1 ⟨rfl, hb⟩)
    exact ⟨rfl, Kept.of_below hb _, Or.inr ⟨e1, rfl⟩⟩

set_option maxRecDepth 100000 in
theorem conv_text {w : World} {a : Option Addr} {n c : Nat} {ys : List Nat} (h : BytesAt w a ys) (hn : ys.length = n) : (convert 22 9 (.slice a n c)).run Try.prog w = .ok (.string (strB ys)) w := by
  by_cases h0 : n = 0
  · subst h0
    have : ys = [] := List.eq_nil_of_length_eq_zero hn
    subst this
    cases a with
    | none =>
      rw [run_convert_bytes_nil w 22 5 Try.underlying22 Try.underlying5 0 c 9 Try.underlying9]
      rfl
    | some p =>
      obtain ⟨b, off, sp⟩ := p
      rw [run_convert_bytes_string w 22 9 5 _ 0 c Try.underlying22 Try.underlying5 Try.underlying9]
      have hl : (loadCells ⟨b, off, sp⟩ 0).run Try.prog w = .ok ((([] : List Int).map (Value.int .u8)).toArray) w := by simp [loadCells, loadCellsFrom]
      rw [run_bytesToString w _ 0 c [] hl]
      rfl
  · obtain ⟨b, off, rfl, _⟩ := h 0 (by omega)
    refine run_convert_bytes_arg w 22 5 Try.underlying22 Try.underlying5 b off n c (ys.map fun (x : Nat) => (x : Int)) (by rw [List.length_map]; exact hn) (fun i hi => ?_) 9 Try.underlying9
    obtain ⟨b', off', e, hc⟩ := h i (by omega)
    have e2 : b' = b ∧ off' = off := by simpa using e.symm
    obtain ⟨rfl, rfl⟩ := e2
    rw [hc, getElem!_pos ys i (by omega)]
    simp [List.getD, show i < ys.length by omega]

theorem take_bytes {w : World} {b : Nat} {sa p : Option Addr} {bs : List Nat} {k n : Nat} (hlow : BytesLow b w sa bs) (hkn : k + n ≤ bs.length) (hp : 0 < n → ∀ g off, sa = some ⟨g, off, none⟩ → p = some ⟨g, off + k, none⟩) : BytesAt w p ((bs.drop k).take n) := fun i hi => by
  rw [List.length_take, List.length_drop] at hi
  obtain ⟨ba, off, e, hba, hcell⟩ := hlow (k + i) (by omega)
  refine ⟨ba, off + k, hp (by omega) _ _ e, ?_⟩
  rw [Nat.add_assoc, hcell, getElem!_pos _ i (by rw [List.length_take, List.length_drop]; omega), getElem!_pos bs (k + i) (by omega)]
  simp

theorem Rd.head {w : World} {b : Nat} {sa : Option Addr} {cap : Nat} {bs q r' : List Nat} {x : Nat} (h : Rd w b sa cap bs q) (hx : rdByte q = some (x, r')) : x < 256 ∧ q = x :: r' := by
  cases q with
  | nil => cases hx
  | cons y t =>
    have e : y = x ∧ t = r' := by simpa [rdByte] using hx
    obtain ⟨rfl, rfl⟩ := e
    obtain ⟨k, _, _, hr⟩ := h.ex
    refine ⟨h.byte y ?_, rfl⟩
    have h1 : y ∈ bs.drop k := by rw [← hr]; exact List.mem_cons_self ..
    exact List.mem_of_mem_drop h1
theorem or_form {n x s : Nat} (hn : n < 18446744073709551616) (hx : x < 256) : bits .or .u64 (n : Int) (IntKind.u64.wrap (IntKind.u64.wrap (bits .andNot .u8 (x : Int) 128) * 2 ^ min s 64)) = ((orU n (x % 128) s : Nat) : Int) := by
  have e1 : bits .andNot .u8 (x : Int) 128 = ((x % 128 : Nat) : Int) := by
    rw [u8_andNot _ _ (by omega) (by omega) (by omega) (by omega)]
    have h1 : (255 - (128 : Int).toNat) = 127 := rfl
    rw [h1, Int.toNat_natCast, nat_mask7]
  have e2 : IntKind.u64.wrap ((x % 128 : Nat) : Int) = ((x % 128 : Nat) : Int) := by rw [IntKind.wrap_u64]; omega
  have e3 : (((x % 128 : Nat) : Int) * 2 ^ min s 64) = ((x % 128 * 2 ^ min s 64 : Nat) : Int) := by push_cast; rfl
  have e4 : IntKind.u64.wrap ((x % 128 * 2 ^ min s 64 : Nat) : Int) = ((x % 128 * 2 ^ min s 64 % 18446744073709551616 : Nat) : Int) := by rw [IntKind.wrap_u64]; generalize x % 128 * 2 ^ min s 64 = y; omega
  rw [e1, e2, e3, e4, u64_or_nat n _ hn (Nat.mod_lt _ (by omega))]
  rfl
theorem orU_lt {n x s : Nat} (hn : n < 18446744073709551616) : orU n x s < 18446744073709551616 := by
  unfold orU
  exact Nat.or_lt_two_pow (n := 64) hn (Nat.mod_lt _ (by omega))

end Go.Proofs.Ythjddpkegooobaa

/-
  RD: the program's reader. Own work.
-/
namespace Go.Proofs.Ythjddpkegooobaa
open Go.RowKit

set_option maxRecDepth 100000 in
theorem readText_any (b : Nat) (sa : Option Addr) (cap : Nat) (bs r : List Nat) (n : Nat) (z : Int) (w : World) (hR : Rd w b sa cap bs r) (hz : z = (n : Int)) (hn : n ≤ 1048576) :
    Calls Try.prog 119 #[.pointer (some ⟨b, 0, none⟩), .int .i64 z] w (RPost (rdText n r) (fun x => .string x) b sa cap bs w) := by
  subst hz
  obtain ⟨⟨k, hC, hk, hr⟩, hlow, hcap, hlen, hbyte⟩ := hR
  have hrl : r.length = bs.length - k := by rw [hr, List.length_drop]
  by_cases hlt : k + n ≤ bs.length
  · have e1 : Hid (rdText n r = some (strB (r.take n), r.drop n)) := if_pos (by omega)
    go_enter Try.func119, Try.ntmps119
    go_wp2_with (go_at_call 137; refine (next_fits b _ bs.length cap k n _ hC hcap (by unfold maxLen; omega) hlt).mono ?_; rintro e w1 ⟨p, c, rfl, hp, hC1, hK1⟩; have hlow1 := hlow.below (hK1.below (show b ≤ w.heap.size by have := hC.lt; omega) (fun k hk e => by omega)); have hbt := take_bytes (n := n) hlow1 hlt hp; rw [← hr] at hbt; have hcv := conv_text (n := n) (c := c) hbt (by rw [List.length_take]; omega))
    go_ret
    exact ⟨hK1, Or.inl ⟨_, _, e1, by rw [hr]; rfl, ⟨⟨k + n, hC1, hlt, by rw [hr, List.drop_drop]⟩, hlow1, hcap, hlen, hbyte⟩⟩⟩
  · have e1 : Hid (rdText n r = none) := if_neg (by omega)
    go_enter Try.func119, Try.ntmps119
    go_wp2_with (go_at_call 137; refine (next_not b _ bs.length cap k n _ hC (by unfold maxLen; omega) hk (by omega)).mono ?_; rintro e w1 ⟨rfl, hb⟩)
    exact ⟨rfl, Kept.of_below hb _, Or.inr ⟨e1, rfl⟩⟩

set_option maxRecDepth 100000 in
theorem readNumber_any (b : Nat) (sa : Option Addr) (cap : Nat) (bs r : List Nat) (w : World) (hR : Rd w b sa cap bs r) :
    Calls Try.prog 148 #[.pointer (some ⟨b, 0, none⟩)] w (RPost (rdNum 0 0 r) (fun x => .int .u64 (x : Int)) b sa cap bs w) := by
  go_enter Try.func148, Try.ntmps148
  go_wp2
  go_loopw [3, 4] (fun a c ws => ∃ (n s : Nat) (q : List Nat), a = .int .u64 n ∧ c = .int .i64 s ∧ n < 18446744073709551616 ∧ s + 7 * q.length ≤ 7 * bs.length ∧ Hid (rdNum 0 0 r = rdNum n s q) ∧ Rd ws b sa cap bs q ∧ Kept (fun k => k = b) w ws) (fun _ c _ => 7 * bs.length + 7 - (intOf c).toNat)
  case atStart =>
    refine ⟨0, 0, r, rfl, rfl, by omega, ?_, rfl, hR, Kept.refl _ _⟩
    obtain ⟨k, _, _, hr⟩ := hR.ex
    rw [hr, List.length_drop]; omega
  case round =>
    obtain ⟨n, s, q, rfl, rfl, hn, hs, hq, hRq, hK⟩ := hrel
    have hlen := hRq.len
    go_wp2_with (go_at_call 149; refine (readByte_any b sa cap bs q _ hRq).mono ?_; rintro e w1 ⟨hK1, ⟨x, r', hx, rfl, hR1⟩ | ⟨hno, rfl⟩⟩)
    · rename_i hlt
      obtain ⟨hx256, hqx⟩ := hRq.head hx.out
      have e5 : Hid (rdNum 0 0 r = some (orU n (x % 128) s, r')) := by show _ = _; rw [hq.out, hqx, rdNum, if_pos (by omega)]
      go_ret
      exact ⟨hK.trans hK1 (fun _ _ h => h), Or.inl ⟨_, r', e5, ret_int (or_form hn hx256), hR1⟩⟩
    · rename_i hlt
      obtain ⟨hx256, hqx⟩ := hRq.head hx.out
      have e5 : Hid (rdNum 0 0 r = rdNum (orU n (x % 128) s) (s + 7) r') := by show _ = _; rw [hq.out, hqx, rdNum, if_neg (by omega)]
      have hl2 : q.length = r'.length + 1 := by rw [hqx]; rfl
      refine ⟨⟨orU n (x % 128) s, s + 7, r', congrArg (Value.int .u64) (or_form hn hx256), by go_num, orU_lt hn, by omega, e5, hR1, hK.trans hK1 (fun _ _ h => h)⟩, ?_⟩
      simp [intOf]; omega
    · have e5 : Hid (rdNum 0 0 r = none) := by
        show _ = _
        rw [hq.out]
        cases q with
        | nil => rfl
        | cons y t => cases hno.out
      exact ⟨rfl, hK.trans hK1 (fun _ _ h => h), Or.inr ⟨e5, rfl⟩⟩

set_option maxRecDepth 100000 in
theorem readCount_any (b : Nat) (sa : Option Addr) (cap : Nat) (bs r : List Nat) (most : Nat) (z : Int) (w : World) (hR : Rd w b sa cap bs r) (hz : z = (most : Int)) (hm : most ≤ 1048576) :
    Calls Try.prog 120 #[.pointer (some ⟨b, 0, none⟩), .int .i64 z] w (RPost (rdCount most r) (fun x => .int .i64 (x : Int)) b sa cap bs w) := by
  subst hz
  have e6 : IntKind.u64.wrap (most : Int) = (most : Int) := by rw [IntKind.wrap_u64]; omega
  go_enter Try.func120, Try.ntmps120
  go_wp2_with (go_at_call 148; refine (readNumber_any b sa cap bs r _ hR).mono ?_; rintro e w1 ⟨hK1, ⟨x, r', hx, rfl, hR1⟩ | ⟨hno, rfl⟩⟩)
  · rename_i hgt
    have e5 : Hid (rdCount most r = none) := by show _ = _; unfold rdCount; rw [hx.out]; exact if_neg (by omega)
    exact ⟨rfl, hK1, Or.inr ⟨e5, rfl⟩⟩
  · rename_i hle
    have e5 : Hid (rdCount most r = some (x, r')) := by show _ = _; unfold rdCount; rw [hx.out]; exact if_pos (by omega)
    go_ret
    exact ⟨hK1, Or.inl ⟨x, r', e5, rfl, hR1⟩⟩
  · have e5 : Hid (rdCount most r = none) := by show _ = _; unfold rdCount; rw [hno.out]
    exact ⟨rfl, hK1, Or.inr ⟨e5, rfl⟩⟩

end Go.Proofs.Ythjddpkegooobaa

/-
  L6T: texts, drawn. Own work.
-/
namespace Go.Proofs.Ythjddpkegooobaa
open Go.RowKit

theorem strB_size (ys : List Nat) : (strB ys).size = ys.length := by
  unfold strB strOfNums
  simp [ByteArray.size]

theorem owns_bytesD {w : World} {base n c : Nat} {a : Option Addr} {zs : List Nat} (h : w.ownsRow base 5 1 (.slice a n c) zs.length (bcells zs)) : BytesAt w a zs := fun i hi => by
  obtain ⟨g, rfl, _, _, hc⟩ := owns_cell h (bcells_get hi)
  exact ⟨g, 0, rfl, by simpa using hc⟩

/-- a drawn text -/
def TextD (w : World) (b : Nat) (sa : Option Addr) (bs : List Nat) (cap at_ : Nat) (e : Ending) (w' : World) : Prop :=
  ∃ (t : ByteArray) (at' : Nat), t.size ≤ 1000 ∧ at' ≤ at_ + 10 ∧ e = .returned (.string t) ∧ DK w w' b sa bs cap at'

def strSize : Value → Nat
  | .string t => t.size
  | _ => 0

set_option maxRecDepth 100000 in
theorem l6text_any (b : Nat) (sa : Option Addr) (bs : List Nat) (cap at_ : Nat) (w : World) (hc : DC w b sa bs cap at_) (hat : at_ + 10 < 4611686018427387904) :
    Calls Try.prog 144 #[.pointer (some ⟨b, 0, none⟩)] w (TextD w b sa bs cap at_) := by
  obtain ⟨i0, hi, hz0, hz1, hz2⟩ := info_parts info_u8
  go_enter Try.func144, Try.ntmps144
  go_wp2_with (go_at_call_of 52 ((30 : Int)); refine (l6pick_of b sa bs cap at_ 30 30 w rfl hc (by omega) (by omega) (by omega)).mono ?_; rintro e w1 ⟨x, at1, hx, ha1, rfl, hk⟩; obtain rfl | h3 : x = 0 ∨ 1 ≤ x := by omega)
  · go_loopw [3] (fun s ws => ∃ t : ByteArray, s = .string t ∧ 10 ≤ t.size ∧ t.size ≤ 1999 ∧ DK w ws b sa bs cap at1) (fun s _ => 2000 - strSize s)
    case atStart => exact ⟨_, rfl, by decide, by decide, hk⟩
    case round =>
      obtain ⟨t, rfl, h10, h20, hk0⟩ := hrel
      by_cases hlt : t.size < 1000
      · have hd : (t.size : Int) < 1000 := by omega
        go_wp2
        go_roundw
        case rel => exact ⟨_, rfl, by simp [ByteArray.size_append]; omega, by simp [ByteArray.size_append]; omega, hk0⟩
        case measure => simp [strSize, ByteArray.size_append]; omega
      · have hd : ¬ (t.size : Int) < 1000 := by omega
        go_wp2_with (go_at_call_of 52 ((2 : Int)); refine (l6pick_of b sa bs cap at1 2 2 _ rfl hk0.dc (by omega) (by omega) (by omega)).mono ?_; rintro e w2 ⟨y, at2, hy, ha2, rfl, hk2⟩)
        go_ret
        exact ⟨t.extract 0 (1000 - y), at2, by simp [ByteArray.size_extract]; omega, by omega, rfl, hk0.trans hk2⟩
  · refine (l6pick_of b sa bs cap at1 6 6 w1 rfl hk.dc (by omega) (by omega) (by omega)).mono ?_
    rintro e w2 ⟨y, at2, hy, ha2, rfl, hk2⟩
    have hbw := hc.lt
    have hkk := hk.trans hk2
    go_wp2
    go_loopw [4, 5] (fun o i ws => ∃ (n at3 : Nat) (zs : List Nat) (oa1 : Option Addr) (cap1 : Nat), o = .slice oa1 zs.length cap1 ∧ i = .int .i64 n ∧ n + zs.length ≤ 5 ∧ at3 + n ≤ at_ + 10 ∧ ws.ownsRow w.heap.size 5 1 (.slice oa1 zs.length cap1) zs.length (bcells zs) ∧ DK w ws b sa bs cap at3) (fun _ i _ => (intOf i).toNat)
    case atStart => exact ⟨y, at2, [], none, 0, rfl, rfl, by simp; omega, by omega, World.ownsRow_nil _ _ _ _, hkk⟩
    case round =>
      obtain ⟨n, at3, zs, oa1, cap1, rfl, rfl, hnz, hn3, hO, hD⟩ := hrel
      by_cases hlt : 0 < n
      · have hd : (0 : Int) < (n : Int) := by omega
        go_wp2_with (first
          | (go_at_call 109; refine (l6next_any b sa bs cap at3 wr hD.dc (by omega)).mono ?_; rintro e w3 ⟨z, hz, rfl, hk3⟩)
          | (have hO3 := hk3.kept.owns hO (fun k hk e => by have := (hO.lt k hk).1; omega); have hs3 := hk3.kept.size; have hsD := hD.kept.size; at_builtin; refine wpList_append_lies _ rfl (.tmp 26) (.tmp 30) 22 rfl w.heap.size 5 i0 (.int .u8 0) 1 1 Try.underlying22 hi hz0 hz1 hz2 rfl (by decide) _ _ _ rfl (hO3.alloc _) ⟨w3.heap.size, 0, none⟩ 1 1 [.int .u8 (z : Int)] rfl rfl (World.news_of_block (cs := #[.int .u8 (z : Int)]) (t := 5) (fr := (0, 0)) (blk_new_at _ _ _ (by simp))) (by simp [Value.oneCell']) (by decide) (by unfold maxLen; omega) (by omega) (by simp; omega) (w3.heap.size + 1) (by simp) ?_; intro g cap2 w4 hown1 hgrow hat4 hlt2))
        have hG := Kept.of_grown hgrow
        have hA : Kept (fun _ => False) w3 (w3.alloc (.cells #[.int .u8 (z : Int)] 5)) := (Kept.refl _ w3).alloc _
        have hob : ∀ k, (Value.slice oa1 zs.length cap1).ownBlock = some k → w.heap.size ≤ k := fun k hk => (hO.lt k hk).1
        go_roundw
        case rel =>
          refine ⟨n - 1, at3 + 1, zs ++ [z], some ⟨g, 0, none⟩, cap2, by simp, congrArg (Value.int .i64) (by omega), by simp; omega, by omega, ?_, ?_⟩
          · simpa [bcells_snoc] using hown1
          · refine ⟨((hk3.dc.kept hA (fun e => e) (fun _ _ _ e => e)).kept hG (fun e => by have := hob _ e; omega) (fun g off e h => ?_)), ((hD.kept.trans hk3.kept (fun _ _ e => e)).trans hA (fun _ _ e => e.elim)).trans hG (fun k hk e => by have := hob _ e; omega)⟩
            have := hob _ h
            have h9 := hc.sl g off e
            omega
        case measure => simp [intOf]; omega
      · obtain rfl : n = 0 := by omega
        have hcv := conv_text (c := cap1) (owns_bytesD hO) rfl
        go_wp2
        go_ret
        exact ⟨strB zs, at3, by rw [strB_size]; omega, by omega, rfl, hD⟩

end Go.Proofs.Ythjddpkegooobaa

/-
  CLONE: a text's own copy is the same text. Own work.
-/
namespace Go.Proofs.Ythjddpkegooobaa
open Go.RowKit

set_option maxRecDepth 100000 in
theorem info_byte : (Try.prog.info? 5).map (fun i => (i.zero, i.size, i.bytes)) = some (some (.int .u8 0), 1, 1) := by kernel_rfl
theorem size_byte : (Try.prog.info? 5).map (·.size) = some 1 := by kernel_rfl
theorem cells_byte : Try.prog.cellsOf 5 = 1 := by kernel_rfl

set_option maxRecDepth 100000 in
set_option maxHeartbeats 1000000 in
theorem sliteClone_any (s : ByteArray) (w : World) (hs : s.size ≤ 1000) :
    Calls Try.prog 158 #[.string s] w fun e w' => e = .returned (.string s) ∧ Below w.heap.size w w' := by
  by_cases h0 : s.size = 0
  · obtain rfl : s = ⟨#[]⟩ := ByteArray.ext (Array.eq_empty_of_size_eq_zero h0)
    go_enter Try.func158, Try.ntmps158
    go_wp2
    go_ret
    exact ⟨rfl, gre _⟩
  · obtain ⟨i0, hi, hz0, hz1, hz2⟩ := info_parts info_byte
    obtain ⟨M, hM⟩ : ∃ M, Hid (M = madeCells #[Value.int .u8 0] s.size) := ⟨_, rfl⟩
    have hMs : M.size = s.size := by rw [hM.out, size_madeCells]
    have hmk : ∀ u : World, (Instr.makeSlice 22 (.int .i64 (s.size : Int)) (.int .i64 (s.size : Int))).run Try.prog u = .ok (.slice (some ⟨u.heap.size, 0, none⟩) s.size s.size) (u.alloc (.cells M 5)) := fun u => by
      have h := run_make (P := Try.prog) u 22 5 i0 _ Try.underlying22 hi hz0 .i64 .i64 (s.size : Int) (s.size : Int) (by omega) (Int.le_refl _) (by rw [hz2]; omega) (by omega)
      rw [hM.out]
      simpa [hz1, Value.cells] using h
    have hnew : (w.alloc (.cells M 5)).heap[w.heap.size]? = some (.cells M 5 (0, 0)) := heap_alloc_new w _
    have hcp := Lib.run_copy_row_string (P := Try.prog) (w.alloc (.cells M 5)) 22 9 3 5 w.heap.size 0 s.size s.size s M 5 Try.underlying22 size_byte hnew (Nat.le_refl _) (by omega)
    obtain ⟨Y, hY⟩ : ∃ Y, Y = (M.toList.take 0 ++ Lib.byteCells s.data.toList ++ M.toList.drop (0 + s.size)).toArray := ⟨_, rfl⟩
    rw [← hY] at hcp
    have hYl : Y.toList = Lib.byteCells s.data.toList := by
      rw [hY, List.toList_toArray, List.take_zero, List.nil_append, List.drop_of_length_le (by rw [Array.length_toList]; omega), List.append_nil]
    have hYs : Y.size = s.size := by rw [← Array.length_toList, hYl, Lib.byteCells_length, ← Lib.size_eq]
    have hrow : ((w.alloc (.cells M 5)).setRow w.heap.size Y).heap[w.heap.size]? = some (.cells Y 5 (0, 0)) := setRow_heap _ _ M _ 5 (0, 0) hnew
    have hne : s.data.toList ≠ [] := fun e => h0 (by rw [Lib.size_eq, e]; rfl)
    have hus := Lib.run_unsafeString_row (P := Try.prog) ((w.alloc (.cells M 5)).setRow w.heap.size Y) 194 3 9 5 Try.underlying194 cells_byte w.heap.size Y.size (by unfold World.shape?; rw [hrow]) s.data.toList hne (by rw [← Lib.size_eq]; omega) (by rw [← Lib.size_eq]; omega)
      (fun j x hx => Lib.cells_of_row hrow Y.size j _ (by rw [List.take_of_length_le (by rw [Array.length_toList]; exact Nat.le_refl _), hYl]; simp [Lib.byteCells, hx]))
    rw [← Lib.size_eq] at hus
    clear hY hnew hrow hM
    go_enter Try.func158, Try.ntmps158
    go_wp2
    go_ret
    have hb : Below w.heap.size w ((w.alloc (.cells M 5)).setRow w.heap.size Y) := (gal (gre w) _).trans ⟨rfl, rfl, rfl, by simp, fun k hk => setRow_other _ _ _ _ (by omega)⟩
    exact ⟨rfl, Lib.below_freeze hb (p := ⟨w.heap.size, 0, none⟩) (Nat.le_refl _) _⟩

set_option maxRecDepth 100000 in
theorem clone_any (s : ByteArray) (w : World) (hs : s.size ≤ 1000) :
    Calls Try.prog 145 #[.string s] w fun e w' => e = .returned (.string s) ∧ Below w.heap.size w w' := by
  go_enter Try.func145, Try.ntmps145
  go_wp2_with (go_at_call 158; refine (sliteClone_any s _ hs).mono ?_; rintro e w' ⟨rfl, hb⟩)
  go_ret
  exact ⟨rfl, hb⟩

end Go.Proofs.Ythjddpkegooobaa
