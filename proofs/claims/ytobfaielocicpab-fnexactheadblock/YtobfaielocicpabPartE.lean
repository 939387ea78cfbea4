import Derived.Laws.OwnMore
import Derived.Deep.Cut
import Derived.Deep.QuietTactic
import Derived.BigQuiet
import Derived.ProofKit
import Derived.OpenShut
import Derived.Deep.Slices
import Derived.Test.YtobfaielocicpabPartD

/-
  OB2: the specification's values as bytes. Own work.
-/
namespace Go.Proofs.Ytobfaielocicpab
open Go.RowKit

set_option maxRecDepth 100000 in
theorem l2eight_any (base : Nat) (oa : Option Addr) (len cap : Nat) (xs : List Nat) (n : Nat) (z : Int) (w : World) (hlen : len = xs.length) (hz : z = (n : Int)) (hn : n < 18446744073709551616) (hbase : base ≤ w.heap.size) (hl : xs.length ≤ 1099511627776)
    (hO : w.ownsRow base 5 1 (.slice oa xs.length cap) xs.length (bcells xs)) :
    Calls Try.prog 130 #[.slice oa len cap, .int .u64 z] w (APost base oa xs (lowB 8 n) w) := by
  subst hz hlen
  obtain ⟨i0, hi, hz0, hz1, hz2⟩ := info_parts info_u8
  go_enter Try.func130, Try.ntmps130
  go_wp2
  go_loopw [0, 1, 5] (fun o i c ws => ∃ (k m : Nat) (zs : List Nat) (oa1 : Option Addr) (cap1 : Nat), o = .slice oa1 zs.length cap1 ∧ i = .int .u64 m ∧ c = .int .i64 k ∧ k ≤ 8 ∧ Hid (zs = xs ++ lowB k n) ∧ Hid (m = n / 256 ^ k) ∧ zs.length ≤ xs.length + k ∧ m < 18446744073709551616 ∧ Ob w base oa ws oa1 cap1 zs) (fun _ _ c _ => 8 - (intOf c).toNat)
  case atStart => exact ⟨0, n, xs, oa, cap, rfl, rfl, rfl, by omega, (List.append_nil _).symm, by show _ = _; simp, Nat.le_refl _, hn, Ob.start hO⟩
  case round =>
    obtain ⟨k, m, zs, oa1, cap1, rfl, rfl, rfl, hk, hzs, hm, hzl, hm64, hOb⟩ := hrel
    have hsz := hOb.kept.size
    by_cases hlt : k < 8
    · have hd : (k : Int) < 8 := by omega
      obtain ⟨x, hx⟩ : ∃ x, Hid (x = m % 256) := ⟨_, rfl⟩
      have e2 : IntKind.u8.wrap (m : Int) = (x : Int) := by rw [hx.out, IntKind.wrap_u8']; omega
      go_wp2_with (at_builtin; refine wpList_append_lies _ rfl (.tmp 10) (.tmp 13) 28 rfl base 5 i0 (.int .u8 0) 1 1 Try.underlying28 hi hz0 hz1 hz2 rfl (by decide) _ _ _ rfl (hOb.own.alloc _) ⟨wr.heap.size, 0, none⟩ 1 1 [.int .u8 (x : Int)] rfl rfl (World.news_of_block (cs := #[.int .u8 (x : Int)]) (t := 5) (fr := (0, 0)) (blk_new_at _ _ _ (by simp))) (by simp [Value.oneCell']) (by decide) (by unfold maxLen; omega) (by omega) (by simp; omega) (wr.heap.size + 1) (by simp) ?_; intro g cap2 w1 hown1 hgrow hat hlt2)
      have hP := hOb.push (ys := [x]) (gal (gre _) _) hown1 hgrow (hat.elim Or.inl (fun h => Or.inr (by omega)))
      go_roundw
      case rel =>
        refine ⟨k + 1, m / 256, zs ++ [x], _, _, by simp, by go_num, by go_num, by omega, ?_, ?_, by simp; omega, by omega, hP⟩
        · show _ = _
          rw [hzs.out, lowB_snoc, hx.out, hm.out, List.append_assoc]
        · show _ = _
          rw [hm.out, Nat.div_div_eq_div_mul, Nat.pow_succ]
      case measure => simp [intOf]; omega
    · obtain rfl : k = 8 := by omega
      go_wp2
      go_ret
      have e3 := hzs.out
      subst e3
      exact ⟨_, _, rfl, hOb⟩

set_option maxRecDepth 100000 in
theorem l2signed_any (n : Int) (w : World) (hn : I64 n) :
    Calls Try.prog 165 #[.int .i64 n] w fun e w' => e = .returned (.int .u64 (zig n : Int)) ∧ Below w.heap.size w w' := by
  unfold I64 at hn
  by_cases h0 : n < 0
  · have e1 : Hid (zig n = (-2 * n - 1).toNat) := if_pos h0
    go_enter Try.func165, Try.ntmps165
    go_wp2
    go_ret
    refine ⟨ret_int ?_, gre _⟩
    rw [e1.out]
    try simp only [IntKind.wrap_u64, wrap64]
    omega
  · have e1 : Hid (zig n = (2 * n).toNat) := if_neg h0
    go_enter Try.func165, Try.ntmps165
    go_wp2
    go_ret
    refine ⟨ret_int ?_, gre _⟩
    rw [e1.out]
    try simp only [IntKind.wrap_u64, wrap64]
    omega

set_option maxRecDepth 100000 in
theorem l2val_nil (base : Nat) (oa : Option Addr) (cap : Nat) (xs : List Nat)  (w : World)  (hbase : base ≤ w.heap.size) (hl : xs.length ≤ 1099511600000)
    (hO : w.ownsRow base 5 1 (.slice oa xs.length cap) xs.length (bcells xs)) :
    Calls Try.prog 129 #[.slice oa xs.length cap, (GV.mk 0 0 ⟨#[]⟩ 0).val] w (APost base oa xs (0 :: []) w) := by
  obtain ⟨i0, hi, hz0, hz1, hz2⟩ := info_parts info_u8
  have hF := (Four.new w ⟨0, 0, ⟨#[]⟩, 0⟩ 30).alloc (.cells #[.int .u8 0] 5)
  have hn0 : ¬ ((Value.slice oa xs.length cap).ownBlock = some w.heap.size) := fun e => by have := (hO.lt _ e).2; omega
  go_enter Try.func129, Try.ntmps129
  go_wp2_with (at_builtin; refine wpList_append_lies _ rfl (.tmp 5) (.tmp 9) 28 rfl base 5 i0 (.int .u8 0) 1 1 Try.underlying28 hi hz0 hz1 hz2 rfl (by decide) _ _ _ rfl ((hO.alloc _).alloc _) ⟨w.heap.size + 1, 0, none⟩ 1 1 [.int .u8 0] rfl rfl (World.news_of_block (cs := #[.int .u8 0]) (t := 5) (fr := (0, 0)) (blk_new_at _ _ _ (by simp))) (by simp [Value.oneCell']) (by decide) (by unfold maxLen; omega) (by omega) (by simp; omega) (w.heap.size + 2) (by simp) ?_; intro g cap2 w1 hown1 hgrow hat hlt2; have hF1 := hF.kept (Kept.of_grown hgrow) hn0; obtain ⟨fz, f0, f1, f2, f3, ff⟩ := id hF1; have hP := (Ob.start hO).push (ys := [0]) (gal (gal (gre _) _) _) hown1 hgrow (hat.elim Or.inl (fun h => Or.inr (by omega))); have hs1 := hP.kept.size)
  go_ret
  exact ⟨_, _, by simp, hP⟩

set_option maxRecDepth 100000 in
theorem l2val_num (base : Nat) (oa : Option Addr) (cap : Nat) (xs : List Nat) (num : Int) (w : World) (hn : I64 num) (hbase : base ≤ w.heap.size) (hl : xs.length ≤ 1099511600000)
    (hO : w.ownsRow base 5 1 (.slice oa xs.length cap) xs.length (bcells xs)) :
    Calls Try.prog 129 #[.slice oa xs.length cap, (GV.mk 1 num ⟨#[]⟩ 0).val] w (APost base oa xs (1 :: numB (zig num)) w) := by
  obtain ⟨i0, hi, hz0, hz1, hz2⟩ := info_parts info_u8
  have hF := (Four.new w ⟨1, num, ⟨#[]⟩, 0⟩ 30).alloc (.cells #[.int .u8 1] 5)
  have hn0 : ¬ ((Value.slice oa xs.length cap).ownBlock = some w.heap.size) := fun e => by have := (hO.lt _ e).2; omega
  go_enter Try.func129, Try.ntmps129
  go_wp2_with (first
    | (at_builtin; refine wpList_append_lies _ rfl (.tmp 5) (.tmp 9) 28 rfl base 5 i0 (.int .u8 0) 1 1 Try.underlying28 hi hz0 hz1 hz2 rfl (by decide) _ _ _ rfl ((hO.alloc _).alloc _) ⟨w.heap.size + 1, 0, none⟩ 1 1 [.int .u8 1] rfl rfl (World.news_of_block (cs := #[.int .u8 1]) (t := 5) (fr := (0, 0)) (blk_new_at _ _ _ (by simp))) (by simp [Value.oneCell']) (by decide) (by unfold maxLen; omega) (by omega) (by simp; omega) (w.heap.size + 2) (by simp) ?_; intro g cap2 w1 hown1 hgrow hat hlt2; have hF1 := hF.kept (Kept.of_grown hgrow) hn0; obtain ⟨fz, f0, f1, f2, f3, ff⟩ := id hF1; have hP := (Ob.start hO).push (ys := [1]) (gal (gal (gre _) _) _) hown1 hgrow (hat.elim Or.inl (fun h => Or.inr (by omega))); have hs1 := hP.kept.size)
    | (go_at_call 165; refine (l2signed_any num _ hn).mono ?_; rintro e w2 ⟨rfl, hb2⟩; have hP2 := hP.grow hb2; have hs2 := hP2.kept.size)
    | (go_at_call 128; refine (l2num_any base _ _ _ (xs ++ [1]) (zig num) _ _ (by simp) rfl (zig_lt hn) (by omega) (by simp; omega) hP2.own).mono ?_; rintro e w3 ⟨oa3, cap3, rfl, hQ⟩))
  go_ret
  have hR := hP2.call hQ
  rw [List.append_assoc] at hR
  exact ⟨_, _, by simp, hR⟩

set_option maxRecDepth 100000 in
theorem l2val_bits (base : Nat) (oa : Option Addr) (cap : Nat) (xs : List Nat) (num : Int) (w : World)  (hbase : base ≤ w.heap.size) (hl : xs.length ≤ 1099511600000)
    (hO : w.ownsRow base 5 1 (.slice oa xs.length cap) xs.length (bcells xs)) :
    Calls Try.prog 129 #[.slice oa xs.length cap, (GV.mk 2 num ⟨#[]⟩ 0).val] w (APost base oa xs (2 :: lowB 8 (u64n num)) w) := by
  obtain ⟨i0, hi, hz0, hz1, hz2⟩ := info_parts info_u8
  have hF := (Four.new w ⟨2, num, ⟨#[]⟩, 0⟩ 30).alloc (.cells #[.int .u8 2] 5)
  have hn0 : ¬ ((Value.slice oa xs.length cap).ownBlock = some w.heap.size) := fun e => by have := (hO.lt _ e).2; omega
  have e6 : IntKind.u64.wrap num = ((u64n num : Nat) : Int) := by rw [IntKind.wrap_u64]; unfold u64n; omega
  go_enter Try.func129, Try.ntmps129
  go_wp2_with (first
    | (at_builtin; refine wpList_append_lies _ rfl (.tmp 5) (.tmp 9) 28 rfl base 5 i0 (.int .u8 0) 1 1 Try.underlying28 hi hz0 hz1 hz2 rfl (by decide) _ _ _ rfl ((hO.alloc _).alloc _) ⟨w.heap.size + 1, 0, none⟩ 1 1 [.int .u8 2] rfl rfl (World.news_of_block (cs := #[.int .u8 2]) (t := 5) (fr := (0, 0)) (blk_new_at _ _ _ (by simp))) (by simp [Value.oneCell']) (by decide) (by unfold maxLen; omega) (by omega) (by simp; omega) (w.heap.size + 2) (by simp) ?_; intro g cap2 w1 hown1 hgrow hat hlt2; have hF1 := hF.kept (Kept.of_grown hgrow) hn0; obtain ⟨fz, f0, f1, f2, f3, ff⟩ := id hF1; have hP := (Ob.start hO).push (ys := [2]) (gal (gal (gre _) _) _) hown1 hgrow (hat.elim Or.inl (fun h => Or.inr (by omega))); have hs1 := hP.kept.size)
    | (go_at_call 130; refine (l2eight_any base _ _ _ (xs ++ [2]) (u64n num) _ _ (by simp) ?_ (u64n_lt num) (by omega) (by simp; omega) hP.own).mono ?_; (first | rfl | exact e6); rintro e w3 ⟨oa3, cap3, rfl, hQ⟩))
  go_ret
  have hR := hP.call hQ
  rw [List.append_assoc] at hR
  exact ⟨_, _, by simp, hR⟩

set_option maxRecDepth 100000 in
theorem l2val_node (base : Nat) (oa : Option Addr) (cap : Nat) (xs : List Nat) (node : Nat) (w : World) (hn : node < 300) (hbase : base ≤ w.heap.size) (hl : xs.length ≤ 1099511600000)
    (hO : w.ownsRow base 5 1 (.slice oa xs.length cap) xs.length (bcells xs)) :
    Calls Try.prog 129 #[.slice oa xs.length cap, (GV.mk 4 0 ⟨#[]⟩ node).val] w (APost base oa xs (4 :: numB node) w) := by
  obtain ⟨i0, hi, hz0, hz1, hz2⟩ := info_parts info_u8
  have hF := (Four.new w ⟨4, 0, ⟨#[]⟩, node⟩ 30).alloc (.cells #[.int .u8 4] 5)
  have hn0 : ¬ ((Value.slice oa xs.length cap).ownBlock = some w.heap.size) := fun e => by have := (hO.lt _ e).2; omega
  have e6 : IntKind.u64.wrap (node : Int) = (node : Int) := by rw [IntKind.wrap_u64]; omega
  go_enter Try.func129, Try.ntmps129
  go_wp2_with (first
    | (at_builtin; refine wpList_append_lies _ rfl (.tmp 5) (.tmp 9) 28 rfl base 5 i0 (.int .u8 0) 1 1 Try.underlying28 hi hz0 hz1 hz2 rfl (by decide) _ _ _ rfl ((hO.alloc _).alloc _) ⟨w.heap.size + 1, 0, none⟩ 1 1 [.int .u8 4] rfl rfl (World.news_of_block (cs := #[.int .u8 4]) (t := 5) (fr := (0, 0)) (blk_new_at _ _ _ (by simp))) (by simp [Value.oneCell']) (by decide) (by unfold maxLen; omega) (by omega) (by simp; omega) (w.heap.size + 2) (by simp) ?_; intro g cap2 w1 hown1 hgrow hat hlt2; have hF1 := hF.kept (Kept.of_grown hgrow) hn0; obtain ⟨fz, f0, f1, f2, f3, ff⟩ := id hF1; have hP := (Ob.start hO).push (ys := [4]) (gal (gal (gre _) _) _) hown1 hgrow (hat.elim Or.inl (fun h => Or.inr (by omega))); have hs1 := hP.kept.size)
    | (go_at_call 128; refine (l2num_any base _ _ _ (xs ++ [4]) node _ _ (by simp) ?_ (by omega) (by omega) (by simp; omega) hP.own).mono ?_; (first | rfl | exact e6); rintro e w3 ⟨oa3, cap3, rfl, hQ⟩))
  go_ret
  have hR := hP.call hQ
  rw [List.append_assoc] at hR
  exact ⟨_, _, by simp, hR⟩


set_option maxRecDepth 100000 in
/-- a text's bytes appended: where they lie -/
theorem append_str_lies {P : Program} (w : World) (base : Nat) (t u ty e : TypeId) (i : TypeInfo) (ht : P.underlying t = some (.slice e)) (hu : P.underlying u = some .string) (hi : P.info? e = some i) (hz : i.zero = some (.int .u8 0))
    (hsize : i.size = 1) (hby : i.bytes = 1) (v : Value) (n : Nat) (xs : List Value) (hown : w.ownsRow base e 1 v n xs) (s : ByteArray)
    (h63 : n + s.size ≤ maxLen) (hbytes : n + s.size ≤ 140737488355328) (hbase : base ≤ w.heap.size) (hn : 0 < n) :
    ∃ g cap w', (Builtin.append_ #[t, u] ty #[v, .string s]).run P w = .ok (.slice (some ⟨g, 0, none⟩) (n + s.size) cap) w' ∧ w'.ownsRow base e 1 (.slice (some ⟨g, 0, none⟩) (n + s.size) cap) (n + s.size) (xs ++ Lib.strCells s) ∧ w.grownBy w' v.ownBlock ∧ (v.ownBlock = some g ∨ g = w.heap.size) := by
  obtain ⟨v', w', hr, h2, h3, _⟩ := Lib.run_append_own_string (P := P) w base t u ty e i ht hu hi hz hsize hby v n xs hown s h63 hbytes hbase
  obtain ⟨g, cap, rfl, _, hlt⟩ := h2.form (by omega)
  refine ⟨g, cap, w', hr, h2, h3, ?_⟩
  unfold maxLen at h63
  have hxl : xs.length = n := by simpa using hown.1
  rcases hown.2 with ⟨rfl, rfl⟩ | ⟨g0, cap0, cur, rfl, hbg, hg, hnc, hcm, hcs, htake⟩
  · omega
  · have hcs' : cur.size = cap0 := by simpa using hcs
    by_cases hroom : n + s.size ≤ cap0
    · have hr2 := Lib.run_append_room_string (P := P) w t u ty e i ht hu hi hsize g0 n cap0 cur hg s hroom (by omega)
      rw [hr] at hr2
      simp at hr2
      left
      rw [hr2.1.1]; rfl
    · have holds : ∀ j u, xs[j]? = some u → w.cell? ((⟨g0, 0, none⟩ : Addr).add j) = some u := hown.cells (g := g0) rfl
      have hr2 := Lib.run_append_grow_string (P := P) w t u ty e i (.int .u8 0) ht hu hi hz ⟨g0, 0, none⟩ n cap0 xs (by rw [hsize]; simpa using hxl) holds s (by omega) (by omega) (by rw [hby]; exact growslice_fits (by omega) (by omega))
      rw [hr] at hr2
      simp at hr2
      right
      exact hr2.1.1

end Go.Proofs.Ytobfaielocicpab

/-
  L4B: a head's block, as the specification writes it. Own work.
-/
namespace Go.Proofs.Ytobfaielocicpab
open Go.RowKit

/-- a head -/
abbrev headV (ok : Bool) (gen len sum : Int) : Value := .agg #[.bool ok, .int .i64 gen, .int .i64 len, .int .i64 sum]
def headOkB (ok : Bool) (gen len : Int) : Bool := ok && decide (1 ≤ gen) && decide (gen ≤ 1000000000000) && decide (1 ≤ len) && decide (len ≤ 4096)
/-- its numbers -/
def headN (gen len sum : Int) : List Nat := [72, 69, 65, 68] ++ lowB 8 (u64n gen) ++ lowB 8 (u64n len) ++ lowB 8 (u64n sum)
/-- its block -/
def headB (gen len sum : Int) : List Nat := headN gen len sum ++ lowB 8 (sumN (headN gen len sum)) ++ List.replicate 28 0
theorem headN_length (gen len sum : Int) : (headN gen len sum).length = 28 := by simp [headN, lowB_length]
theorem headB_length (gen len sum : Int) : (headB gen len sum).length = 64 := by simp [headB, headN_length, lowB_length]

theorem owns_atH {w : World} {base n cap : Nat} {a : Option Addr} {bs : List Nat} (h : w.ownsRow base 5 1 (.slice a n cap) bs.length (bcells bs)) : BytesAt w a bs := fun i hi => by
  obtain ⟨g, ha, _, _, hc⟩ := owns_cell h (bcells_get hi)
  exact ⟨g, 0, ha, by rw [Nat.zero_add]; exact hc⟩

def sliceN : Value → Nat
  | .slice _ n _ => n
  | _ => 0

structure HBox (w : World) (p : Nat) (ok : Bool) (gen len sum : Int) : Prop where
  lt : p < w.heap.size
  c0 : w.cell? ⟨p, 0, none⟩ = some (.bool ok)
  c1 : w.cell? ⟨p, 1, none⟩ = some (.int .i64 gen)
  c2 : w.cell? ⟨p, 2, none⟩ = some (.int .i64 len)
  c3 : w.cell? ⟨p, 3, none⟩ = some (.int .i64 sum)
theorem HBox.new (w : World) (ok : Bool) (gen len sum : Int) (t : TypeId) : HBox (w.alloc (.cells #[.bool ok, .int .i64 gen, .int .i64 len, .int .i64 sum] t)) w.heap.size ok gen len sum := ⟨by simp, by simp, by simp, by simp, by simp⟩
theorem HBox.kept {p : Nat → Prop} {w w' : World} {b : Nat} {ok : Bool} {gen len sum : Int} (h : HBox w b ok gen len sum) (k : Kept p w w') (hn : ¬ p b) : HBox w' b ok gen len sum :=
  ⟨Nat.lt_of_lt_of_le h.lt k.size, k.cell h.c0 hn, k.cell h.c1 hn, k.cell h.c2 hn, k.cell h.c3 hn⟩

set_option maxRecDepth 100000 in
theorem l4headok_any (ok : Bool) (gen len sum : Int) (w : World) :
    Calls Try.prog 116 #[headV ok gen len sum] w fun e w' => e = .returned (.bool (headOkB ok gen len)) ∧ Below w.heap.size w w' := by
  go_enter Try.func116, Try.ntmps116
  go_wp2
  all_goals
    go_ret
    refine ⟨?_, gal (gre _) _⟩
    simp_all [headOkB]
    try omega

set_option maxHeartbeats 2000000 in
set_option maxRecDepth 100000 in
theorem l4block_any (ok : Bool) (gen len sum : Int) (w : World) :
    Calls Try.prog 117 #[headV ok gen len sum] w fun e w' => ∃ oa c, e = .returned (.slice oa (headB gen len sum).length c) ∧ w'.ownsRow w.heap.size 5 1 (.slice oa (headB gen len sum).length c) (headB gen len sum).length (bcells (headB gen len sum)) ∧ Below w.heap.size w w' := by
  obtain ⟨i0, hi, hz0, hz1, hz2⟩ := info_parts info_u8
  have g6 : IntKind.u64.wrap gen = ((u64n gen : Nat) : Int) := by rw [IntKind.wrap_u64]; unfold u64n; omega
  have l6 : IntKind.u64.wrap len = ((u64n len : Nat) : Int) := by rw [IntKind.wrap_u64]; unfold u64n; omega
  have s6 : IntKind.u64.wrap sum = ((u64n sum : Nat) : Int) := by rw [IntKind.wrap_u64]; unfold u64n; omega
  have hb1 : ∀ x, x ∈ headN gen len sum → x < 256 := fun x hx => by
    unfold headN at hx
    rcases List.mem_append.1 hx with hx | hx
    · rcases List.mem_append.1 hx with hx | hx
      · rcases List.mem_append.1 hx with hx | hx
        · simp at hx; omega
        · exact lowB_byte _ _ _ hx
      · exact lowB_byte _ _ _ hx
    · exact lowB_byte _ _ _ hx
  obtain ⟨wA, hwA⟩ : ∃ wA, Hid (wA = w.alloc (.cells #[.bool ok, .int .i64 gen, .int .i64 len, .int .i64 sum] 74)) := ⟨_, rfl⟩
  have hsA : wA.heap.size = w.heap.size + 1 := by rw [hwA.out]; simp
  have hHA : HBox wA w.heap.size ok gen len sum := by rw [hwA.out]; exact HBox.new w ok gen len sum _
  have hKA : Kept (fun _ => False) w wA := by rw [hwA.out]; exact (Kept.refl _ w).alloc _
  have hO0 := World.ownsRow_lit (base := w.heap.size + 1) (e := 5) (size := 1) wA #[.int .u8 72, .int .u8 69, .int .u8 65, .int .u8 68] 4 (by omega) (by decide) rfl
  have hK0 : Kept (fun _ => False) wA (wA.alloc (.cells #[.int .u8 72, .int .u8 69, .int .u8 65, .int .u8 68] 5)) := (Kept.refl _ wA).alloc _
  have hH0 := hHA.kept hK0 (fun e => e)
  have hKw := hKA.trans hK0 (fun _ _ e => e)
  have hs0 : (wA.alloc (.cells #[.int .u8 72, .int .u8 69, .int .u8 65, .int .u8 68] 5)).heap.size = w.heap.size + 1 + 1 := by simp [hsA]
  rw [hsA] at hO0
  go_enter Try.func117, Try.ntmps117
  go_upto_region 2 with fail
  rw [← hwA.out]
  generalize wA.alloc (.cells #[.int .u8 72, .int .u8 69, .int .u8 65, .int .u8 68] 5) = wB at hO0 hH0 hKw hs0 ⊢
  clear hK0 hHA hKA
  obtain ⟨zs, hzs⟩ := hid_ex ([72, 69, 65, 68] : List Nat)
  replace hO0 : wB.ownsRow (w.heap.size + 1) 5 1 (.slice (some ⟨w.heap.size + 1, 0, none⟩) zs.length 4) zs.length (bcells zs) := by rw [hzs.out]; exact hO0
  have hz4 : Hid (zs.length = 4) := by show _ = _; rw [hzs.out]; rfl
  have hlow : ∀ n, (lowB 8 n).length = 8 := lowB_length 8
  obtain ⟨_, _, b1, b2, b3⟩ := id hH0
  go_wp2_with (first
    | (go_at_call 130; refine (l2eight_any (w.heap.size + 1) oa3 z3.length c3 z3 (sumN z3) _ w5 rfl rfl (sumN_lt z3) (by have := hb5.size; have := hQ3.kept.size; have := hQ2.kept.size; have := hQ1.kept.size; omega) (by have := hl3.out; omega) ((Kept.of_below hb5 (fun _ => False)).owns hQ3.own (fun _ _ e => e))).mono ?_; rintro e w6 ⟨oa4, c4, rfl, hQ4⟩; obtain ⟨z4, hz4'⟩ := hid_ex (z3 ++ lowB 8 (sumN z3)); rw [← hz4'.out] at hQ4 ⊢)
    | (go_at_call 131; refine (l2sum_any oa3 z3 c3 w4 (owns_atH hQ3.own) (by have := hl3.out; unfold maxLen; omega) hb3).mono ?_; rintro e w5 ⟨rfl, hb5⟩)
    | (go_at_call 130; refine (l2eight_any (w.heap.size + 1) oa2 z2.length c2 z2 (u64n sum) _ w3 rfl (by first | rfl | exact s6) (u64n_lt sum) (by have := hQ2.kept.size; have := hQ1.kept.size; omega) (by have := hl2.out; omega) hQ2.own).mono ?_; rintro e w4 ⟨oa3, c3, rfl, hQ3⟩; obtain ⟨z3, hz3'⟩ := hid_ex (z2 ++ lowB 8 (u64n sum)); rw [← hz3'.out] at hQ3 ⊢; have hl3 : Hid (z3.length = 28) := (by show _ = _; rw [hz3'.out, List.length_append, hl2.out, hlow]); have hz3n : Hid (z3 = headN gen len sum) := (by show _ = _; rw [hz3'.out, hz2'.out, hz1'.out, hzs.out]; rfl); have hb3 : ∀ x, x ∈ z3 → x < 256 := (by rw [hz3n.out]; exact hb1))
    | (go_at_call 130; refine (l2eight_any (w.heap.size + 1) oa1 z1.length c1 z1 (u64n len) _ w2 rfl (by first | rfl | exact l6) (u64n_lt len) (by have := hQ1.kept.size; omega) (by have := hl1.out; omega) hQ1.own).mono ?_; rintro e w3 ⟨oa2, c2, rfl, hQ2⟩; obtain ⟨z2, hz2'⟩ := hid_ex (z1 ++ lowB 8 (u64n len)); rw [← hz2'.out] at hQ2 ⊢; have hl2 : Hid (z2.length = 20) := (by show _ = _; rw [hz2'.out, List.length_append, hl1.out, hlow]); have hH3 := hH2.kept hQ2.kept (fun e => (by have := (hQ1.lt e).1; omega)); obtain ⟨_, _, d1, d2, d3⟩ := id hH3)
    | (go_at_call 130; refine (l2eight_any (w.heap.size + 1) _ 4 4 zs (u64n gen) _ wB hz4.out.symm (by first | rfl | exact g6) (u64n_lt gen) (by omega) (by have := hz4.out; omega) hO0).mono ?_; rintro e w2 ⟨oa1, c1, rfl, hQ1⟩; obtain ⟨z1, hz1'⟩ := hid_ex (zs ++ lowB 8 (u64n gen)); rw [← hz1'.out] at hQ1 ⊢; have hl1 : Hid (z1.length = 12) := (by show _ = _; rw [hz1'.out, List.length_append, hz4.out, hlow]); have hH2 := hH0.kept hQ1.kept (fun e => (by have := some_addr e; omega)); obtain ⟨_, _, e1, e2, e3⟩ := id hH2))
  have hK6 : Kept (fun _ => False) w w6 := ((((hKw.trans hQ1.kept (fun k hk e => by have := some_addr e; omega)).trans hQ2.kept (fun k hk e => by have := (hQ1.lt e).1; omega)).trans hQ3.kept (fun k hk e => by have := (hQ2.lt e).1; omega)).trans (Kept.of_below hb5 (fun _ => False)) (fun _ _ e => e)).trans hQ4.kept (fun k hk e => by have := (hQ3.lt e).1; omega)
  have hl4 : Hid (z4.length = 36) := by show _ = _; rw [hz4'.out, List.length_append, hl3.out, hlow]
  have hfin : Hid (z4 ++ List.replicate 28 0 = headB gen len sum) := by show _ = _; rw [hz4'.out, hz3n.out]; rfl
  have hO6 := owns_le hQ4.own (show w.heap.size ≤ w.heap.size + 1 by omega)
  clear hQ1 hQ2 hQ3 hQ4 hH0 hH2 hH3 hO0 hKw b1 b2 b3 d1 d2 d3 e1 e2 e3 g6 l6 s6
  go_loopw [3] (fun v ws => ∃ (j : Nat) (ys : List Nat) (oa : Option Addr) (c : Nat), v = .slice oa ys.length c ∧ ys.length + j = 64 ∧ Hid (ys ++ List.replicate j 0 = headB gen len sum) ∧ ws.ownsRow w.heap.size 5 1 (.slice oa ys.length c) ys.length (bcells ys) ∧ Hid (Kept (fun _ => False) w ws)) (fun v _ => 64 - sliceN v)
  case atStart => exact ⟨28, z4, oa4, c4, rfl, by have := hl4.out; omega, hfin, hO6, hK6⟩
  case round =>
    obtain ⟨j, ys, oa, c, rfl, hj, hy, hO, hK⟩ := hrel
    by_cases hlt : ys.length < 64
    · have hd : (ys.length : Int) < 64 := by omega
      have hsK := hK.out.size
      go_wp2_with (at_builtin; refine wpList_append_lies _ rfl (.tmp 27) (.tmp 28) 28 rfl w.heap.size 5 i0 (.int .u8 0) 1 1 Try.underlying28 hi hz0 hz1 hz2 rfl (by decide) _ _ _ rfl (hO.alloc _) ⟨wr.heap.size, 0, none⟩ 1 1 [.int .u8 0] rfl rfl (World.news_of_block (cs := #[.int .u8 0]) (t := 5) (fr := (0, 0)) (blk_new_at _ _ _ (by simp))) (by simp [Value.oneCell']) (by decide) (by unfold maxLen; omega) (by omega) (by simp; omega) (wr.heap.size + 1) (by simp) ?_; intro g2 cap2 w7 hown7 hgrow7 hat7 hlt7)
      have hG := Kept.of_grown hgrow7
      have hA : Kept (fun _ => False) wr (wr.alloc (.cells #[.int .u8 0] 5)) := (Kept.refl _ wr).alloc _
      go_roundw
      case rel =>
        refine ⟨j - 1, ys ++ [0], some ⟨g2, 0, none⟩, cap2, by simp, by simp; omega, ?_, by simpa [bcells_snoc] using hown7, (hK.out.trans hA (fun _ _ e => e)).trans hG (fun k hk e => by have := (hO.lt _ e).1; omega)⟩
        show ys ++ [0] ++ List.replicate (j - 1) 0 = headB gen len sum
        rw [← hy.out, List.append_assoc]
        congr 1
        rw [show j = j - 1 + 1 by omega, List.replicate_succ]
        simp
      case measure => simp [sliceN]; omega
    · obtain rfl : j = 0 := by omega
      have hd : ¬ ((ys.length : Int) < 64) := by omega
      have e : ys = headB gen len sum := by rw [← hy.out]; simp
      go_wp2
      go_ret
      subst e
      exact ⟨oa, c, rfl, hO, hK.out.below (Nat.le_refl _) (fun k hk e => e)⟩

end Go.Proofs.Ytobfaielocicpab

/-
  HWR: the program's writer over a block that is zero behind what is written. Own work.
-/
namespace Go.Proofs.Ytobfaielocicpab
open Go.RowKit

/-- a row of bytes, zero behind the first ones -/
def ZRow (w : World) (a n : Nat) (xs : List Nat) : Prop := xs.length ≤ n ∧ w.rowIs a 5 n (fun i => .int .u8 ((xs[i]! : Nat) : Int))

theorem ZRow.brow {w : World} {a n : Nat} {xs : List Nat} (h : ZRow w a n xs) : BRow w a n xs := BRow.of_row h.2 h.1 (fun _ _ => rfl)
theorem ZRow.kept {p : Nat → Prop} {w w' : World} {a n : Nat} {xs : List Nat} (h : ZRow w a n xs) (k : Kept p w w') (hn : ¬ p a) : ZRow w' a n xs := by
  have hlt := h.brow.lt
  obtain ⟨hl, c, hc, r⟩ := h
  exact ⟨hl, c, (k.block a hlt hn).trans hc, r⟩

theorem snoc_any (xs : List Nat) (x i : Nat) : (xs ++ [x])[i]! = if i = xs.length then x else xs[i]! := by
  by_cases hi : i < (xs ++ [x]).length
  · exact snoc_get hi
  · have h2 : ¬ i < xs.length := by simp at hi; omega
    have h3 : i ≠ xs.length := by simp at hi; omega
    rw [if_neg h3, getElem!_neg _ i hi, getElem!_neg xs i h2]

set_option maxRecDepth 100000 in
theorem ZRow.push {w : World} {a n : Nat} {xs : List Nat} (h : ZRow w a n xs) (hl : xs.length < n) (x : Nat) : ZRow (w.setCell ⟨a, xs.length, none⟩ (.int .u8 (x : Int))) a n (xs ++ [x]) := by
  refine ⟨by simp; omega, ?_⟩
  have h1 := h.2.set xs.length (.int .u8 (x : Int))
  have e : (fun i => Value.int .u8 (((xs ++ [x])[i]! : Nat) : Int)) = (fun i => if i = xs.length then Value.int .u8 (x : Int) else .int .u8 ((xs[i]! : Nat) : Int)) := by
    funext i
    rw [snoc_any]
    split <;> rfl
  rw [e]
  exact h1

/-- a writer of a block -/
structure ZWr (w : World) (b a : Nat) (xs : List Nat) : Prop where
  cur : Cur w b (some ⟨a, 0, none⟩) 64 64 xs.length
  ne : a ≠ b
  row : ZRow w a 64 xs
theorem ZWr.kept {p : Nat → Prop} {w w' : World} {b a : Nat} {xs : List Nat} (h : ZWr w b a xs) (k : Kept p w w') (hb : ¬ p b) (ha : ¬ p a) : ZWr w' b a xs := ⟨h.cur.kept k hb, h.ne, h.row.kept k ha⟩
theorem ZWr.grow {w w' : World} {b a : Nat} {xs : List Nat} (h : ZWr w b a xs) (k : Below w.heap.size w w') : ZWr w' b a xs := h.kept (Kept.of_below k (fun _ => False)) (fun e => e) (fun e => e)

set_option maxRecDepth 100000 in
theorem zWriteByte (b a : Nat) (xs : List Nat) (x : Nat) (z : Int) (w : World) (hW : ZWr w b a xs) (hz : z = (x : Int)) (hl : xs.length + 1 ≤ 64) :
    Calls Try.prog 139 #[.pointer (some ⟨b, 0, none⟩), .int .u8 z] w fun e w' => e = .returned (.tuple #[]) ∧ ZWr w' b a (xs ++ [x]) ∧ Kept (fun k => k = b ∨ k = a) w w' := by
  subst hz
  go_enter Try.func139, Try.ntmps139
  go_wp2_with (go_at_call 158; refine (next_fits b _ 64 64 xs.length 1 _ hW.cur (by omega) (by decide) hl).mono ?_; rintro e w1 ⟨p, c, rfl, hp, hC, hK⟩; obtain rfl := hp (by omega) _ _ rfl; have hB := hW.row.kept hK hW.ne; obtain ⟨v, hv⟩ := hB.brow.any (i := xs.length) (by omega); have hfz := hB.brow.frozen xs.length)
  go_end0
  have hB2 := hB.push (by omega) x
  exact ⟨rfl, ⟨by rw [List.length_append]; exact hC.setOther (fun e => hW.ne e.symm) _, hW.ne, hB2⟩, (hK.mono (q := fun k => k = b ∨ k = a) (fun _ _ h => Or.inl h)).set (fun _ => Or.inr rfl) _⟩

set_option maxRecDepth 100000 in
theorem zWriteWord (b a : Nat) (xs : List Nat) (n : Int) (w : World) (hW : ZWr w b a xs) (hl : xs.length + 8 ≤ 64) :
    Calls Try.prog 77 #[.pointer (some ⟨b, 0, none⟩), .int .i64 n] w fun e w' => e = .returned (.tuple #[]) ∧ ZWr w' b a (xs ++ lowB 8 (u64n n)) ∧ Kept (fun k => k = b ∨ k = a) w w' := by
  go_enter Try.func77, Try.ntmps77
  go_wp2
  go_loopw [5] (fun i ws => ∃ (k : Nat), i = .int .i64 k ∧ k ≤ 8 ∧ ZWr ws b a (xs ++ lowB k (u64n n)) ∧ Kept (fun k => k = b ∨ k = a) w ws) (fun i _ => 8 - (intOf i).toNat)
  case atStart => exact ⟨0, rfl, by omega, by rw [lowB, List.append_nil]; exact hW, Kept.refl _ _⟩
  case round =>
    obtain ⟨k, rfl, hk, hWm, hK⟩ := hrel
    by_cases hlt : k < 8
    · have hd : (k : Int) < 8 := by omega
      go_wp2_with (go_at_call 139; refine (zWriteByte b a _ (u64n n / 256 ^ k % 256) _ _ hWm (word_byte n k hlt) (by simp [lowB_length]; omega)).mono ?_; rintro e w1 ⟨rfl, hW1, hK1⟩)
      go_roundw
      case rel => exact ⟨k + 1, by go_num, by omega, by rw [lowB_snoc, ← List.append_assoc]; exact hW1, hK.trans hK1 (fun _ _ h => h)⟩
      case measure => simp [intOf]; omega
    · obtain rfl : k = 8 := by omega
      go_wp2
      go_end0
      exact ⟨rfl, hWm, hK⟩

set_option maxRecDepth 100000 in
theorem ZRow.text {w : World} {a n : Nat} {cur : Array Value} (hc : w.heap[a]? = some (.cells cur 5 (0, 0))) (h : ZRow w a n []) (s : ByteArray) (hl : s.size ≤ n) :
    ZRow (w.setRow a (Lib.byteCells s.data.toList ++ cur.toList.drop s.size).toArray) a n (bsOf s) := by
  obtain ⟨_, c, hc', hs, hx⟩ := h
  rw [hc] at hc'
  obtain rfl : cur = c := by simpa using hc'
  have e2 : (Lib.byteCells s.data.toList).length = s.size := by rw [Lib.byteCells_length, ← Lib.size_eq]
  refine ⟨by rw [bsOf_length]; exact hl, _, setRow_heap _ _ _ _ _ _ hc, ?_, fun i hi => ?_⟩
  · simp only [List.size_toArray, List.length_append, e2, List.length_drop, Array.length_toList]; omega
  · rw [List.getElem?_toArray]
    by_cases h : i < s.size
    · rw [List.getElem?_append_left (by omega)]
      exact bsOf_get h
    · rw [List.getElem?_append_right (by omega), e2, List.getElem?_drop, Array.getElem?_toList, show s.size + (i - s.size) = i by omega, hx i hi]
      show some (Value.int .u8 ((([] : List Nat)[i]! : Nat) : Int)) = some (Value.int .u8 (((bsOf s)[i]! : Nat) : Int))
      rw [getElem!_neg (bsOf s) i (by rw [bsOf_length]; exact h), getElem!_neg ([] : List Nat) i (by simp)]

set_option maxRecDepth 100000 in
theorem zWriteText (b a : Nat) (s : ByteArray) (w : World) (hW : ZWr w b a []) (hs : s.size ≤ 64) (h0 : 0 < s.size) :
    Calls Try.prog 118 #[.pointer (some ⟨b, 0, none⟩), .string s] w fun e w' => e = .returned (.tuple #[]) ∧ ZWr w' b a (bsOf s) ∧ Kept (fun k => k = b ∨ k = a) w w' := by
  have hbl := bsOf_length s
  go_enter Try.func118, Try.ntmps118
  go_wp2_with (go_at_call 158; refine (next_fits b _ 64 64 0 s.size _ hW.cur (by omega) (by decide) (by omega)).mono ?_; rintro e w1 ⟨p, c, rfl, hp, hC, hK⟩; obtain rfl := hp (by omega) _ _ rfl; have hB := hW.row.kept hK hW.ne; obtain ⟨cur, hcur, hcs, _⟩ := hB.brow; have hcp := Lib.run_copy_row_string (P := Try.prog) w1 28 9 3 5 a 0 s.size c s cur 5 Try.underlying28 size_byte hcur (Nat.le_refl _) (by omega))
  go_end0
  have hB2 := hB.text hcur s hs
  have hKs : Kept (fun k => k = a) w1 (w1.setRow a (Lib.byteCells s.data.toList ++ cur.toList.drop s.size).toArray) := ⟨rfl, rfl, rfl, by simp, fun k _ hn => setRow_other _ _ _ _ hn⟩
  have e0 : (0 : Nat) + s.size = s.size := by omega
  rw [e0] at hC
  refine ⟨rfl, ?_, ?_⟩
  · try simp only [List.take_zero, List.nil_append, Nat.zero_add]
    exact ⟨by rw [hbl]; exact hC.kept hKs (fun e => hW.ne e.symm), hW.ne, hB2⟩
  · try simp only [List.take_zero, List.nil_append, Nat.zero_add]
    exact (hK.mono (q := fun k => k = b ∨ k = a) (fun _ _ h => Or.inl h)).trans hKs (fun _ _ h => Or.inr h)

end Go.Proofs.Ytobfaielocicpab

/-
  IHEAD: the program's HeadBlock. Own work.
-/
namespace Go.Proofs.Ytobfaielocicpab
open Go.RowKit

def headBB (ok : Bool) (gen len sum : Int) : List Nat := if headOkB ok gen len = true then headB gen len sum else []
theorem headBB_len (ok : Bool) (gen len sum : Int) : (headBB ok gen len sum).length ≤ 64 := by
  unfold headBB
  split
  · rw [headB_length]; omega
  · exact Nat.zero_le _

/-- bytes that are handed back, zero or more, at the head of memory of their own -/
def HPost (ys : List Nat) (w : World) (e : Ending) (w' : World) : Prop := ∃ oa c, e = .returned (.slice oa ys.length c) ∧ MB w' w.heap.size oa ys ∧ Below w.heap.size w w'

set_option maxRecDepth 100000 in
theorem zwr_new (w : World) (M : Array Value) (hM : M = madeCells #[Value.int .u8 0] 64) : ZWr ((w.alloc (.cells M 5)).alloc (.cells #[.slice (some ⟨w.heap.size, 0, none⟩) 64 64, .int .i64 0] 100)) (w.heap.size + 1) w.heap.size [] := by
  subst hM
  have h1 := rowIs_made_any w #[Value.int .u8 0] 64 5
  have e : (fun i => (#[Value.int .u8 0])[i % (#[Value.int .u8 0]).size]!) = (fun i : Nat => Value.int .u8 ((([] : List Nat)[i]! : Nat) : Int)) := by
    funext i
    have : i % (#[Value.int .u8 0]).size = 0 := by simp [Nat.mod_one]
    rw [this, getElem!_neg ([] : List Nat) i (by simp)]
    rfl
  rw [e] at h1
  refine ⟨⟨by simp, by simp, by simp, fun o => by simp⟩, by omega, ⟨by simp, ?_⟩⟩
  obtain ⟨c, hc, r⟩ := h1
  exact ⟨c, by rw [Below.heap_alloc _ _ _ (by simp)]; exact hc, r⟩

theorem app_zero (zs : List Nat) (n i : Nat) : (zs ++ List.replicate n 0)[i]! = zs[i]! := by
  by_cases h : i < zs.length
  · rw [getElem!_pos _ i (by simp; omega), getElem!_pos zs i h, List.getElem_append_left h]
  · rw [getElem!_neg zs i h]
    by_cases h2 : i < (zs ++ List.replicate n 0).length
    · rw [getElem!_pos _ i h2, List.getElem_append_right (by omega)]
      simp
    · rw [getElem!_neg _ i h2]
theorem ZRow.full {w : World} {a : Nat} {zs : List Nat} (h : ZRow w a 64 zs) {n : Nat} (hn : zs.length + n = 64) : BRow w a 64 (zs ++ List.replicate n 0) :=
  BRow.of_row h.2 (by simp; omega) (fun i _ => by rw [app_zero])
theorem headN_byte (gen len sum : Int) : ∀ x, x ∈ headN gen len sum → x < 256 := fun x hx => by
  unfold headN at hx
  rcases List.mem_append.1 hx with hx | hx
  · rcases List.mem_append.1 hx with hx | hx
    · rcases List.mem_append.1 hx with hx | hx
      · simp at hx; omega
      · exact lowB_byte _ _ _ hx
    · exact lowB_byte _ _ _ hx
  · exact lowB_byte _ _ _ hx
theorem u64n_wrapH {n : Nat} (h : n < 18446744073709551616) : u64n (wrap64 (n : Int)) = n := by unfold u64n wrap64; omega
theorem bsOf_head : bsOf ⟨#[72, 69, 65, 68]⟩ = [72, 69, 65, 68] := by decide

set_option maxHeartbeats 1000000 in
set_option maxRecDepth 100000 in
theorem implHeadBlock_any (ok : Bool) (gen len sum : Int) (w : World) :
    Calls Try.prog 55 #[headV ok gen len sum] w (HPost (headBB ok gen len sum) w) := by
  by_cases hk : headOkB ok gen len = true
  · have hz : Hid (headBB ok gen len sum = headB gen len sum) := if_pos hk
    obtain ⟨rfl, g1, g2, g3, g4⟩ : ok = true ∧ ¬ gen < 1 ∧ ¬ (1000000000000 < gen) ∧ ¬ len < 1 ∧ ¬ (4096 < len) := by
      unfold headOkB at hk
      simp at hk
      exact ⟨hk.1.1.1.1, by omega, by omega, by omega, by omega⟩
    have hH0 := HBox.new w true gen len sum 74
    have hA := gal (gre w) (.cells #[.bool true, .int .i64 gen, .int .i64 len, .int .i64 sum] 74)
    obtain ⟨i0, hi, hz0, hz1, hz2⟩ := info_parts info_u8
    obtain ⟨M, hM⟩ := hid_ex (madeCells #[Value.int .u8 0] 64)
    have hmk : ∀ u : World, (Instr.makeSlice 28 (.int .i64 64) (.int .i64 64)).run Try.prog u = .ok (.slice (some ⟨u.heap.size, 0, none⟩) 64 64) (u.alloc (.cells M 5)) := fun u => by
      have h := run_make (P := Try.prog) u 28 5 i0 _ Try.underlying28 hi hz0 .i64 .i64 64 64 (by omega) (Int.le_refl _) (by rw [hz2]; omega) (by omega)
      rw [hM.out]
      simpa [hz1, Value.cells] using h
    have hgw : wrap64 gen = gen := by unfold wrap64; omega
    have hlw : wrap64 len = len := by unfold wrap64; omega
    have hlow : ∀ n, (lowB 8 n).length = 8 := lowB_length 8
    go_enter Try.func55, Try.ntmps55
    have hW0 := zwr_new (w.alloc (.cells #[.bool true, .int .i64 gen, .int .i64 len, .int .i64 sum] 74)) M hM.out
    have hH1 := (hH0.kept (Kept.of_below (gal (gal (gre _) (.cells M 5)) (.cells #[.slice (some ⟨(w.alloc (.cells #[.bool true, .int .i64 gen, .int .i64 len, .int .i64 sum] 74)).heap.size, 0, none⟩) 64 64, .int .i64 0] 100)) (fun _ => False)) (fun e => e))
    have hA3 := gal (gal hA (.cells M 5)) (.cells #[.slice (some ⟨(w.alloc (.cells #[.bool true, .int .i64 gen, .int .i64 len, .int .i64 sum] 74)).heap.size, 0, none⟩) 64 64, .int .i64 0] 100)
    simp only [World.size_alloc] at hW0 hH1 hA3
    go_upto_region 99 with (first
      | (go_at_call 118; refine (zWriteText _ _ _ _ hW0 (by decide) (by decide)).mono ?_; rintro e w1 ⟨rfl, hW1, hK1⟩; rw [bsOf_head] at hW1; have hH2 := hH1.kept hK1 (by omega); obtain ⟨_, _, b1, b2, b3⟩ := id hH2)
      | (go_at_call 77; refine (zWriteWord _ _ z5 _ _ hW6 (by have := hl4.out; omega)).mono ?_; rintro e w7 ⟨rfl, hW7, hK7⟩; have c7 := hW7.cur.c0)
      | (go_at_call 78; refine (implSumOf_any _ z5 64 _ (brow_bytes hW5.row.brow) (by have := hl4.out; unfold maxLen; omega) hb5).mono ?_; rintro e w6 ⟨rfl, hb6'⟩; have hW6 := hW5.grow hb6')
      | (go_at_call 79; refine (passed_any _ _ 64 64 z5.length _ hW4.cur (by omega) (by decide) (by have := hl4.out; omega)).mono ?_; rintro e w5 ⟨rfl, hb5'⟩; have hW5 := hW4.grow hb5')
      | (go_at_call 77; refine (zWriteWord _ _ z3 sum _ hW3 (by have := hl3.out; omega)).mono ?_; rintro e w4 ⟨rfl, hW4, hK4⟩; obtain ⟨z5, hz5⟩ := hid_ex (z3 ++ lowB 8 (u64n sum)); rw [← hz5.out] at hW4; have hl4 : Hid (z5.length = 28) := (by show _ = _; rw [hz5.out, List.length_append, hl3.out, hlow]); have hzn : Hid (z5 = headN gen len sum) := (by show _ = _; rw [hz5.out, hz3.out, hz2.out]; rfl); have hb5 : ∀ x, x ∈ z5 → x < 256 := (by rw [hzn.out]; exact headN_byte gen len sum))
      | (go_at_call 77; refine (zWriteWord _ _ z2 len _ hW2 (by have := hl2.out; omega)).mono ?_; rintro e w3 ⟨rfl, hW3, hK3⟩; obtain ⟨z3, hz3⟩ := hid_ex (z2 ++ lowB 8 (u64n len)); rw [← hz3.out] at hW3; have hl3 : Hid (z3.length = 20) := (by show _ = _; rw [hz3.out, List.length_append, hl2.out, hlow]); have hH4 := hH3.kept hK3 (by omega); obtain ⟨_, _, e1, e2, e3⟩ := id hH4)
      | (go_at_call 77; refine (zWriteWord _ _ _ gen _ hW1 (by simp)).mono ?_; rintro e w2 ⟨rfl, hW2, hK2⟩; obtain ⟨z2, hz2⟩ := hid_ex ([72, 69, 65, 68] ++ lowB 8 (u64n gen)); rw [← hz2.out] at hW2; have hl2 : Hid (z2.length = 12) := (by show _ = _; rw [hz2.out, List.length_append, hlow]; rfl); have hH3 := hH2.kept hK2 (by omega); obtain ⟨_, _, d1, d2, d3⟩ := id hH3))
    go_ret
    have hB1 := hA3.trans (hK1.below (B := w.heap.size) hA3.size (fun k hk e => by omega))
    have hB2 := hB1.trans (hK2.below (B := w.heap.size) hB1.size (fun k hk e => by omega))
    have hB3 := hB2.trans (hK3.below (B := w.heap.size) hB2.size (fun k hk e => by omega))
    have hB4 := hB3.trans (hK4.below (B := w.heap.size) hB3.size (fun k hk e => by omega))
    have hB6 := gca (gca hB4 hb5') hb6'
    have hB7 := hB6.trans (hK7.below (B := w.heap.size) hB6.size (fun k hk e => by omega))
    refine ⟨some ⟨w.heap.size + 1, 0, none⟩, 64, by rw [hz.out, headB_length]; rfl, Or.inr ⟨w.heap.size + 1, 64, rfl, by omega, ?_⟩, hB7⟩
    have hr := hW7.row.full (n := 28) (by rw [List.length_append, hlow, hl4.out])
    rw [u64n_wrapH (sumN_lt z5), hzn.out] at hr
    rw [hz.out]
    exact hr
  · have hz : headBB ok gen len sum = [] := if_neg hk
    rw [hz]
    have hA := gal (gre w) (.cells #[.bool ok, .int .i64 gen, .int .i64 len, .int .i64 sum] 74)
    have hc : ok = false ∨ (ok = true ∧ gen < 1) ∨ (ok = true ∧ ¬ gen < 1 ∧ 1000000000000 < gen) ∨ (ok = true ∧ ¬ gen < 1 ∧ ¬ (1000000000000 < gen) ∧ len < 1) ∨ (ok = true ∧ ¬ gen < 1 ∧ ¬ (1000000000000 < gen) ∧ ¬ len < 1 ∧ 4096 < len) := by
      unfold headOkB at hk
      cases ok
      · exact Or.inl rfl
      · simp at hk
        by_cases h1 : gen < 1
        · exact Or.inr (Or.inl ⟨rfl, h1⟩)
        · by_cases h2 : 1000000000000 < gen
          · exact Or.inr (Or.inr (Or.inl ⟨rfl, h1, h2⟩))
          · by_cases h3 : len < 1
            · exact Or.inr (Or.inr (Or.inr (Or.inl ⟨rfl, h1, h2, h3⟩)))
            · exact Or.inr (Or.inr (Or.inr (Or.inr ⟨rfl, h1, h2, h3, by have := hk (by omega) (by omega) (by omega); omega⟩)))
    clear hk hz
    rcases hc with rfl | ⟨rfl, g1⟩ | ⟨rfl, g1, g2⟩ | ⟨rfl, g1, g2, g3⟩ | ⟨rfl, g1, g2, g3, g4⟩
    all_goals
      go_enter Try.func55, Try.ntmps55
      go_wp2
      go_ret
      exact ⟨none, 0, rfl, Or.inl rfl, hA⟩

end Go.Proofs.Ytobfaielocicpab

/-
  L4C: the specification's HeadBlock. Own work.
-/
namespace Go.Proofs.Ytobfaielocicpab
open Go.RowKit

set_option maxRecDepth 100000 in
theorem specHeadBlock_any (ok : Bool) (gen len sum : Int) (w : World) :
    Calls Try.prog 53 #[headV ok gen len sum] w fun e w' => ∃ oa c, e = .returned (.slice oa (headBB ok gen len sum).length c) ∧ BytesAt w' oa (headBB ok gen len sum) ∧ Below w.heap.size w w' := by
  have hA := gal (gre w) (.cells #[.bool ok, .int .i64 gen, .int .i64 len, .int .i64 sum] 74)
  have hH0 := HBox.new w ok gen len sum 74
  cases hk : headOkB ok gen len with
  | false =>
    have hk' : Hid _ := hk
    have hz : headBB ok gen len sum = [] := if_neg (by rw [hk]; simp)
    rw [hz]
    clear hk hz
    go_enter Try.func53, Try.ntmps53
    go_wp2_with (go_at_call 116; refine (l4headok_any ok gen len sum _).mono ?_; rintro e w1 ⟨rfl, hb1⟩; rw [hk'.out])
    go_ret
    exact ⟨none, 0, rfl, fun i hi => absurd hi (Nat.not_lt_zero _), gca hA hb1⟩
  | true =>
    have hk' : Hid _ := hk
    have hz : headBB ok gen len sum = headB gen len sum := if_pos hk
    rw [hz]
    clear hk hz
    go_enter Try.func53, Try.ntmps53
    go_wp2_with (first
      | (go_at_call 116; refine (l4headok_any ok gen len sum _).mono ?_; rintro e w1 ⟨rfl, hb1⟩; rw [hk'.out]; obtain ⟨_, c0, c1, c2, c3⟩ := hH0.kept (Kept.of_below hb1 (fun _ => False)) (fun e => e))
      | (go_at_call 117; refine (l4block_any ok gen len sum _).mono ?_; rintro e w2 ⟨oa, c, rfl, hO, hb2⟩))
    go_ret
    exact ⟨oa, c, rfl, owns_atH hO, gca (gca hA hb1) hb2⟩

end Go.Proofs.Ytobfaielocicpab

/-
  BYTESA: the laws' bytes. Own work.
-/
namespace Go.Proofs.Ytobfaielocicpab
open Go.RowKit

set_option maxRecDepth 100000 in
theorem toByteS_any (a : Option Addr) (bs : List Nat) (cap : Nat) (w : World) (hl : bs.length ≤ 1048576) (ha : BytesAt w a bs) :
    Calls Try.prog 25 #[.slice a bs.length cap] w fun e w' => ∃ b, e = .returned (.slice (some ⟨b, 0, none⟩) bs.length bs.length) ∧ w.heap.size ≤ b ∧ BRow w' b bs.length bs ∧ Below w.heap.size w w' := by
  obtain ⟨i0, hi, hz0, hz1, hz2⟩ := info_parts info_u8
  have hmk : ∀ u : World, (Instr.makeSlice 28 (.int .i64 (bs.length : Int)) (.int .i64 (bs.length : Int))).run Try.prog u =
      .ok (.slice (some ⟨u.heap.size, 0, none⟩) bs.length bs.length) (u.alloc (.cells (madeCells #[.int .u8 0] bs.length) 5)) := fun u => by
    have h := run_make (P := Try.prog) u 28 5 i0 _ Try.underlying28 hi hz0 .i64 .i64 (bs.length : Int) (bs.length : Int) (by omega) (Int.le_refl _) (by rw [hz2]; omega) (by omega)
    simpa [hz1, Value.cells] using h
  go_enter Try.func25, Try.ntmps25
  go_wp2
  go_loopw [4] (fun i wr => ∃ (k : Nat) (f : Nat → Value), k ≤ bs.length ∧ i = .int .i64 k ∧ wr.rowIs w.heap.size 5 bs.length f ∧ (∀ j, j < k → f j = .int .u8 ((bs[j]! : Nat) : Int)) ∧ Below w.heap.size w wr) (fun i _ => bs.length - (intOf i).toNat)
  case atStart => exact ⟨0, _, Nat.zero_le _, rfl, rowIs_made_any _ _ _ _, fun i hi => absurd hi (Nat.not_lt_zero _), (Below.refl _ _).alloc (Nat.le_refl _) _⟩
  case round =>
    obtain ⟨k, f, hk, rfl, hrow, hin, hb⟩ := hrel
    by_cases hlt : k < bs.length
    · obtain ⟨x, b, off, hxk, hxm, rfl, hc⟩ := (ha.grow hb).get hlt
      have d0 := hrow.cell hlt
      have f0 := hrow.frozen
      go_wp2
      go_roundw
      case rel =>
        refine ⟨k + 1, _, by omega, by go_num, hrow.set _ _, fun j hj => ?_, hb.setCell (Nat.le_refl _) _⟩
        show (if j = k then _ else _) = _
        split
        · rename_i e; rw [e, ← hxk.out]
        · exact hin j (by omega)
      case measure => simp [intOf]; omega
    · go_wp2
      go_ret
      have e : k = bs.length := by omega
      subst e
      exact ⟨_, rfl, Nat.le_refl _, BRow.of_row hrow (Nat.le_refl _) hin, hb⟩

set_option maxRecDepth 100000 in
theorem eqByteS_same (a a' : Option Addr) (bs : List Nat) (cap cap' : Nat) (w : World) (hl : bs.length ≤ maxLen) (ha : BytesAt w a bs) (ha' : BytesAt w a' bs) :
    Calls Try.prog 19 #[.slice a bs.length cap, .slice a' bs.length cap'] w fun e w' => e = .returned (.bool true) ∧ Below w.heap.size w w' := by
  unfold maxLen at hl
  have hne : ((bs.length : Int) != (bs.length : Int)) = false := by simp
  go_enter Try.func19, Try.ntmps19
  go_wp2
  go_loopw [5] (fun i wr => ∃ (k : Nat), k ≤ bs.length ∧ i = .int .i64 k ∧ Below w.heap.size w wr) (fun i _ => bs.length - (intOf i).toNat)
  case atStart => exact ⟨0, Nat.zero_le _, rfl, gre _⟩
  case round =>
    obtain ⟨k, hk, rfl, hb⟩ := hrel
    by_cases hlt : k < bs.length
    · obtain ⟨x, b, off, hxk, hxm, rfl, hc⟩ := (ha.grow hb).get hlt
      obtain ⟨y, b', off', hyk, hym, rfl, hc'⟩ := (ha'.grow hb).get hlt
      obtain rfl : y = x := by rw [hyk.out, hxk.out]
      have hn2 : ((y : Int) != (y : Int)) = false := by simp
      go_wp2_with (go_quiet (fail))
      go_roundw
      case rel => exact ⟨k + 1, by omega, by go_num, hb.trans ⟨rfl, rfl, rfl, Nat.le_refl _, fun _ _ => rfl⟩⟩
      case measure => simp [intOf]; omega
    · go_wp2
      go_ret
      exact ⟨rfl, hb⟩

end Go.Proofs.Ytobfaielocicpab

/-
  BYTES: the laws' bytes, marked. Own work.
-/
namespace Go.Proofs.Ytobfaielocicpab
open Go.RowKit

def marksB (k n : Nat) : List Nat := (List.range n).map fun j => (k + j) % 256
set_option maxRecDepth 100000 in
theorem marksB_length (k n : Nat) : (marksB k n).length = n := by simp [marksB]
theorem marksB_get {k n i : Nat} (h : i < n) : (marksB k n)[i]! = (k + i) % 256 := by
  rw [getElem!_pos _ i (by rw [marksB_length]; exact h)]
  simp [marksB]

set_option maxRecDepth 100000 in
theorem markByteS_any (oa : Option Addr) (bs : List Nat) (cap k lo : Nat) (w : World) (hl : bs.length ≤ 1048576) (hk : k ≤ 1099511627776) (hM : MB w lo oa bs) :
    Calls Try.prog 22 #[.slice oa bs.length cap, .int .i64 k] w fun e w' => e = .returned (.int .i64 ((k + bs.length : Nat) : Int)) ∧ MB w' lo oa (marksB k bs.length) ∧ Kept (fun b => lo ≤ b ∧ oa = some ⟨b, 0, none⟩) w w' := by
  rcases hM with rfl | ⟨G, n, rfl, hG, hB⟩
  · go_enter Try.func22, Try.ntmps22
    go_wp2
    go_loopw [1, 5] (fun c i wr => c = .int .i64 k ∧ i = .int .i64 0 ∧ wr = w) (fun _ _ _ => 0)
    case atStart => exact ⟨rfl, rfl, rfl⟩
    case round =>
      obtain ⟨rfl, rfl, rfl⟩ := hrel
      go_wp2
      go_ret
      exact ⟨rfl, Or.inl rfl, Kept.refl _ _⟩
  · obtain ⟨f0, hr0, _⟩ := hB.row
    have hln : bs.length ≤ n := by obtain ⟨c, _, _, hl, _⟩ := hB; exact hl
    go_enter Try.func22, Try.ntmps22
    go_wp2
    go_loopw [1, 5] (fun c i wr => ∃ (m : Nat) (f : Nat → Value), m ≤ bs.length ∧ c = .int .i64 ((k + m : Nat) : Int) ∧ i = .int .i64 m ∧ wr.rowIs G 5 n f ∧ (∀ j, j < m → f j = .int .u8 (((k + j) % 256 : Nat) : Int)) ∧ Kept (fun b => b = G) w wr) (fun _ i _ => bs.length - (intOf i).toNat)
    case atStart => exact ⟨0, f0, Nat.zero_le _, rfl, rfl, hr0, fun j hj => absurd hj (Nat.not_lt_zero _), Kept.refl _ _⟩
    case round =>
      obtain ⟨m, f, hm, rfl, rfl, hrow, hin, hK⟩ := hrel
      obtain ⟨q, hq⟩ := hid_ex (k + m)
      rw [← hq.out]
      have hq1 : q ≤ 2199023255552 := by rw [hq.out]; omega
      by_cases hlt : m < bs.length
      · have d0 := hrow.cell (i := m) (by omega)
        have fz := hrow.frozen
        obtain ⟨x, hx⟩ := hid_ex (q % 256)
        have e2 : IntKind.u8.wrap (q : Int) = (x : Int) := by rw [hx.out, IntKind.wrap_u8']; omega
        go_wp2
        go_roundw
        case rel =>
          refine ⟨m + 1, _, by omega, ?_, by go_num, hrow.set _ _, fun j hj => ?_, hK.set (fun _ => rfl) _⟩
          · have : q + 1 = k + (m + 1) := by rw [hq.out]; omega
            rw [← this]; go_num
          · show (if j = m then _ else _) = _
            split
            · rename_i e; rw [e, hx.out, hq.out]
            · exact hin j (by omega)
        case measure => simp [intOf]; omega
      · obtain rfl : m = bs.length := by omega
        go_wp2
        go_ret
        refine ⟨by rw [← hq.out]; rfl, Or.inr ⟨G, n, rfl, hG, BRow.of_row hrow (by rw [marksB_length]; exact hln) (fun i hi => ?_)⟩, hK.mono (fun b _ e => by subst e; exact ⟨hG, rfl⟩)⟩
        rw [marksB_length] at hi
        rw [marksB_get hi]; exact hin i hi

set_option maxRecDepth 100000 in
theorem heldByteS_any (oa : Option Addr) (n cap k : Nat) (w : World) (hl : n ≤ 1048576) (hk : k ≤ 1099511627776) (hM : BytesAt w oa (marksB k n)) :
    Calls Try.prog 23 #[.slice oa n cap, .int .i64 k] w fun e w' => e = .returned (.int .i64 ((k + n : Nat) : Int)) ∧ Below w.heap.size w w' := by
  go_enter Try.func23, Try.ntmps23
  go_wp2
  go_loopw [1, 5] (fun c i wr => ∃ (m : Nat), m ≤ n ∧ c = .int .i64 ((k + m : Nat) : Int) ∧ i = .int .i64 m ∧ Below w.heap.size w wr) (fun _ i _ => n - (intOf i).toNat)
  case atStart => exact ⟨0, Nat.zero_le _, rfl, rfl, gre _⟩
  case round =>
    obtain ⟨m, hm, rfl, rfl, hb⟩ := hrel
    obtain ⟨q, hq⟩ := hid_ex (k + m)
    rw [← hq.out]
    have hq1 : q ≤ 2199023255552 := by rw [hq.out]; omega
    by_cases hlt : m < n
    · obtain ⟨x, b, off, hxk, hxm, rfl, hc⟩ := (hM.grow hb).get (k := m) (by rw [marksB_length]; exact hlt)
      have hx2 : Hid (x = q % 256) := by show _ = _; rw [hxk.out, marksB_get hlt, hq.out]
      have e2 : IntKind.u8.wrap (q : Int) = (x : Int) := by rw [hx2.out, IntKind.wrap_u8']; omega
      have hn2 : ((x : Int) != (x : Int)) = false := by simp
      go_wp2
      go_roundw
      case rel =>
        refine ⟨m + 1, by omega, ?_, by go_num, hb⟩
        have : q + 1 = k + (m + 1) := by rw [hq.out]; omega
        rw [← this]; go_num
      case measure => simp [intOf]; omega
    · obtain rfl : m = n := by omega
      go_wp2
      go_ret
      exact ⟨by rw [← hq.out]; rfl, hb⟩

end Go.Proofs.Ytobfaielocicpab

/-
  LAW: FnExactHeadBlock, walked. Own work.
-/
namespace Go.Proofs.Ytobfaielocicpab
open Go.RowKit

/-- bytes at a place, below a bound -/
def BytesLo (B : Nat) (w : World) (a : Option Addr) (bs : List Nat) : Prop := ∀ i, i < bs.length → ∃ b off, a = some ⟨b, off, none⟩ ∧ b < B ∧ w.cell? ⟨b, off + i, none⟩ = some (.int .u8 ((bs[i]! : Nat) : Int))
theorem BytesLo.below {B : Nat} {w w' : World} {a : Option Addr} {bs : List Nat} (h : BytesLo B w a bs) (hb : Below B w w') : BytesLo B w' a bs := fun i hi => by
  obtain ⟨b, off, ha, hB, hc⟩ := h i hi
  exact ⟨b, off, ha, hB, (World.cell?_of_block (w := w) (hb.block b hB)).trans hc⟩
theorem BytesLo.at_ {B : Nat} {w : World} {a : Option Addr} {bs : List Nat} (h : BytesLo B w a bs) : BytesAt w a bs := fun i hi => by
  obtain ⟨b, off, ha, _, hc⟩ := h i hi
  exact ⟨b, off, ha, hc⟩
theorem BytesAt.lo {w : World} {a : Option Addr} {bs : List Nat} (h : BytesAt w a bs) : BytesLo w.heap.size w a bs := fun i hi => by
  obtain ⟨b, off, ha, hc⟩ := h i hi
  exact ⟨b, off, ha, World.block_lt_of_cell? _ _ hc, hc⟩
theorem MB.atH {w : World} {lo : Nat} {oa : Option Addr} {ys : List Nat} (h : MB w lo oa ys) : BytesAt w oa ys := by
  rcases h with rfl | ⟨G, n, rfl, _, hB⟩
  · exact fun i hi => absurd hi (Nat.not_lt_zero _)
  · exact brow_bytes hB
theorem MB.keptH {p : Nat → Prop} {w w' : World} {lo : Nat} {oa : Option Addr} {ys : List Nat} (h : MB w lo oa ys) (k : Kept p w w') (hp : ∀ b, lo ≤ b → b < w.heap.size → ¬ p b) : MB w' lo oa ys := by
  rcases h with rfl | ⟨G, n, rfl, hG, hB⟩
  · exact Or.inl rfl
  · exact Or.inr ⟨G, n, rfl, hG, hB.kept k (hp G hG hB.lt)⟩
theorem MB.growH {w w' : World} {lo : Nat} {oa : Option Addr} {ys : List Nat} (h : MB w lo oa ys) (k : Below w.heap.size w w') : MB w' lo oa ys := h.keptH (Kept.of_below k (fun _ => False)) (fun _ _ _ e => e)

set_option maxRecDepth 100000 in
theorem toHead_any (ok : Bool) (gen len sum : Int) (w : World) :
    Calls Try.prog 54 #[headV ok gen len sum] w fun e w' => e = .returned (headV ok gen len sum) ∧ Below w.heap.size w w' := by
  go_enter Try.func54, Try.ntmps54
  go_wp2
  exact bodyPost_ret (v := headV ok gen len sum) (by simp [results, Try.results54, go_sem]) rfl ⟨rfl, gal (gal (gal (gre _) _) _) _⟩

set_option maxHeartbeats 1000000 in
set_option maxRecDepth 100000 in
theorem lawHeadBlock (ok : Bool) (gen len sum : Int) (w : World) :
    Calls Try.prog 12 #[headV ok gen len sum] w fun e w' => e = .returned (.bool true) ∧ Below w.heap.size w w' := by
  obtain ⟨p, hp⟩ := hid_ex (headBB ok gen len sum)
  have hpl : p.length ≤ 64 := by rw [hp.out]; exact headBB_len ok gen len sum
  obtain ⟨m1, hm1'⟩ := hid_ex (1 + p.length)
  have hd3 : ¬ ((m1 : Int) < 0) := by omega
  have hd4 : ((m1 : Int) != (m1 : Int)) = false := by simp
  have hA := gal (gre w) (.cells #[.bool ok, .int .i64 gen, .int .i64 len, .int .i64 sum] 77)
  have hH0 := HBox.new w ok gen len sum 77
  go_enter Try.func12, Try.ntmps12
  obtain ⟨_, q0, q1, q2, q3⟩ := id hH0
  go_wp2_with (first
    | (go_at_call 23; rw [show (1 : Int) = ((1 : Nat) : Int) by rfl]; refine (heldByteS_any oa4 p.length c4 1 _ (by omega) (by omega) hM10.atH).mono ?_; rintro e w11 ⟨rfl, hb11⟩; rw [← hm1'.out])
    | (go_at_call 19; refine (eqByteS_same _ _ p _ _ _ (by unfold maxLen; omega) hM9.atH (hP2.below hL9).at_).mono ?_; rintro e w10 ⟨rfl, hb10⟩; have hM10 := hM7.growH (gca (gca hb8 hb9) hb10))
    | (go_at_call 55; refine (implHeadBlock_any ok gen len sum _).mono ?_; rw [← hp.out]; rintro e w9 ⟨oa9, c9, rfl, hM9, hb9⟩; have hL9 := gca (gca hL7 hb8) hb9)
    | (go_at_call 54; refine (toHead_any ok gen len sum w7).mono ?_; rintro e w8 ⟨rfl, hb8⟩)
    | (go_at_call 23; rw [show (1 : Int) = ((1 : Nat) : Int) by rfl]; refine (heldByteS_any oa4 p.length c4 1 _ (by omega) (by omega) hM6.atH).mono ?_; rintro e w7 ⟨rfl, hb7⟩; rw [← hm1'.out]; have hL7 := gca hL6 hb7; have hM7 := hM6.growH hb7; obtain ⟨_, u0, u1, u2, u3⟩ := hH6.kept (Kept.of_below hb7 (fun _ => False)) (fun e => e))
    | (go_at_call 22; rw [show (1 : Int) = ((1 : Nat) : Int) by rfl]; refine (markByteS_any oa4 p c4 1 w3.heap.size _ (by omega) (by omega) hM5).mono ?_; rintro e w6 ⟨rfl, hM6, hK6⟩; rw [← hm1'.out]; have hL6 := hL5.trans (hK6.below (B := w2.heap.size) hL5.size (fun k hk hp => by have := hb3.size; omega)); have hH6 := hH5.kept hK6 (fun hp => by have := hb3.size; have := hb2.size; have := hb1.size; have := hH0.lt; omega))
    | (go_at_call 19; refine (eqByteS_same _ _ p _ _ _ (by unfold maxLen; omega) hM4.atH (hP2.below hL4).at_).mono ?_; rintro e w5 ⟨rfl, hb5⟩; have hM5 := hM4.growH hb5; have hL5 := gca hL4 hb5; have hH5 := hH2.kept (Kept.of_below (gca (gca hb3 hb4) hb5) (fun _ => False)) (fun e => e))
    | (go_at_call 55; refine (implHeadBlock_any ok gen len sum w3).mono ?_; rw [← hp.out]; rintro e w4 ⟨oa4, c4, rfl, hM4, hb4⟩; have hL4 := gca hb3 hb4)
    | (go_at_call 54; refine (toHead_any ok gen len sum w2).mono ?_; rintro e w3 ⟨rfl, hb3⟩)
    | (go_at_call 53; refine (specHeadBlock_any ok gen len sum w1).mono ?_; rw [← hp.out]; rintro e w2 ⟨oa2, c2, rfl, hP, hb2⟩; have hP2 := hP.lo; have hH2 := hH0.kept (Kept.of_below (gca hb1 hb2) (fun _ => False)) (fun e => e); obtain ⟨_, t0, t1, t2, t3⟩ := id hH2)
    | (go_at_call 54; refine (toHead_any ok gen len sum _).mono ?_; rintro e w1 ⟨rfl, hb1⟩))
  go_ret
  exact ⟨rfl, gca hA (gca (gca hb1 hb2) (gca (gca hL9 hb10) hb11))⟩

end Go.Proofs.Ytobfaielocicpab

/-
  OPENH: what heads that come in read as. Own work.
-/
namespace Go.Proofs.Ytobfaielocicpab
open Go.RowKit Go.ChangeShapes Go.WideShapes Go.Deep

set_option maxRecDepth 100000 in
theorem hcellsInt : Try.prog.cellsOf 3 = 1 := by kernel_rfl
theorem hcellsI64 : Try.prog.cellsOf 2 = 1 := by kernel_rfl
theorem hcellsBool : Try.prog.cellsOf 4 = 1 := by kernel_rfl
theorem hcellsHead : Try.prog.cellsOf 77 = 4 := by kernel_rfl

theorem hi64_of_wf {n : Int} (h : (Lit.int .i64 n).wf = true) : I64 n := by
  have h := bounds_i64 h
  unfold I64
  omega

section
variable {H : Type} {enc : TypeId × Value → H} {w : World} {base : Nat} {spare : Nat → Bool} {held : Bool}

set_option maxRecDepth 100000 in
theorem openHead {v : Value} {d : DataW H} {ps : List MemPlace} {r : Reach} {bs : Nat} (hv : Value.okWide Try.prog w r bs 77 v) (h : DataW.Trod enc Try.prog w base spare held 77 v d ps) :
    ∃ (ok : Bool) (gen len sum : Int), v = headV ok gen len sum ∧ I64 gen ∧ I64 len ∧ I64 sum := by
  unfold Value.okWide at hv
  rw [Try.underlying77] at hv
  obtain ⟨cs, rfl, hsz, _⟩ := hv
  obtain ⟨fuel, h⟩ := h
  obtain ⟨xs, n, _, _, hl, hlen, hf⟩ := DataW.trod_struct Try.underlying77 h
  rw [hcellsHead] at hsz
  obtain ⟨l⟩ := cs
  match xs, hlen, l, hsz with
  | [y0, y1, y2, y3], _, [c0, c1, c2, c3], _ =>
    have h0 := hf 0 _ rfl
    have h1 := hf 1 _ rfl
    have h2 := hf 2 _ rfl
    have h3 := hf 3 _ rfl
    simp [hcellsInt, hcellsI64, hcellsBool, Value.cells] at h0 h1 h2 h3
    obtain ⟨ok, e0, rfl⟩ := DataW.trod_bool Try.underlying4 h0
    obtain ⟨k1, e1, rfl, w1⟩ := DataW.trod_int Try.underlying3 h1
    obtain ⟨k2, e2, rfl, w2⟩ := DataW.trod_int Try.underlying3 h2
    obtain ⟨k3, e3, rfl, w3⟩ := DataW.trod_int Try.underlying2 h3
    simp at e0 e1 e2 e3
    subst e0 e1 e2 e3
    exact ⟨ok, k1, k2, k3, rfl, hi64_of_wf w1, hi64_of_wf w2, hi64_of_wf w3⟩

end
end Go.Proofs.Ytobfaielocicpab
