import Derived.Laws.BitsAllLaws
import Derived.Laws.OwnMore
import Derived.Deep.Cut
import Derived.Laws.BytesArg
import Derived.WalkLawsBesides
import Derived.Deep.QuietTactic
import Derived.Test.YthjddpkegooobabPartNwD

/-
  OB2: the specification's values as bytes. Own work.
-/
namespace Go.Proofs.Ythjddpkegooobab
open Go.RowKit

set_option maxRecDepth 100000 in
theorem l2eight_any (base : Nat) (oa : Option Addr) (len cap : Nat) (xs : List Nat) (n : Nat) (z : Int) (w : World) (hlen : len = xs.length) (hz : z = (n : Int)) (hn : n < 18446744073709551616) (hbase : base ≤ w.heap.size) (hl : xs.length ≤ 1099511627776)
    (hO : w.ownsRow base 5 1 (.slice oa xs.length cap) xs.length (bcells xs)) :
    Calls Try.prog 130 #[.slice oa len cap, .int .u64 z] w (APost base oa xs (lowB 8 n) w) := by
  subst hz hlen
  obtain ⟨i0, hi, hz0, hz1, hz2⟩ := info_parts info_u8
  go_enter Try.func130, Try.ntmps130
  go_wp2
  go_loopw [0, 1, 5] (fun o i c ws => ∃ (k m : Nat) (zs : List Nat) (oa1 : Option Addr) (cap1 : Nat), o = .slice oa1 zs.length cap1 ∧ i = .int .u64 m ∧ c = .int .i64 k ∧ k ≤ 8 ∧ Hid (zs = xs ++ lowB k n) ∧ Hid (m = n / 256 ^ k) ∧ zs.length ≤ xs.length + k ∧ m < 18446744073709551616 ∧ Ob w base oa ws oa1 cap1 zs) (fun _ _ c _ => 8 - (intOf c).toNat)
  case atStart => exact ⟨0, n, xs, oa, cap, rfl, rfl, rfl, by omega, (List.append_nil _).symm, by show _ = _; simp, Nat.le_refl _, hn, Ob.start hO⟩
  case round =>
    obtain ⟨k, m, zs, oa1, cap1, rfl, rfl, rfl, hk, hzs, hm, hzl, hm64, hOb⟩ := hrel
    have hsz := hOb.kept.size
    by_cases hlt : k < 8
    · have hd : (k : Int) < 8 := by omega
      obtain ⟨x, hx⟩ : ∃ x, Hid (x = m % 256) := ⟨_, rfl⟩
      have e2 : IntKind.u8.wrap (m : Int) = (x : Int) := by rw [hx.out, IntKind.wrap_u8']; omega
      go_wp2_with (at_builtin; refine wpList_append_lies _ rfl (.tmp 10) (.tmp 13) 28 rfl base 5 i0 (.int .u8 0) 1 1 Try.underlying28 hi hz0 hz1 hz2 rfl (by decide) _ _ _ rfl (hOb.own.alloc _) ⟨wr.heap.size, 0, none⟩ 1 1 [.int .u8 (x : Int)] rfl rfl (World.news_of_block (cs := #[.int .u8 (x : Int)]) (t := 5) (fr := (0, 0)) (blk_new_at _ _ _ (by simp))) (by simp [Value.oneCell']) (by decide) (by unfold maxLen; omega) (by omega) (by simp; omega) (wr.heap.size + 1) (by simp) ?_; intro g cap2 w1 hown1 hgrow hat hlt2)
      have hP := hOb.push (ys := [x]) (gal (gre _) _) hown1 hgrow (hat.elim Or.inl (fun h => Or.inr (by omega)))
      go_roundw
      case rel =>
        refine ⟨k + 1, m / 256, zs ++ [x], _, _, by simp, by go_num, by go_num, by omega, ?_, ?_, by simp; omega, by omega, hP⟩
        · show _ = _
          rw [hzs.out, lowB_snoc, hx.out, hm.out, List.append_assoc]
        · show _ = _
          rw [hm.out, Nat.div_div_eq_div_mul, Nat.pow_succ]
      case measure => simp [intOf]; omega
    · obtain rfl : k = 8 := by omega
      go_wp2
      go_ret
      have e3 := hzs.out
      subst e3
      exact ⟨_, _, rfl, hOb⟩

set_option maxRecDepth 100000 in
theorem l2signed_any (n : Int) (w : World) (hn : I64 n) :
    Calls Try.prog 165 #[.int .i64 n] w fun e w' => e = .returned (.int .u64 (zig n : Int)) ∧ Below w.heap.size w w' := by
  unfold I64 at hn
  by_cases h0 : n < 0
  · have e1 : Hid (zig n = (-2 * n - 1).toNat) := if_pos h0
    go_enter Try.func165, Try.ntmps165
    go_wp2
    go_ret
    refine ⟨ret_int ?_, gre _⟩
    rw [e1.out]
    try simp only [IntKind.wrap_u64, wrap64]
    omega
  · have e1 : Hid (zig n = (2 * n).toNat) := if_neg h0
    go_enter Try.func165, Try.ntmps165
    go_wp2
    go_ret
    refine ⟨ret_int ?_, gre _⟩
    rw [e1.out]
    try simp only [IntKind.wrap_u64, wrap64]
    omega

set_option maxRecDepth 100000 in
theorem l2val_nil (base : Nat) (oa : Option Addr) (cap : Nat) (xs : List Nat)  (w : World)  (hbase : base ≤ w.heap.size) (hl : xs.length ≤ 1099511600000)
    (hO : w.ownsRow base 5 1 (.slice oa xs.length cap) xs.length (bcells xs)) :
    Calls Try.prog 129 #[.slice oa xs.length cap, (GV.mk 0 0 ⟨#[]⟩ 0).val] w (APost base oa xs (0 :: []) w) := by
  obtain ⟨i0, hi, hz0, hz1, hz2⟩ := info_parts info_u8
  have hF := (Four.new w ⟨0, 0, ⟨#[]⟩, 0⟩ 30).alloc (.cells #[.int .u8 0] 5)
  have hn0 : ¬ ((Value.slice oa xs.length cap).ownBlock = some w.heap.size) := fun e => by have := (hO.lt _ e).2; omega
  go_enter Try.func129, Try.ntmps129
  go_wp2_with (at_builtin; refine wpList_append_lies _ rfl (.tmp 5) (.tmp 9) 28 rfl base 5 i0 (.int .u8 0) 1 1 Try.underlying28 hi hz0 hz1 hz2 rfl (by decide) _ _ _ rfl ((hO.alloc _).alloc _) ⟨w.heap.size + 1, 0, none⟩ 1 1 [.int .u8 0] rfl rfl (World.news_of_block (cs := #[.int .u8 0]) (t := 5) (fr := (0, 0)) (blk_new_at _ _ _ (by simp))) (by simp [Value.oneCell']) (by decide) (by unfold maxLen; omega) (by omega) (by simp; omega) (w.heap.size + 2) (by simp) ?_; intro g cap2 w1 hown1 hgrow hat hlt2; have hF1 := hF.kept (Kept.of_grown hgrow) hn0; obtain ⟨fz, f0, f1, f2, f3, ff⟩ := id hF1; have hP := (Ob.start hO).push (ys := [0]) (gal (gal (gre _) _) _) hown1 hgrow (hat.elim Or.inl (fun h => Or.inr (by omega))); have hs1 := hP.kept.size)
  go_ret
  exact ⟨_, _, by simp, hP⟩

set_option maxRecDepth 100000 in
theorem l2val_num (base : Nat) (oa : Option Addr) (cap : Nat) (xs : List Nat) (num : Int) (w : World) (hn : I64 num) (hbase : base ≤ w.heap.size) (hl : xs.length ≤ 1099511600000)
    (hO : w.ownsRow base 5 1 (.slice oa xs.length cap) xs.length (bcells xs)) :
    Calls Try.prog 129 #[.slice oa xs.length cap, (GV.mk 1 num ⟨#[]⟩ 0).val] w (APost base oa xs (1 :: numB (zig num)) w) := by
  obtain ⟨i0, hi, hz0, hz1, hz2⟩ := info_parts info_u8
  have hF := (Four.new w ⟨1, num, ⟨#[]⟩, 0⟩ 30).alloc (.cells #[.int .u8 1] 5)
  have hn0 : ¬ ((Value.slice oa xs.length cap).ownBlock = some w.heap.size) := fun e => by have := (hO.lt _ e).2; omega
  go_enter Try.func129, Try.ntmps129
  go_wp2_with (first
    | (at_builtin; refine wpList_append_lies _ rfl (.tmp 5) (.tmp 9) 28 rfl base 5 i0 (.int .u8 0) 1 1 Try.underlying28 hi hz0 hz1 hz2 rfl (by decide) _ _ _ rfl ((hO.alloc _).alloc _) ⟨w.heap.size + 1, 0, none⟩ 1 1 [.int .u8 1] rfl rfl (World.news_of_block (cs := #[.int .u8 1]) (t := 5) (fr := (0, 0)) (blk_new_at _ _ _ (by simp))) (by simp [Value.oneCell']) (by decide) (by unfold maxLen; omega) (by omega) (by simp; omega) (w.heap.size + 2) (by simp) ?_; intro g cap2 w1 hown1 hgrow hat hlt2; have hF1 := hF.kept (Kept.of_grown hgrow) hn0; obtain ⟨fz, f0, f1, f2, f3, ff⟩ := id hF1; have hP := (Ob.start hO).push (ys := [1]) (gal (gal (gre _) _) _) hown1 hgrow (hat.elim Or.inl (fun h => Or.inr (by omega))); have hs1 := hP.kept.size)
    | (go_at_call 165; refine (l2signed_any num _ hn).mono ?_; rintro e w2 ⟨rfl, hb2⟩; have hP2 := hP.grow hb2; have hs2 := hP2.kept.size)
    | (go_at_call 128; refine (l2num_any base _ _ _ (xs ++ [1]) (zig num) _ _ (by simp) rfl (zig_lt hn) (by omega) (by simp; omega) hP2.own).mono ?_; rintro e w3 ⟨oa3, cap3, rfl, hQ⟩))
  go_ret
  have hR := hP2.call hQ
  rw [List.append_assoc] at hR
  exact ⟨_, _, by simp, hR⟩

set_option maxRecDepth 100000 in
theorem l2val_bits (base : Nat) (oa : Option Addr) (cap : Nat) (xs : List Nat) (num : Int) (w : World)  (hbase : base ≤ w.heap.size) (hl : xs.length ≤ 1099511600000)
    (hO : w.ownsRow base 5 1 (.slice oa xs.length cap) xs.length (bcells xs)) :
    Calls Try.prog 129 #[.slice oa xs.length cap, (GV.mk 2 num ⟨#[]⟩ 0).val] w (APost base oa xs (2 :: lowB 8 (u64n num)) w) := by
  obtain ⟨i0, hi, hz0, hz1, hz2⟩ := info_parts info_u8
  have hF := (Four.new w ⟨2, num, ⟨#[]⟩, 0⟩ 30).alloc (.cells #[.int .u8 2] 5)
  have hn0 : ¬ ((Value.slice oa xs.length cap).ownBlock = some w.heap.size) := fun e => by have := (hO.lt _ e).2; omega
  have e6 : IntKind.u64.wrap num = ((u64n num : Nat) : Int) := by rw [IntKind.wrap_u64]; unfold u64n; omega
  go_enter Try.func129, Try.ntmps129
  go_wp2_with (first
    | (at_builtin; refine wpList_append_lies _ rfl (.tmp 5) (.tmp 9) 28 rfl base 5 i0 (.int .u8 0) 1 1 Try.underlying28 hi hz0 hz1 hz2 rfl (by decide) _ _ _ rfl ((hO.alloc _).alloc _) ⟨w.heap.size + 1, 0, none⟩ 1 1 [.int .u8 2] rfl rfl (World.news_of_block (cs := #[.int .u8 2]) (t := 5) (fr := (0, 0)) (blk_new_at _ _ _ (by simp))) (by simp [Value.oneCell']) (by decide) (by unfold maxLen; omega) (by omega) (by simp; omega) (w.heap.size + 2) (by simp) ?_; intro g cap2 w1 hown1 hgrow hat hlt2; have hF1 := hF.kept (Kept.of_grown hgrow) hn0; obtain ⟨fz, f0, f1, f2, f3, ff⟩ := id hF1; have hP := (Ob.start hO).push (ys := [2]) (gal (gal (gre _) _) _) hown1 hgrow (hat.elim Or.inl (fun h => Or.inr (by omega))); have hs1 := hP.kept.size)
    | (go_at_call 130; refine (l2eight_any base _ _ _ (xs ++ [2]) (u64n num) _ _ (by simp) ?_ (u64n_lt num) (by omega) (by simp; omega) hP.own).mono ?_; (first | rfl | exact e6); rintro e w3 ⟨oa3, cap3, rfl, hQ⟩))
  go_ret
  have hR := hP.call hQ
  rw [List.append_assoc] at hR
  exact ⟨_, _, by simp, hR⟩

set_option maxRecDepth 100000 in
theorem l2val_node (base : Nat) (oa : Option Addr) (cap : Nat) (xs : List Nat) (node : Nat) (w : World) (hn : node < 300) (hbase : base ≤ w.heap.size) (hl : xs.length ≤ 1099511600000)
    (hO : w.ownsRow base 5 1 (.slice oa xs.length cap) xs.length (bcells xs)) :
    Calls Try.prog 129 #[.slice oa xs.length cap, (GV.mk 4 0 ⟨#[]⟩ node).val] w (APost base oa xs (4 :: numB node) w) := by
  obtain ⟨i0, hi, hz0, hz1, hz2⟩ := info_parts info_u8
  have hF := (Four.new w ⟨4, 0, ⟨#[]⟩, node⟩ 30).alloc (.cells #[.int .u8 4] 5)
  have hn0 : ¬ ((Value.slice oa xs.length cap).ownBlock = some w.heap.size) := fun e => by have := (hO.lt _ e).2; omega
  have e6 : IntKind.u64.wrap (node : Int) = (node : Int) := by rw [IntKind.wrap_u64]; omega
  go_enter Try.func129, Try.ntmps129
  go_wp2_with (first
    | (at_builtin; refine wpList_append_lies _ rfl (.tmp 5) (.tmp 9) 28 rfl base 5 i0 (.int .u8 0) 1 1 Try.underlying28 hi hz0 hz1 hz2 rfl (by decide) _ _ _ rfl ((hO.alloc _).alloc _) ⟨w.heap.size + 1, 0, none⟩ 1 1 [.int .u8 4] rfl rfl (World.news_of_block (cs := #[.int .u8 4]) (t := 5) (fr := (0, 0)) (blk_new_at _ _ _ (by simp))) (by simp [Value.oneCell']) (by decide) (by unfold maxLen; omega) (by omega) (by simp; omega) (w.heap.size + 2) (by simp) ?_; intro g cap2 w1 hown1 hgrow hat hlt2; have hF1 := hF.kept (Kept.of_grown hgrow) hn0; obtain ⟨fz, f0, f1, f2, f3, ff⟩ := id hF1; have hP := (Ob.start hO).push (ys := [4]) (gal (gal (gre _) _) _) hown1 hgrow (hat.elim Or.inl (fun h => Or.inr (by omega))); have hs1 := hP.kept.size)
    | (go_at_call 128; refine (l2num_any base _ _ _ (xs ++ [4]) node _ _ (by simp) ?_ (by omega) (by omega) (by simp; omega) hP.own).mono ?_; (first | rfl | exact e6); rintro e w3 ⟨oa3, cap3, rfl, hQ⟩))
  go_ret
  have hR := hP.call hQ
  rw [List.append_assoc] at hR
  exact ⟨_, _, by simp, hR⟩


set_option maxRecDepth 100000 in
/-- a text's bytes appended: where they lie -/
theorem append_str_lies {P : Program} (w : World) (base : Nat) (t u ty e : TypeId) (i : TypeInfo) (ht : P.underlying t = some (.slice e)) (hu : P.underlying u = some .string) (hi : P.info? e = some i) (hz : i.zero = some (.int .u8 0))
    (hsize : i.size = 1) (hby : i.bytes = 1) (v : Value) (n : Nat) (xs : List Value) (hown : w.ownsRow base e 1 v n xs) (s : ByteArray)
    (h63 : n + s.size ≤ maxLen) (hbytes : n + s.size ≤ 140737488355328) (hbase : base ≤ w.heap.size) (hn : 0 < n) :
    ∃ g cap w', (Builtin.append_ #[t, u] ty #[v, .string s]).run P w = .ok (.slice (some ⟨g, 0, none⟩) (n + s.size) cap) w' ∧ w'.ownsRow base e 1 (.slice (some ⟨g, 0, none⟩) (n + s.size) cap) (n + s.size) (xs ++ Lib.strCells s) ∧ w.grownBy w' v.ownBlock ∧ (v.ownBlock = some g ∨ g = w.heap.size) := by
  obtain ⟨v', w', hr, h2, h3, _⟩ := Lib.run_append_own_string (P := P) w base t u ty e i ht hu hi hz hsize hby v n xs hown s h63 hbytes hbase
  obtain ⟨g, cap, rfl, _, hlt⟩ := h2.form (by omega)
  refine ⟨g, cap, w', hr, h2, h3, ?_⟩
  unfold maxLen at h63
  have hxl : xs.length = n := by simpa using hown.1
  rcases hown.2 with ⟨rfl, rfl⟩ | ⟨g0, cap0, cur, rfl, hbg, hg, hnc, hcm, hcs, htake⟩
  · omega
  · have hcs' : cur.size = cap0 := by simpa using hcs
    by_cases hroom : n + s.size ≤ cap0
    · have hr2 := Lib.run_append_room_string (P := P) w t u ty e i ht hu hi hsize g0 n cap0 cur hg s hroom (by omega)
      rw [hr] at hr2
      simp at hr2
      left
      rw [hr2.1.1]; rfl
    · have holds : ∀ j u, xs[j]? = some u → w.cell? ((⟨g0, 0, none⟩ : Addr).add j) = some u := hown.cells (g := g0) rfl
      have hr2 := Lib.run_append_grow_string (P := P) w t u ty e i (.int .u8 0) ht hu hi hz ⟨g0, 0, none⟩ n cap0 xs (by rw [hsize]; simpa using hxl) holds s (by omega) (by omega) (by rw [hby]; exact growslice_fits (by omega) (by omega))
      rw [hr] at hr2
      simp at hr2
      right
      exact hr2.1.1

end Go.Proofs.Ythjddpkegooobab

/-
  SUM: sums of bytes. Own work.
-/
namespace Go.Proofs.Ythjddpkegooobab
open Go.RowKit

set_option maxRecDepth 100000 in
theorem sum_bits (h x : Nat) (hh : h < 18446744073709551616) (hx : x < 256) : IntKind.u64.wrap (bits .xor .u64 (h : Int) (x : Int) * 1099511628211) = (sumStep h x : Int) := by
  rw [u64_xor_nat h x hh (by omega), IntKind.wrap_u64]
  unfold sumStep
  omega

set_option maxRecDepth 100000 in
theorem implSumOf_any (a : Option Addr) (bs : List Nat) (cap : Nat) (w : World) (ha : BytesAt w a bs) (hl : bs.length ≤ maxLen) (hx : ∀ x, x ∈ bs → x < 256) :
    Calls Try.prog 78 #[.slice a bs.length cap] w fun e w' => e = .returned (.int .i64 (wrap64 (sumN bs : Int))) ∧ Below w.heap.size w w' := by
  unfold maxLen at hl
  go_enter Try.func78, Try.ntmps78
  go_wp2
  go_loopw [3, 8] (fun s i ws => ∃ (k h : Nat), i = .int .i64 k ∧ s = .int .u64 h ∧ k ≤ bs.length ∧ Hid (h = sumN (bs.take k)) ∧ Below w.heap.size w ws) (fun _ i _ => bs.length - (intOf i).toNat)
  case atStart => exact ⟨0, _, rfl, rfl, Nat.zero_le _, rfl, gre _⟩
  case round =>
    obtain ⟨k, h, rfl, rfl, hk, hh, hb⟩ := hrel
    by_cases hlt : k < bs.length
    · obtain ⟨x, b, off, hxk, hxm, rfl, hc⟩ := (ha.grow hb).get hlt
      have e0 : IntKind.u64.wrap (x : Int) = (x : Int) := by have := hx x hxm; rw [IntKind.wrap_u64]; omega
      have e1 := sum_bits h x (by rw [hh.out]; exact sumN_lt _) (hx x hxm)
      have e2 : Hid (sumStep h x = sumN (bs.take (k + 1))) := by show _ = _; rw [sumN_take_succ _ _ hlt, ← hxk.out, ← hh.out]
      go_wp2
      go_roundw
      case rel => exact ⟨k + 1, sumStep h x, by go_num, rfl, by omega, e2, hb⟩
      case measure => simp [intOf]; omega
    · obtain rfl : k = bs.length := by omega
      have e1 : Hid (sumN bs = h) := by show _ = _; rw [hh.out, List.take_length]
      go_wp2
      go_ret
      exact ⟨by rw [e1.out]; rfl, hb⟩

set_option maxRecDepth 100000 in
theorem l2sum_any (a : Option Addr) (bs : List Nat) (cap : Nat) (w : World) (ha : BytesAt w a bs) (hl : bs.length ≤ maxLen) (hx : ∀ x, x ∈ bs → x < 256) :
    Calls Try.prog 131 #[.slice a bs.length cap] w fun e w' => e = .returned (.int .u64 (sumN bs : Int)) ∧ Below w.heap.size w w' := by
  unfold maxLen at hl
  go_enter Try.func131, Try.ntmps131
  go_wp2
  go_loopw [3, 8] (fun s i ws => ∃ (k h : Nat), i = .int .i64 k ∧ s = .int .u64 h ∧ k ≤ bs.length ∧ Hid (h = sumN (bs.take k)) ∧ Below w.heap.size w ws) (fun _ i _ => bs.length - (intOf i).toNat)
  case atStart => exact ⟨0, _, rfl, rfl, Nat.zero_le _, rfl, gre _⟩
  case round =>
    obtain ⟨k, h, rfl, rfl, hk, hh, hb⟩ := hrel
    by_cases hlt : k < bs.length
    · obtain ⟨x, b, off, hxk, hxm, rfl, hc⟩ := (ha.grow hb).get hlt
      have e0 : IntKind.u64.wrap (x : Int) = (x : Int) := by have := hx x hxm; rw [IntKind.wrap_u64]; omega
      have e1 := sum_bits h x (by rw [hh.out]; exact sumN_lt _) (hx x hxm)
      have e2 : Hid (sumStep h x = sumN (bs.take (k + 1))) := by show _ = _; rw [sumN_take_succ _ _ hlt, ← hxk.out, ← hh.out]
      go_wp2
      go_roundw
      case rel => exact ⟨k + 1, sumStep h x, by go_num, rfl, by omega, e2, hb⟩
      case measure => simp [intOf]; omega
    · obtain rfl : k = bs.length := by omega
      have e1 : Hid (sumN bs = h) := by show _ = _; rw [hh.out, List.take_length]
      go_wp2
      go_ret
      exact ⟨by rw [e1.out]; rfl, hb⟩

end Go.Proofs.Ythjddpkegooobab

/-
  L4B: a head's block, as the specification writes it. Own work.
-/
namespace Go.Proofs.Ythjddpkegooobab
open Go.RowKit

/-- a head -/
abbrev headV (ok : Bool) (gen len sum : Int) : Value := .agg #[.bool ok, .int .i64 gen, .int .i64 len, .int .i64 sum]
def headOkB (ok : Bool) (gen len : Int) : Bool := ok && decide (1 ≤ gen) && decide (gen ≤ 1000000000000) && decide (1 ≤ len) && decide (len ≤ 4096)
/-- its numbers -/
def headN (gen len sum : Int) : List Nat := [72, 69, 65, 68] ++ lowB 8 (u64n gen) ++ lowB 8 (u64n len) ++ lowB 8 (u64n sum)
/-- its block -/
def headB (gen len sum : Int) : List Nat := headN gen len sum ++ lowB 8 (sumN (headN gen len sum)) ++ List.replicate 28 0
theorem headN_length (gen len sum : Int) : (headN gen len sum).length = 28 := by simp [headN, lowB_length]
theorem headB_length (gen len sum : Int) : (headB gen len sum).length = 64 := by simp [headB, headN_length, lowB_length]

theorem owns_atH {w : World} {base n cap : Nat} {a : Option Addr} {bs : List Nat} (h : w.ownsRow base 5 1 (.slice a n cap) bs.length (bcells bs)) : BytesAt w a bs := fun i hi => by
  obtain ⟨g, ha, _, _, hc⟩ := owns_cell h (bcells_get hi)
  exact ⟨g, 0, ha, by rw [Nat.zero_add]; exact hc⟩

def sliceN : Value → Nat
  | .slice _ n _ => n
  | _ => 0

structure HBox (w : World) (p : Nat) (ok : Bool) (gen len sum : Int) : Prop where
  lt : p < w.heap.size
  c0 : w.cell? ⟨p, 0, none⟩ = some (.bool ok)
  c1 : w.cell? ⟨p, 1, none⟩ = some (.int .i64 gen)
  c2 : w.cell? ⟨p, 2, none⟩ = some (.int .i64 len)
  c3 : w.cell? ⟨p, 3, none⟩ = some (.int .i64 sum)
theorem HBox.new (w : World) (ok : Bool) (gen len sum : Int) (t : TypeId) : HBox (w.alloc (.cells #[.bool ok, .int .i64 gen, .int .i64 len, .int .i64 sum] t)) w.heap.size ok gen len sum := ⟨by simp, by simp, by simp, by simp, by simp⟩
theorem HBox.kept {p : Nat → Prop} {w w' : World} {b : Nat} {ok : Bool} {gen len sum : Int} (h : HBox w b ok gen len sum) (k : Kept p w w') (hn : ¬ p b) : HBox w' b ok gen len sum :=
  ⟨Nat.lt_of_lt_of_le h.lt k.size, k.cell h.c0 hn, k.cell h.c1 hn, k.cell h.c2 hn, k.cell h.c3 hn⟩

set_option maxRecDepth 100000 in
theorem l4headok_any (ok : Bool) (gen len sum : Int) (w : World) :
    Calls Try.prog 116 #[headV ok gen len sum] w fun e w' => e = .returned (.bool (headOkB ok gen len)) ∧ Below w.heap.size w w' := by
  go_enter Try.func116, Try.ntmps116
  go_wp2
  all_goals
    go_ret
    refine ⟨?_, gal (gre _) _⟩
    simp_all [headOkB]
    try omega

set_option maxHeartbeats 2000000 in
set_option maxRecDepth 100000 in
theorem l4block_any (ok : Bool) (gen len sum : Int) (w : World) :
    Calls Try.prog 117 #[headV ok gen len sum] w fun e w' => ∃ oa c, e = .returned (.slice oa (headB gen len sum).length c) ∧ w'.ownsRow w.heap.size 5 1 (.slice oa (headB gen len sum).length c) (headB gen len sum).length (bcells (headB gen len sum)) ∧ Below w.heap.size w w' := by
  obtain ⟨i0, hi, hz0, hz1, hz2⟩ := info_parts info_u8
  have g6 : IntKind.u64.wrap gen = ((u64n gen : Nat) : Int) := by rw [IntKind.wrap_u64]; unfold u64n; omega
  have l6 : IntKind.u64.wrap len = ((u64n len : Nat) : Int) := by rw [IntKind.wrap_u64]; unfold u64n; omega
  have s6 : IntKind.u64.wrap sum = ((u64n sum : Nat) : Int) := by rw [IntKind.wrap_u64]; unfold u64n; omega
  have hb1 : ∀ x, x ∈ headN gen len sum → x < 256 := fun x hx => by
    unfold headN at hx
    rcases List.mem_append.1 hx with hx | hx
    · rcases List.mem_append.1 hx with hx | hx
      · rcases List.mem_append.1 hx with hx | hx
        · simp at hx; omega
        · exact lowB_byte _ _ _ hx
      · exact lowB_byte _ _ _ hx
    · exact lowB_byte _ _ _ hx
  obtain ⟨wA, hwA⟩ : ∃ wA, Hid (wA = w.alloc (.cells #[.bool ok, .int .i64 gen, .int .i64 len, .int .i64 sum] 74)) := ⟨_, rfl⟩
  have hsA : wA.heap.size = w.heap.size + 1 := by rw [hwA.out]; simp
  have hHA : HBox wA w.heap.size ok gen len sum := by rw [hwA.out]; exact HBox.new w ok gen len sum _
  have hKA : Kept (fun _ => False) w wA := by rw [hwA.out]; exact (Kept.refl _ w).alloc _
  have hO0 := World.ownsRow_lit (base := w.heap.size + 1) (e := 5) (size := 1) wA #[.int .u8 72, .int .u8 69, .int .u8 65, .int .u8 68] 4 (by omega) (by decide) rfl
  have hK0 : Kept (fun _ => False) wA (wA.alloc (.cells #[.int .u8 72, .int .u8 69, .int .u8 65, .int .u8 68] 5)) := (Kept.refl _ wA).alloc _
  have hH0 := hHA.kept hK0 (fun e => e)
  have hKw := hKA.trans hK0 (fun _ _ e => e)
  have hs0 : (wA.alloc (.cells #[.int .u8 72, .int .u8 69, .int .u8 65, .int .u8 68] 5)).heap.size = w.heap.size + 1 + 1 := by simp [hsA]
  rw [hsA] at hO0
  go_enter Try.func117, Try.ntmps117
  go_upto_region 2 with fail
  rw [← hwA.out]
  generalize wA.alloc (.cells #[.int .u8 72, .int .u8 69, .int .u8 65, .int .u8 68] 5) = wB at hO0 hH0 hKw hs0 ⊢
  clear hK0 hHA hKA
  obtain ⟨zs, hzs⟩ := hid_ex ([72, 69, 65, 68] : List Nat)
  replace hO0 : wB.ownsRow (w.heap.size + 1) 5 1 (.slice (some ⟨w.heap.size + 1, 0, none⟩) zs.length 4) zs.length (bcells zs) := by rw [hzs.out]; exact hO0
  have hz4 : Hid (zs.length = 4) := by show _ = _; rw [hzs.out]; rfl
  have hlow : ∀ n, (lowB 8 n).length = 8 := lowB_length 8
  obtain ⟨_, _, b1, b2, b3⟩ := id hH0
  go_wp2_with (first
    | (go_at_call 130; refine (l2eight_any (w.heap.size + 1) oa3 z3.length c3 z3 (sumN z3) _ w5 rfl rfl (sumN_lt z3) (by have := hb5.size; have := hQ3.kept.size; have := hQ2.kept.size; have := hQ1.kept.size; omega) (by have := hl3.out; omega) ((Kept.of_below hb5 (fun _ => False)).owns hQ3.own (fun _ _ e => e))).mono ?_; rintro e w6 ⟨oa4, c4, rfl, hQ4⟩; obtain ⟨z4, hz4'⟩ := hid_ex (z3 ++ lowB 8 (sumN z3)); rw [← hz4'.out] at hQ4 ⊢)
    | (go_at_call 131; refine (l2sum_any oa3 z3 c3 w4 (owns_atH hQ3.own) (by have := hl3.out; unfold maxLen; omega) hb3).mono ?_; rintro e w5 ⟨rfl, hb5⟩)
    | (go_at_call 130; refine (l2eight_any (w.heap.size + 1) oa2 z2.length c2 z2 (u64n sum) _ w3 rfl (by first | rfl | exact s6) (u64n_lt sum) (by have := hQ2.kept.size; have := hQ1.kept.size; omega) (by have := hl2.out; omega) hQ2.own).mono ?_; rintro e w4 ⟨oa3, c3, rfl, hQ3⟩; obtain ⟨z3, hz3'⟩ := hid_ex (z2 ++ lowB 8 (u64n sum)); rw [← hz3'.out] at hQ3 ⊢; have hl3 : Hid (z3.length = 28) := (by show _ = _; rw [hz3'.out, List.length_append, hl2.out, hlow]); have hz3n : Hid (z3 = headN gen len sum) := (by show _ = _; rw [hz3'.out, hz2'.out, hz1'.out, hzs.out]; rfl); have hb3 : ∀ x, x ∈ z3 → x < 256 := (by rw [hz3n.out]; exact hb1))
    | (go_at_call 130; refine (l2eight_any (w.heap.size + 1) oa1 z1.length c1 z1 (u64n len) _ w2 rfl (by first | rfl | exact l6) (u64n_lt len) (by have := hQ1.kept.size; omega) (by have := hl1.out; omega) hQ1.own).mono ?_; rintro e w3 ⟨oa2, c2, rfl, hQ2⟩; obtain ⟨z2, hz2'⟩ := hid_ex (z1 ++ lowB 8 (u64n len)); rw [← hz2'.out] at hQ2 ⊢; have hl2 : Hid (z2.length = 20) := (by show _ = _; rw [hz2'.out, List.length_append, hl1.out, hlow]); have hH3 := hH2.kept hQ2.kept (fun e => (by have := (hQ1.lt e).1; omega)); obtain ⟨_, _, d1, d2, d3⟩ := id hH3)
    | (go_at_call 130; refine (l2eight_any (w.heap.size + 1) _ 4 4 zs (u64n gen) _ wB hz4.out.symm (by first | rfl | exact g6) (u64n_lt gen) (by omega) (by have := hz4.out; omega) hO0).mono ?_; rintro e w2 ⟨oa1, c1, rfl, hQ1⟩; obtain ⟨z1, hz1'⟩ := hid_ex (zs ++ lowB 8 (u64n gen)); rw [← hz1'.out] at hQ1 ⊢; have hl1 : Hid (z1.length = 12) := (by show _ = _; rw [hz1'.out, List.length_append, hz4.out, hlow]); have hH2 := hH0.kept hQ1.kept (fun e => (by have := some_addr e; omega)); obtain ⟨_, _, e1, e2, e3⟩ := id hH2))
  have hK6 : Kept (fun _ => False) w w6 := ((((hKw.trans hQ1.kept (fun k hk e => by have := some_addr e; omega)).trans hQ2.kept (fun k hk e => by have := (hQ1.lt e).1; omega)).trans hQ3.kept (fun k hk e => by have := (hQ2.lt e).1; omega)).trans (Kept.of_below hb5 (fun _ => False)) (fun _ _ e => e)).trans hQ4.kept (fun k hk e => by have := (hQ3.lt e).1; omega)
  have hl4 : Hid (z4.length = 36) := by show _ = _; rw [hz4'.out, List.length_append, hl3.out, hlow]
  have hfin : Hid (z4 ++ List.replicate 28 0 = headB gen len sum) := by show _ = _; rw [hz4'.out, hz3n.out]; rfl
  have hO6 := owns_le hQ4.own (show w.heap.size ≤ w.heap.size + 1 by omega)
  clear hQ1 hQ2 hQ3 hQ4 hH0 hH2 hH3 hO0 hKw b1 b2 b3 d1 d2 d3 e1 e2 e3 g6 l6 s6
  go_loopw [3] (fun v ws => ∃ (j : Nat) (ys : List Nat) (oa : Option Addr) (c : Nat), v = .slice oa ys.length c ∧ ys.length + j = 64 ∧ Hid (ys ++ List.replicate j 0 = headB gen len sum) ∧ ws.ownsRow w.heap.size 5 1 (.slice oa ys.length c) ys.length (bcells ys) ∧ Hid (Kept (fun _ => False) w ws)) (fun v _ => 64 - sliceN v)
  case atStart => exact ⟨28, z4, oa4, c4, rfl, by have := hl4.out; omega, hfin, hO6, hK6⟩
  case round =>
    obtain ⟨j, ys, oa, c, rfl, hj, hy, hO, hK⟩ := hrel
    by_cases hlt : ys.length < 64
    · have hd : (ys.length : Int) < 64 := by omega
      have hsK := hK.out.size
      go_wp2_with (at_builtin; refine wpList_append_lies _ rfl (.tmp 27) (.tmp 28) 28 rfl w.heap.size 5 i0 (.int .u8 0) 1 1 Try.underlying28 hi hz0 hz1 hz2 rfl (by decide) _ _ _ rfl (hO.alloc _) ⟨wr.heap.size, 0, none⟩ 1 1 [.int .u8 0] rfl rfl (World.news_of_block (cs := #[.int .u8 0]) (t := 5) (fr := (0, 0)) (blk_new_at _ _ _ (by simp))) (by simp [Value.oneCell']) (by decide) (by unfold maxLen; omega) (by omega) (by simp; omega) (wr.heap.size + 1) (by simp) ?_; intro g2 cap2 w7 hown7 hgrow7 hat7 hlt7)
      have hG := Kept.of_grown hgrow7
      have hA : Kept (fun _ => False) wr (wr.alloc (.cells #[.int .u8 0] 5)) := (Kept.refl _ wr).alloc _
      go_roundw
      case rel =>
        refine ⟨j - 1, ys ++ [0], some ⟨g2, 0, none⟩, cap2, by simp, by simp; omega, ?_, by simpa [bcells_snoc] using hown7, (hK.out.trans hA (fun _ _ e => e)).trans hG (fun k hk e => by have := (hO.lt _ e).1; omega)⟩
        show ys ++ [0] ++ List.replicate (j - 1) 0 = headB gen len sum
        rw [← hy.out, List.append_assoc]
        congr 1
        rw [show j = j - 1 + 1 by omega, List.replicate_succ]
        simp
      case measure => simp [sliceN]; omega
    · obtain rfl : j = 0 := by omega
      have hd : ¬ ((ys.length : Int) < 64) := by omega
      have e : ys = headB gen len sum := by rw [← hy.out]; simp
      go_wp2
      go_ret
      subst e
      exact ⟨oa, c, rfl, hO, hK.out.below (Nat.le_refl _) (fun k hk e => e)⟩

end Go.Proofs.Ythjddpkegooobab

/-
  RDPLAIN: reading images, plain. Own work.
-/
namespace Go.Proofs.Ythjddpkegooobab

/-- a group of bits more -/
def orU (n x s : Nat) : Nat := n ||| (x * 2 ^ min s 64 % 18446744073709551616)
/-- the program's number -/
def rdNum (n s : Nat) : List Nat → Option (Nat × List Nat)
  | [] => none
  | b :: r => if b < 128 then some (orU n (b % 128) s, r) else rdNum (orU n (b % 128) s) (s + 7) r
def rdCount (most : Nat) (r : List Nat) : Option (Nat × List Nat) :=
  match rdNum 0 0 r with
  | some (n, r') => if n ≤ most then some (n, r') else none
  | none => none
def strB (bs : List Nat) : ByteArray := strOfNums (bs.map fun (x : Nat) => (x : Int))
def rdText (n : Nat) (r : List Nat) : Option (ByteArray × List Nat) := if n ≤ r.length then some (strB (r.take n), r.drop n) else none
/-- a byte more into a word -/
def orI (n : Int) (b i : Nat) : Int := bits .or .i64 n (IntKind.i64.wrap ((b : Int) * 2 ^ (8 * i)))
def rdLow : Nat → Nat → Int → List Nat → Option (Int × List Nat)
  | 0, _, n, r => some (n, r)
  | _ + 1, _, _, [] => none
  | k + 1, i, n, b :: r => rdLow k (i + 1) (orI n b i) r
def zag (n : Nat) : Int := if n % 2 = 1 then -((n / 2 : Nat) : Int) - 1 else ((n / 2 : Nat) : Int)
def rdVal : List Nat → Option (GV × List Nat)
  | [] => none
  | k :: r =>
    if k = 0 then some (⟨0, 0, ⟨#[]⟩, 0⟩, r)
    else if k = 1 then (rdNum 0 0 r).map fun x => (⟨1, zag x.1, ⟨#[]⟩, 0⟩, x.2)
    else if k = 2 then (rdLow 8 0 0 r).map fun x => (⟨2, x.1, ⟨#[]⟩, 0⟩, x.2)
    else if k = 3 then (rdCount 1000 r).bind fun x => (rdText x.1 x.2).map fun y => (⟨3, 0, y.1, 0⟩, y.2)
    else if k = 4 then (rdCount 300 r).map fun x => (⟨4, 0, ⟨#[]⟩, (x.1 : Int)⟩, x.2)
    else none
def rdVals : Nat → List Nat → Option (List GV × List Nat)
  | 0, r => some ([], r)
  | k + 1, r => (rdVal r).bind fun x => (rdVals k x.2).map fun y => (x.1 :: y.1, y.2)
def rdNode (r : List Nat) : Option (GN × List Nat) :=
  (rdCount 1000 r).bind fun t => (rdCount 100 t.2).bind fun m => (rdVals m.1 m.2).map fun y => (⟨(t.1 : Int), y.1⟩, y.2)
def rdNodes : Nat → List Nat → Option (List GN × List Nat)
  | 0, r => some ([], r)
  | k + 1, r => (rdNode r).bind fun x => (rdNodes k x.2).map fun y => (x.1 :: y.1, y.2)
def rdGraph (r : List Nat) : Option (GG × List Nat) :=
  (rdText 2 r).bind fun t => if t.1 = ⟨#[72, 49]⟩ then (rdCount 300 t.2).bind fun m => (rdVal m.2).bind fun x => (rdNodes m.1 x.2).map fun y => (⟨x.1, y.1⟩, y.2) else none

/-! numbers are read back -/
theorem orU_join {n x s : Nat} (hn : n < 2 ^ s) (hx : n + x * 2 ^ s < 18446744073709551616) (hs : s ≤ 64) : orU n x s = n + x * 2 ^ s := by
  unfold orU
  rw [Nat.min_eq_left hs, Nat.mod_eq_of_lt (by omega), Nat.or_comm, nat_join s (x * 2 ^ s) n (Nat.mul_mod_left _ _) hn]
  omega

theorem rdNum_back : ∀ (f m n s : Nat) (r : List Nat), m < f → n < 2 ^ s → n + m * 2 ^ s < 18446744073709551616 → s ≤ 64 → rdNum n s (numB m ++ r) = some (n + m * 2 ^ s, r)
  | 0, _, _, _, _, h, _, _, _ => absurd h (Nat.not_lt_zero _)
  | f + 1, m, n, s, r, hf, hn, hb, hs => by
    by_cases h : m < 128
    · rw [numB_small h]
      show (if m < 128 then _ else _) = _
      rw [if_pos h, Nat.mod_eq_of_lt h, orU_join hn hb hs]
      rfl
    · rw [numB_great h]
      show (if m % 128 + 128 < 128 then _ else _) = _
      have e1 : (m % 128 + 128) % 128 = m % 128 := by omega
      have hpow : 2 ^ (s + 7) = 2 ^ s * 128 := by rw [Nat.pow_add]
      have h2s : 0 < 2 ^ s := Nat.pow_pos (by omega)
      have hm : m = m % 128 + m / 128 * 128 := by omega
      have hsum : n + m * 2 ^ s = n + m % 128 * 2 ^ s + m / 128 * 2 ^ (s + 7) := by
        rw [hpow]
        conv => lhs; rw [hm]
        rw [Nat.add_mul, Nat.mul_assoc, Nat.mul_comm 128 (2 ^ s), Nat.add_assoc]
      have hs7 : s + 7 ≤ 64 := by
        have h1 : 2 ^ (s + 7) ≤ m / 128 * 2 ^ (s + 7) := Nat.le_mul_of_pos_left _ (by omega)
        have h2 : 2 ^ (s + 7) < 2 ^ 64 := by omega
        have := (Nat.pow_lt_pow_iff_right (a := 2) (by omega)).1 h2
        omega
      rw [if_neg (by omega), e1, orU_join hn (by omega) hs]
      have h3 : n + m % 128 * 2 ^ s < 2 ^ (s + 7) := by
        rw [hpow]
        have h4 : (m % 128 + 1) * 2 ^ s ≤ 128 * 2 ^ s := Nat.mul_le_mul_right _ (by omega)
        rw [Nat.add_mul] at h4
        rw [Nat.mul_comm (2 ^ s) 128]
        omega
      rw [hsum]
      exact rdNum_back f (m / 128) _ (s + 7) r (by omega) h3 (by omega) hs7

theorem rdNum_num {m : Nat} (h : m < 18446744073709551616) (r : List Nat) : rdNum 0 0 (numB m ++ r) = some (m, r) := by
  have h1 := rdNum_back (m + 1) m 0 0 r (by omega) (by simp) (by simpa using h) (by omega)
  simpa using h1
theorem rdCount_num {m most : Nat} (h : m ≤ most) (hm : most < 18446744073709551616) (r : List Nat) : rdCount most (numB m ++ r) = some (m, r) := by
  unfold rdCount
  rw [rdNum_num (by omega)]
  exact if_pos h

theorem strB_bs (s : ByteArray) : strB (bsOf s) = s := by
  apply ByteArray.ext
  apply Array.ext'
  show ((bsOf s).map _).map _ = _
  unfold bsOf
  rw [List.map_map, List.map_map]
  conv => rhs; rw [← List.map_id s.data.toList]
  apply List.map_congr_left
  intro x _
  show UInt8.ofNat ((x.toNat : Int)).toNat = x
  simp
theorem rdText_bs (s : ByteArray) (r : List Nat) : rdText s.size (bsOf s ++ r) = some (s, r) := by
  unfold rdText
  have h := bsOf_length s
  rw [if_pos (by rw [List.length_append]; omega)]
  have e1 : (bsOf s ++ r).take s.size = bsOf s := by rw [← h, List.take_left]
  have e2 : (bsOf s ++ r).drop s.size = r := by rw [← h, List.drop_left]
  rw [e1, e2, strB_bs]

theorem ofInt_wrap (a : Nat) (h : a < 18446744073709551616) : (BitVec.ofInt 64 (IntKind.i64.wrap (a : Int))).toNat = a := by
  rw [IntKind.wrap_i64, BitVec.toNat_ofInt]
  have e : ((2 ^ 64 : Nat) : Int) = 18446744073709551616 := by decide
  rw [e]
  omega
theorem orI_join {a b i : Nat} (ha : a < 2 ^ (8 * i)) (hb : b < 256) (hi : i < 8) : orI (IntKind.i64.wrap (a : Int)) b i = IntKind.i64.wrap ((a + b * 2 ^ (8 * i) : Nat) : Int) := by
  have h64 : a + b * 2 ^ (8 * i) < 18446744073709551616 := by
    have h1 : (b + 1) * 2 ^ (8 * i) ≤ 256 * 2 ^ (8 * i) := Nat.mul_le_mul_right _ (by omega)
    have h2 : 256 * 2 ^ (8 * i) = 2 ^ (8 * i + 8) := by rw [Nat.pow_add]; omega
    have h3 : 2 ^ (8 * i + 8) ≤ 2 ^ 64 := Nat.pow_le_pow_right (by omega) (by omega)
    rw [Nat.add_mul] at h1
    omega
  have e : ((b : Int) * 2 ^ (8 * i)) = ((b * 2 ^ (8 * i) : Nat) : Int) := by push_cast; rfl
  unfold orI
  rw [e]
  show IntKind.i64.wrap ((BitVec.ofInt 64 (IntKind.i64.wrap (a : Int)) ||| BitVec.ofInt 64 (IntKind.i64.wrap ((b * 2 ^ (8 * i) : Nat) : Int))).toNat : Nat) = _
  rw [BitVec.toNat_or, ofInt_wrap a (by omega), ofInt_wrap _ (by omega), Nat.or_comm, nat_join (8 * i) (b * 2 ^ (8 * i)) a (Nat.mul_mod_left _ _) ha, Nat.add_comm]

theorem rdLow_back : ∀ (k i a m : Nat) (r : List Nat), i + k = 8 → a < 2 ^ (8 * i) → rdLow k i (IntKind.i64.wrap (a : Int)) (lowB k m ++ r) = some (IntKind.i64.wrap ((a + m % 2 ^ (8 * k) * 2 ^ (8 * i) : Nat) : Int), r)
  | 0, i, a, m, r, _, _ => by
    show some (_, r) = _
    simp [Nat.mod_one]
  | k + 1, i, a, m, r, hk, ha => by
    show rdLow k (i + 1) (orI (IntKind.i64.wrap (a : Int)) (m % 256) i) (lowB k (m / 256) ++ r) = _
    have hp : 2 ^ (8 * (i + 1)) = 2 ^ (8 * i) * 256 := by rw [show 8 * (i + 1) = 8 * i + 8 by omega, Nat.pow_add]
    have hlt : a + m % 256 * 2 ^ (8 * i) < 2 ^ (8 * (i + 1)) := by
      have h1 : (m % 256 + 1) * 2 ^ (8 * i) ≤ 256 * 2 ^ (8 * i) := Nat.mul_le_mul_right _ (by omega)
      rw [Nat.add_mul] at h1
      rw [hp, Nat.mul_comm (2 ^ (8 * i)) 256]
      omega
    rw [orI_join ha (by omega) (by omega), rdLow_back k (i + 1) _ (m / 256) r (by omega) hlt]
    congr 4
    have e1 : m % 2 ^ (8 * (k + 1)) = m % 256 + m / 256 % 2 ^ (8 * k) * 256 := by
      rw [show 2 ^ (8 * (k + 1)) = 256 * 2 ^ (8 * k) by rw [show 8 * (k + 1) = 8 + 8 * k by omega, Nat.pow_add], Nat.mod_mul]
      omega
    rw [e1, hp, Nat.add_mul, Nat.mul_assoc, Nat.mul_comm 256 (2 ^ (8 * i)), Nat.add_assoc]

theorem rdLow_word {n : Int} (h : I64 n) (r : List Nat) : rdLow 8 0 0 (lowB 8 (u64n n) ++ r) = some (n, r) := by
  have h1 := rdLow_back 8 0 0 (u64n n) r (by omega) (by simp)
  have e0 : IntKind.i64.wrap ((0 : Nat) : Int) = 0 := by rw [IntKind.wrap_i64]; omega
  rw [e0] at h1
  rw [h1]
  congr 2
  unfold I64 at h
  have e1 : u64n n % 2 ^ (8 * 8) = u64n n := Nat.mod_eq_of_lt (u64n_lt n)
  rw [e1, IntKind.wrap_i64]
  unfold u64n
  simp
  omega
theorem zag_zig (n : Int) : zag (zig n) = n := by
  unfold zag zig
  split <;> split <;> omega

end Go.Proofs.Ythjddpkegooobab

/-
  HPLAIN: heads as they are read. Own work.
-/
namespace Go.Proofs.Ythjddpkegooobab
open Go.RowKit

structure HH where
  ok : Bool
  gen : Int
  len : Int
  sum : Int
abbrev HH.val (h : HH) : Value := headV h.ok h.gen h.len h.sum
abbrev noH : HH := ⟨false, 0, 0, 0⟩

/-- a head whose block these bytes are -/
structure HH.Is (h : HH) (bs : List Nat) : Prop where
  ok : h.ok = true
  rng : headOkB true h.gen h.len = true
  sum : I64 h.sum
  eq : bs = headB h.gen h.len h.sum

def headOf (bs : List Nat) : HH :=
  match rdLow 8 0 0 (bs.drop 4) with
  | some (g, r) =>
    match rdLow 8 0 0 r with
    | some (l, r2) =>
      match rdLow 8 0 0 r2 with
      | some (s, _) => if headOkB true g l = true ∧ (-9223372036854775808 ≤ s ∧ s ≤ 9223372036854775807) ∧ bs = headB g l s then ⟨true, g, l, s⟩ else noH
      | none => noH
    | none => noH
  | none => noH

theorem rng_i64 {g l : Int} (h : headOkB true g l = true) : (1 ≤ g ∧ g ≤ 1000000000000) ∧ 1 ≤ l ∧ l ≤ 4096 := by
  unfold headOkB at h
  simp at h
  omega
theorem rng_mk {g l : Int} (h : (1 ≤ g ∧ g ≤ 1000000000000) ∧ 1 ≤ l ∧ l ≤ 4096) : headOkB true g l = true := by
  unfold headOkB
  simp
  omega
theorem headB_drop (g l s : Int) : (headB g l s).drop 4 = lowB 8 (u64n g) ++ (lowB 8 (u64n l) ++ (lowB 8 (u64n s) ++ (lowB 8 (sumN (headN g l s)) ++ List.replicate 28 0))) := by
  unfold headB headN
  simp [List.append_assoc]

theorem headOf_yes {x : HH} {bs : List Nat} (h : x.Is bs) : headOf bs = x := by
  obtain ⟨ok, g, l, s⟩ := x
  obtain ⟨h1, h2, h3, h4⟩ := h
  simp only at h1 h2 h3 h4
  subst h1
  have hr := rng_i64 h2
  unfold headOf
  rw [h4, headB_drop, rdLow_word (by unfold I64; omega)]
  simp only
  rw [rdLow_word (by unfold I64; omega)]
  simp only
  rw [rdLow_word h3]
  simp only
  rw [if_pos]
  refine ⟨h2, by unfold I64 at h3; omega, ?_⟩
  first | rfl | trivial
theorem headOf_no {bs : List Nat} (h : ∀ x : HH, ¬ x.Is bs) : headOf bs = noH := by
  unfold headOf
  split
  · split
    · split
      · rename_i g r _ _ l r2 _ _ s _ _
        refine if_neg (fun h2 => h ⟨true, g, l, s⟩ ⟨rfl, h2.1, ?_, h2.2.2⟩)
        unfold I64; have := h2.2.1; simp only; omega
      · rfl
    · rfl
  · rfl
theorem headOf_cases (bs : List Nat) : (headOf bs).Is bs ∨ headOf bs = noH := by
  by_cases h : ∃ x : HH, x.Is bs
  · obtain ⟨x, hx⟩ := h
    rw [headOf_yes hx]; exact Or.inl hx
  · exact Or.inr (headOf_no (fun x hx => h ⟨x, hx⟩))

end Go.Proofs.Ythjddpkegooobab

/-
  CUR: a place in bytes. Own work.
-/
namespace Go.Proofs.Ythjddpkegooobab
open Go.RowKit

/-- the panic by which an image is left -/
abbrev haltP : PanicEntry := { v := .iface 164 (.agg #[]), recovered := false }

/-- a cursor's two cells -/
structure Cur (w : World) (b : Nat) (sa : Option Addr) (len cap at_ : Nat) : Prop where
  lt : b < w.heap.size
  c0 : w.cell? ⟨b, 0, none⟩ = some (.slice sa len cap)
  c1 : w.cell? ⟨b, 1, none⟩ = some (.int .i64 (at_ : Int))
  f : ∀ o, w.frozen? ⟨b, o, none⟩ = false

set_option maxRecDepth 100000 in
theorem Cur.same {w w' : World} {b : Nat} {sa : Option Addr} {len cap at_ : Nat} (h : Cur w b sa len cap at_) (e : w'.heap[b]? = w.heap[b]?) (hlt : b < w'.heap.size) : Cur w' b sa len cap at_ :=
  ⟨hlt, (World.cell?_of_block (w := w) e).trans h.c0, (World.cell?_of_block (w := w) e).trans h.c1, fun o => (World.frozen?_of_block (w := w) e).trans (h.f o)⟩
theorem Cur.kept {p : Nat → Prop} {w w' : World} {b : Nat} {sa : Option Addr} {len cap at_ : Nat} (h : Cur w b sa len cap at_) (k : Kept p w w') (hn : ¬ p b) : Cur w' b sa len cap at_ := h.same (k.block b h.lt hn) (Nat.lt_of_lt_of_le h.lt k.size)
set_option maxRecDepth 100000 in
theorem Cur.set {w : World} {b : Nat} {sa : Option Addr} {len cap at_ : Nat} (h : Cur w b sa len cap at_) {z : Int} {n : Nat} (hz : z = (n : Int)) : Cur (w.setCell ⟨b, 1, none⟩ (.int .i64 z)) b sa len cap n := by
  subst hz
  refine ⟨by have := h.lt; simpa [World.setCell] using this, ?_, ?_, fun o => ?_⟩
  · rw [World.cell?_setCell_other _ _ _ _ (by simp)]; exact h.c0
  · exact World.cell?_setCell_same _ _ _ h.c1
  · rw [World.frozen?_setCell]; exact h.f o
set_option maxRecDepth 100000 in
theorem Cur.drewN {w : World} {b : Nat} {sa : Option Addr} {len cap at_ : Nat} (h : Cur w b sa len cap at_) (k : Nat) : Cur (w.drewN k) b sa len cap at_ := ⟨h.lt, h.c0, h.c1, h.f⟩
theorem Kept.drewN {p : Nat → Prop} {w w' : World} (h : Kept p w w') (k : Nat) : Kept p w (w'.drewN k) := ⟨h.os, h.tape, h.output, h.size, h.block⟩

/-- what 'next' leaves, where there is so much -/
def NextPost (b : Nat) (sa : Option Addr) (len cap at_ n : Nat) (w : World) (e : Ending) (w' : World) : Prop :=
  ∃ p c, e = .returned (.slice p n c) ∧ (0 < n → ∀ g off, sa = some ⟨g, off, none⟩ → p = some ⟨g, off + at_, none⟩) ∧ Cur w' b sa len cap (at_ + n) ∧ Kept (fun k => k = b) w w'

set_option maxRecDepth 100000 in
theorem next_fits (b : Nat) (sa : Option Addr) (len cap at_ n : Nat) (w : World) (hc : Cur w b sa len cap at_) (hlc : len ≤ cap) (hlm : len ≤ maxLen) (hn : at_ + n ≤ len) :
    Calls Try.prog 158 #[.pointer (some ⟨b, 0, none⟩), .int .i64 (n : Int)] w (NextPost b sa len cap at_ n w) := by
  obtain ⟨hlt, c0, c1, hf⟩ := id hc
  unfold maxLen at hlm
  have hd : ¬ ((len : Int) - (at_ : Int) < (n : Int)) := by omega
  by_cases hca : cap = at_
  · subst hca
    go_enter Try.func158, Try.ntmps158
    go_wp2_with (go_quiet (fail))
    go_ret
    refine ⟨_, _, rfl, fun h => ?_, ((hc.drewN _).set (by omega)).drewN _, (((Kept.refl (fun k => k = b) w).drewN _).set (fun _ => rfl) _).drewN _⟩
    exact absurd h (by omega)
  · go_enter Try.func158, Try.ntmps158
    go_wp2_with (go_quiet (fail))
    go_ret
    exact ⟨_, _, rfl, fun _ g off e => by subst e; simp [Addr.add], ((hc.drewN _).set (by omega)).drewN _, (((Kept.refl (fun k => k = b) w).drewN _).set (fun _ => rfl) _).drewN _⟩

/-- what 'next' leaves, where there is not -/
def HaltPost (w : World) (e : Ending) (w' : World) : Prop := e = .panicked [haltP] ∧ Below w.heap.size w w'

set_option maxRecDepth 100000 in
theorem next_not (b : Nat) (sa : Option Addr) (len cap at_ n : Nat) (w : World) (hc : Cur w b sa len cap at_) (hlm : len ≤ maxLen) (hat : at_ ≤ len) (hn : len < at_ + n) :
    Calls Try.prog 158 #[.pointer (some ⟨b, 0, none⟩), .int .i64 (n : Int)] w (HaltPost w) := by
  obtain ⟨hlt, c0, c1, hf⟩ := id hc
  unfold maxLen at hlm
  have hd : (len : Int) - (at_ : Int) < (n : Int) := by omega
  go_enter Try.func158, Try.ntmps158
  go_wp2_with (go_quiet (fail))
  exact ⟨rfl, rfl, (gre w).trans ⟨rfl, rfl, rfl, Nat.le_refl _, fun _ _ => rfl⟩⟩

set_option maxRecDepth 100000 in
theorem passed_any (b : Nat) (sa : Option Addr) (len cap at_ : Nat) (w : World) (hc : Cur w b sa len cap at_) (hlc : len ≤ cap) (_hlm : len ≤ maxLen) (hat : at_ ≤ len) :
    Calls Try.prog 79 #[.pointer (some ⟨b, 0, none⟩)] w fun e w' => e = .returned (.slice sa at_ cap) ∧ Below w.heap.size w w' := by
  obtain ⟨hlt, c0, c1, hf⟩ := id hc
  have h0 : (0 : Int) ≤ (at_ : Int) := by omega
  have h1 : (at_ : Int) ≤ (cap : Int) := by omega
  go_enter Try.func79, Try.ntmps79
  go_wp2_with (go_quiet (fail))
  go_ret
  exact ⟨rfl, (gre w).trans ⟨rfl, rfl, rfl, Nat.le_refl _, fun _ _ => rfl⟩⟩

end Go.Proofs.Ythjddpkegooobab

/-
  WR: the program's writer. Own work.
-/
namespace Go.Proofs.Ythjddpkegooobab
open Go.RowKit

set_option maxRecDepth 100000 in
theorem bsOf_get {s : ByteArray} {i : Nat} (hi : i < s.size) : (Lib.byteCells s.data.toList)[i]? = some (.int .u8 (((bsOf s)[i]! : Nat) : Int)) := by
  have h1 : i < s.data.toList.length := by rw [Array.length_toList]; exact hi
  rw [getElem!_pos (bsOf s) i (by rw [bsOf_length]; exact hi)]
  simp [Lib.byteCells, bsOf, List.getElem?_eq_getElem h1]
set_option maxRecDepth 100000 in
theorem BRow.text {w : World} {a n : Nat} {xs : List Nat} {cur : Array Value} (hc : w.heap[a]? = some (.cells cur 5 (0, 0))) (h : BRow w a n xs) (s : ByteArray) (hl : xs.length + s.size ≤ n) :
    BRow (w.setRow a (cur.toList.take xs.length ++ Lib.byteCells s.data.toList ++ cur.toList.drop (xs.length + s.size)).toArray) a n (xs ++ bsOf s) := by
  obtain ⟨c, hc', hs, hl', hx⟩ := h
  rw [hc] at hc'
  obtain rfl : cur = c := by simpa using hc'
  have e1 : (cur.toList.take xs.length).length = xs.length := by rw [List.length_take]; exact Nat.min_eq_left (by show _ ≤ cur.size; omega)
  have e2 : (Lib.byteCells s.data.toList).length = s.size := by rw [Lib.byteCells_length, ← Lib.size_eq]
  refine ⟨_, setRow_heap _ _ _ _ _ _ hc, ?_, by rw [List.length_append, bsOf_length]; exact hl, fun i hi => ?_⟩
  · simp only [List.size_toArray, List.length_append, e1, e2, List.length_drop, Array.length_toList]; omega
  · rw [app_get hi]
    have hi' : i < xs.length + s.size := by rw [List.length_append, bsOf_length] at hi; exact hi
    rw [List.getElem?_toArray, List.append_assoc]
    split
    · rename_i h
      rw [List.getElem?_append_left (by omega), List.getElem?_take_of_lt h, Array.getElem?_toList]
      exact hx i h
    · rename_i h
      rw [List.getElem?_append_right (by omega), e1, List.getElem?_append_left (by omega)]
      exact bsOf_get (by omega)

/-- a writer that has written so much -/
structure Wr (w : World) (b a : Nat) (xs : List Nat) : Prop where
  cur : Cur w b (some ⟨a, 0, none⟩) 4096 4096 xs.length
  ne : a ≠ b
  row : BRow w a 4096 xs

set_option maxRecDepth 100000 in
theorem Wr.le {w : World} {b a : Nat} {xs : List Nat} (h : Wr w b a xs) : xs.length ≤ 4096 := by obtain ⟨c, _, _, hl, _⟩ := h.row; exact hl
theorem Wr.kept {p : Nat → Prop} {w w' : World} {b a : Nat} {xs : List Nat} (h : Wr w b a xs) (k : Kept p w w') (hb : ¬ p b) (ha : ¬ p a) : Wr w' b a xs := ⟨h.cur.kept k hb, h.ne, h.row.kept k ha⟩
theorem Wr.grow {w w' : World} {b a : Nat} {xs : List Nat} (h : Wr w b a xs) (k : Below w.heap.size w w') : Wr w' b a xs := h.kept (Kept.of_below k (fun _ => False)) (fun e => e) (fun e => e)

set_option maxRecDepth 100000 in
theorem Cur.setOther {w : World} {b : Nat} {sa : Option Addr} {len cap at_ : Nat} (h : Cur w b sa len cap at_) {p : Addr} (hp : b ≠ p.block) (u : Value) : Cur (w.setCell p u) b sa len cap at_ := h.same (Below.heap_setCell _ _ _ _ hp) (by have := h.lt; simpa [World.setCell] using this)

/-- what a writer's call leaves that writes so much -/
def WPost (b a : Nat) (xs ys : List Nat) (w : World) (e : Ending) (w' : World) : Prop :=
  Kept (fun k => k = b ∨ k = a) w w' ∧ ((xs.length + ys.length ≤ 4096 ∧ e = .returned (.tuple #[]) ∧ Wr w' b a (xs ++ ys)) ∨ (4096 < xs.length + ys.length ∧ e = .panicked [haltP]))

set_option maxRecDepth 100000 in
theorem writeByte_any (b a : Nat) (xs : List Nat) (x : Nat) (z : Int) (w : World) (hW : Wr w b a xs) (hz : z = (x : Int)) :
    Calls Try.prog 139 #[.pointer (some ⟨b, 0, none⟩), .int .u8 z] w (WPost b a xs [x] w) := by
  subst hz
  by_cases hl : xs.length + 1 ≤ 4096
  · go_enter Try.func139, Try.ntmps139
    go_wp2_with (go_at_call 158; refine (next_fits b _ 4096 4096 xs.length 1 _ hW.cur (by omega) (by decide) hl).mono ?_; rintro e w1 ⟨p, c, rfl, hp, hC, hK⟩; obtain rfl := hp (by omega) _ _ rfl; have hB := hW.row.kept hK hW.ne; obtain ⟨v, hv⟩ := hB.any (i := xs.length) (by omega); have hfz := hB.frozen xs.length)
    go_end0
    have hB2 := hB.push (by omega) x
    exact ⟨(hK.mono (q := fun k => k = b ∨ k = a) (fun _ _ h => Or.inl h)).set (fun _ => Or.inr rfl) _, Or.inl ⟨hl, rfl, ⟨by rw [List.length_append]; exact hC.setOther (fun e => hW.ne e.symm) _, hW.ne, hB2⟩⟩⟩
  · go_enter Try.func139, Try.ntmps139
    go_wp2_with (go_at_call 158; refine (next_not b _ 4096 4096 xs.length 1 _ hW.cur (by decide) hW.le (by omega)).mono ?_; rintro e w1 ⟨rfl, hb⟩)
    exact ⟨rfl, Kept.of_below hb _, Or.inr ⟨by show 4096 < xs.length + 1; omega, rfl⟩⟩

set_option maxRecDepth 100000 in
theorem writeText_any (b a : Nat) (xs : List Nat) (s : ByteArray) (w : World) (hW : Wr w b a xs) (hs : s.size ≤ 1000) :
    Calls Try.prog 118 #[.pointer (some ⟨b, 0, none⟩), .string s] w (WPost b a xs (bsOf s) w) := by
  have hbl := bsOf_length s
  by_cases hl : xs.length + s.size ≤ 4096
  · by_cases h0 : s.size = 0
    · obtain rfl : s = ⟨#[]⟩ := ByteArray.ext (Array.eq_empty_of_size_eq_zero h0)
      go_enter Try.func118, Try.ntmps118
      go_wp2_with (go_at_call 158; refine (next_fits b _ 4096 4096 xs.length 0 _ hW.cur (by omega) (by decide) hW.le).mono ?_; rintro e w1 ⟨p, c, rfl, hp, hC, hK⟩; have hB := hW.row.kept hK hW.ne; have hcp := Lib.run_copy_empty_string (P := Try.prog) w1 28 9 3 5 p 0 c ⟨#[]⟩ Try.underlying28 (by rw [size_byte]; rfl) rfl)
      go_end0
      have hbs : bsOf ⟨#[]⟩ = [] := rfl
      exact ⟨hK.mono (fun _ _ h => Or.inl h), Or.inl ⟨hl, rfl, ⟨by rw [hbs, List.append_nil]; exact hC, hW.ne, by rw [hbs, List.append_nil]; exact hB⟩⟩⟩
    · go_enter Try.func118, Try.ntmps118
      go_wp2_with (go_at_call 158; refine (next_fits b _ 4096 4096 xs.length s.size _ hW.cur (by omega) (by decide) hl).mono ?_; rintro e w1 ⟨p, c, rfl, hp, hC, hK⟩; obtain rfl := hp (by omega) _ _ rfl; have hB := hW.row.kept hK hW.ne; obtain ⟨cur, hcur, hcs, _⟩ := id hB; have hcp := Lib.run_copy_row_string (P := Try.prog) w1 28 9 3 5 a xs.length s.size c s cur 5 Try.underlying28 size_byte hcur (Nat.le_refl _) (by omega))
      go_end0
      have hB2 := hB.text hcur s hl
      rw [List.append_assoc] at hB2
      have hKs : Kept (fun k => k = a) w1 (w1.setRow a (cur.toList.take xs.length ++ (Lib.byteCells s.data.toList ++ cur.toList.drop (xs.length + s.size))).toArray) := ⟨rfl, rfl, rfl, by simp, fun k _ hn => setRow_other _ _ _ _ hn⟩
      exact ⟨(hK.mono (q := fun k => k = b ∨ k = a) (fun _ _ h => Or.inl h)).trans hKs (fun _ _ h => Or.inr h), Or.inl ⟨by omega, rfl, ⟨by rw [List.length_append, hbl]; exact hC.kept hKs (fun e => hW.ne e.symm), hW.ne, hB2⟩⟩⟩
  · go_enter Try.func118, Try.ntmps118
    go_wp2_with (go_at_call 158; refine (next_not b _ 4096 4096 xs.length s.size _ hW.cur (by decide) hW.le (by omega)).mono ?_; rintro e w1 ⟨rfl, hb⟩)
    exact ⟨rfl, Kept.of_below hb _, Or.inr ⟨by omega, rfl⟩⟩

set_option maxRecDepth 100000 in
theorem numB_pos (n : Nat) : 0 < (numB n).length := by
  by_cases h : n < 128
  · rw [numB_small h]; simp
  · rw [numB_great h]; simp
set_option maxRecDepth 100000 in
theorem or128 (m : Nat) : bits .or .u8 ((m : Int) % 256) 128 = ((m % 128 + 128 : Nat) : Int) := by
  rw [u8_or _ _ (by omega) (by omega) (by omega) (by omega)]
  have h1 : ((m : Int) % 256).toNat = m % 256 := by omega
  rw [h1]
  have h2 : m % 256 ||| 128 = m % 128 + 128 := by
    have hj := nat_join 7 128 (m % 128) (by decide) (by omega)
    by_cases hc : m % 256 < 128
    · rw [show m % 256 = m % 128 by omega, Nat.or_comm, hj]; omega
    · rw [show m % 256 = 128 + m % 128 by omega, ← hj, Nat.or_comm, ← Nat.or_assoc, Nat.or_self, hj]; omega
  show ((m % 256 ||| 128 : Nat) : Int) = _
  rw [h2]

set_option maxRecDepth 100000 in
theorem writeNumber_any (b a : Nat) (xs : List Nat) (n : Nat) (z : Int) (w : World) (hW : Wr w b a xs) (hz : z = (n : Int)) (hn : n < 18446744073709551616) :
    Calls Try.prog 135 #[.pointer (some ⟨b, 0, none⟩), .int .u64 z] w (WPost b a xs (numB n) w) := by
  subst hz
  go_enter Try.func135, Try.ntmps135
  go_wp2
  go_loopw [1] (fun i ws => ∃ (m : Nat) (ys : List Nat), i = .int .u64 m ∧ Hid (numB n = ys ++ numB m) ∧ m < 18446744073709551616 ∧ Wr ws b a (xs ++ ys) ∧ Kept (fun k => k = b ∨ k = a) w ws) (fun i _ => (intOf i).toNat)
  case atStart => exact ⟨n, [], rfl, rfl, hn, by rw [List.append_nil]; exact hW, Kept.refl _ _⟩
  case round =>
    obtain ⟨m, ys, rfl, hm, hm64, hWm, hK⟩ := hrel
    have hp := numB_pos m
    by_cases hlt : m < 128
    · have hd : ¬ ((128 : Int) ≤ (m : Int)) := by omega
      have e1 : Hid (numB n = ys ++ [m]) := by rw [numB_small hlt] at hm; exact hm
      have e2 : (m : Int) % 256 = (m : Int) := by omega
      go_wp2_with (go_at_call 139; refine (writeByte_any b a _ m _ _ hWm ?_).mono ?_; (first | rfl | exact e2); rintro e w1 ⟨hK1, ⟨hf, rfl, hW1⟩ | ⟨hno, rfl⟩⟩)
      · go_end0
        refine ⟨hK.trans hK1 (fun _ _ h => h), Or.inl ⟨?_, rfl, ?_⟩⟩
        · rw [e1.out]; simp at hf ⊢; omega
        · rw [e1.out, ← List.append_assoc]; exact hW1
      · refine ⟨rfl, hK.trans hK1 (fun _ _ h => h), Or.inr ⟨?_, rfl⟩⟩
        rw [e1.out]; simp at hno ⊢; omega
    · have hd : ((128 : Int) ≤ (m : Int)) := by omega
      have e1 : Hid (numB n = (ys ++ [m % 128 + 128]) ++ numB (m / 128)) := by rw [numB_great hlt] at hm; show numB n = _; rw [hm.out]; simp
      have e3 := or128 m
      go_wp2_with (go_at_call 139; refine (writeByte_any b a _ (m % 128 + 128) _ _ hWm ?_).mono ?_; (first | rfl | exact e3); rintro e w1 ⟨hK1, ⟨hf, rfl, hW1⟩ | ⟨hno, rfl⟩⟩)
      · go_roundw
        case rel => exact ⟨m / 128, ys ++ [m % 128 + 128], by go_num, e1, by omega, by rw [← List.append_assoc]; exact hW1, hK.trans hK1 (fun _ _ h => h)⟩
        case measure => simp [intOf]; omega
      · refine ⟨rfl, hK.trans hK1 (fun _ _ h => h), Or.inr ⟨?_, rfl⟩⟩
        rw [e1.out]; simp at hno ⊢; omega

end Go.Proofs.Ythjddpkegooobab

/-
  WR2: the program's writer: words, values. Own work.
-/
namespace Go.Proofs.Ythjddpkegooobab
open Go.RowKit

set_option maxRecDepth 100000 in
theorem word_byte (n : Int) (k : Nat) (hk : k < 8) : n / 2 ^ (8 * k) % 256 = ((u64n n / 256 ^ k % 256 : Nat) : Int) := by
  unfold u64n
  have h : k = 0 ∨ k = 1 ∨ k = 2 ∨ k = 3 ∨ k = 4 ∨ k = 5 ∨ k = 6 ∨ k = 7 := by omega
  rcases h with rfl | rfl | rfl | rfl | rfl | rfl | rfl | rfl <;> simp only [Nat.reduceMul, Int.reducePow, Nat.reducePow] <;> omega

set_option maxRecDepth 100000 in
theorem writeWord_any (b a : Nat) (xs : List Nat) (n : Int) (w : World) (hW : Wr w b a xs) (_hn : I64 n) :
    Calls Try.prog 77 #[.pointer (some ⟨b, 0, none⟩), .int .i64 n] w (WPost b a xs (lowB 8 (u64n n)) w) := by
  go_enter Try.func77, Try.ntmps77
  go_wp2
  go_loopw [5] (fun i ws => ∃ (k : Nat), i = .int .i64 k ∧ k ≤ 8 ∧ Wr ws b a (xs ++ lowB k (u64n n)) ∧ Kept (fun k => k = b ∨ k = a) w ws) (fun i _ => 8 - (intOf i).toNat)
  case atStart => exact ⟨0, rfl, by omega, by rw [lowB, List.append_nil]; exact hW, Kept.refl _ _⟩
  case round =>
    obtain ⟨k, rfl, hk, hWm, hK⟩ := hrel
    by_cases hlt : k < 8
    · have hd : (k : Int) < 8 := by omega
      go_wp2_with (go_at_call 139; refine (writeByte_any b a _ (u64n n / 256 ^ k % 256) _ _ hWm (word_byte n k hlt)).mono ?_; rintro e w1 ⟨hK1, ⟨hf, rfl, hW1⟩ | ⟨hno, rfl⟩⟩)
      · go_roundw
        case rel => exact ⟨k + 1, by go_num, by omega, by rw [lowB_snoc, ← List.append_assoc]; exact hW1, hK.trans hK1 (fun _ _ h => h)⟩
        case measure => simp [intOf]; omega
      · refine ⟨rfl, hK.trans hK1 (fun _ _ h => h), Or.inr ⟨?_, rfl⟩⟩
        rw [lowB_length]; simp [lowB_length] at hno; omega
    · obtain rfl : k = 8 := by omega
      go_wp2
      go_end0
      refine ⟨hK, Or.inl ⟨?_, rfl, hWm⟩⟩
      have := hWm.le
      simpa [List.length_append] using this

set_option maxRecDepth 100000 in
theorem xor_ones (x : Nat) (h : x < 18446744073709551616) : x ^^^ 18446744073709551615 = 18446744073709551615 - x := by
  have h1 := congrArg BitVec.toNat (BitVec.xor_allOnes (x := BitVec.ofNat 64 x))
  rw [BitVec.toNat_xor, BitVec.toNat_not, BitVec.toNat_allOnes, BitVec.toNat_ofNat, Nat.mod_eq_of_lt h] at h1
  exact h1
set_option maxRecDepth 100000 in
theorem zig_bits (n : Int) (hn : I64 n) : bits .xor .u64 (IntKind.u64.wrap (IntKind.u64.wrap n * 2)) (IntKind.u64.wrap (n / 9223372036854775808)) = (zig n : Int) := by
  unfold I64 at hn
  rw [IntKind.wrap_u64, IntKind.wrap_u64, IntKind.wrap_u64]
  unfold zig
  split
  · have e1 : n / 9223372036854775808 % 18446744073709551616 = 18446744073709551615 := by omega
    rw [e1, u64_xor _ _ (by omega) (by omega) (by omega) (by omega)]
    have e2 : (18446744073709551615 : Int).toNat = 18446744073709551615 := rfl
    rw [e2, xor_ones _ (by omega)]
    omega
  · have e1 : n / 9223372036854775808 % 18446744073709551616 = 0 := by omega
    rw [e1, u64_xor _ _ (by omega) (by omega) (by omega) (by omega)]
    have e2 : (0 : Int).toNat = 0 := rfl
    rw [e2, Nat.xor_zero]
    omega

set_option maxRecDepth 100000 in
theorem unsigned_any (n : Int) (w : World) (hn : I64 n) :
    Calls Try.prog 167 #[.int .i64 n] w fun e w' => e = .returned (.int .u64 (zig n : Int)) ∧ Below w.heap.size w w' := by
  have hz := zig_bits n hn
  go_enter Try.func167, Try.ntmps167
  go_wp2
  go_ret
  exact ⟨rfl, gre _⟩

end Go.Proofs.Ythjddpkegooobab
