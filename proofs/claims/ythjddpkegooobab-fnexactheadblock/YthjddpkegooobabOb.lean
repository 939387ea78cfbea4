/-
  OB: bytes that are appended to. Own work.
-/
import Derived.Test.YthjddpkegooobabBRow
import Derived.Test.YthjddpkegooobabImgPlain
import Derived.Lib.AppendStr
import Derived.Laws.BitsAllLaws
namespace Go.Proofs.Ythjddpkegooobab
open Go.RowKit

/-- bytes of one's own, since a world -/
structure Ob (w0 : World) (base : Nat) (oa0 : Option Addr) (w : World) (oa : Option Addr) (cap : Nat) (zs : List Nat) : Prop where
  own : w.ownsRow base 5 1 (.slice oa zs.length cap) zs.length (bcells zs)
  loc : ∀ k, k < w0.heap.size → oa = some ⟨k, 0, none⟩ → oa0 = some ⟨k, 0, none⟩
  kept : Kept (fun k => oa0 = some ⟨k, 0, none⟩) w0 w

set_option maxRecDepth 100000 in
theorem Ob.start {base : Nat} {w : World} {oa : Option Addr} {cap : Nat} {zs : List Nat} (h : w.ownsRow base 5 1 (.slice oa zs.length cap) zs.length (bcells zs)) : Ob w base oa w oa cap zs := ⟨h, fun _ _ e => e, Kept.refl _ _⟩
theorem Ob.lt {w0 w : World} {base : Nat} {oa0 oa : Option Addr} {cap : Nat} {zs : List Nat} (h : Ob w0 base oa0 w oa cap zs) {k : Nat} (e : oa = some ⟨k, 0, none⟩) : base ≤ k ∧ k < w.heap.size := h.own.lt k (by rw [e]; rfl)
theorem Ob.grow {w0 w w' : World} {base : Nat} {oa0 oa : Option Addr} {cap : Nat} {zs : List Nat} (h : Ob w0 base oa0 w oa cap zs) (hb : Below w.heap.size w w') : Ob w0 base oa0 w' oa cap zs :=
  ⟨(Kept.of_below hb (fun _ => False)).owns h.own (fun _ _ e => e), h.loc, h.kept.trans (Kept.of_below hb _) (fun _ _ e => e)⟩
set_option maxRecDepth 100000 in
theorem Ob.call {w0 w w1 : World} {base : Nat} {oa0 oa oa1 : Option Addr} {cap cap1 : Nat} {zs ys : List Nat} (h : Ob w0 base oa0 w oa cap zs) (k : Ob w base oa w1 oa1 cap1 ys) : Ob w0 base oa0 w1 oa1 cap1 ys :=
  ⟨k.own, fun b hb e => h.loc b hb (k.loc b (Nat.lt_of_lt_of_le hb h.kept.size) e), h.kept.trans k.kept (fun b hb e => h.loc b hb e)⟩
theorem Ob.push {w0 w wa w1 : World} {base : Nat} {oa0 oa : Option Addr} {cap cap1 g : Nat} {zs ys : List Nat} (h : Ob w0 base oa0 w oa cap zs) (hb : Below w.heap.size w wa)
    (hown : w1.ownsRow base 5 1 (.slice (some ⟨g, 0, none⟩) (zs.length + ys.length) cap1) (zs.length + ys.length) (bcells zs ++ bcells ys)) (hgrow : wa.grownBy w1 (Value.slice oa zs.length cap).ownBlock)
    (hat : (Value.slice oa zs.length cap).ownBlock = some g ∨ w.heap.size ≤ g) : Ob w0 base oa0 w1 (some ⟨g, 0, none⟩) cap1 (zs ++ ys) := by
  refine ⟨?_, fun k hk e => ?_, ?_⟩
  · rw [List.length_append, show bcells (zs ++ ys) = bcells zs ++ bcells ys by simp [bcells]]; exact hown
  · have e2 := some_addr e
    subst e2
    rcases hat with hg | hg
    · exact h.loc g hk (owns_addr h.own hg)
    · have := h.kept.size; omega
  · exact (h.kept.trans (Kept.of_below hb _) (fun _ _ e => e)).trans (Kept.of_grown hgrow) (fun k hk e => h.loc k hk (owns_addr h.own e))

/-- what a call leaves that appends so much -/
def APost (base : Nat) (oa : Option Addr) (xs ys : List Nat) (w : World) (e : Ending) (w' : World) : Prop :=
  ∃ oa' cap', e = .returned (.slice oa' (xs ++ ys).length cap') ∧ Ob w base oa w' oa' cap' (xs ++ ys)

set_option maxRecDepth 100000 in
theorem numB_len : ∀ (f n : Nat), n < 128 ^ f → 0 < f → (numB n).length ≤ f
  | 0, _, _, h => absurd h (Nat.lt_irrefl _)
  | f + 1, n, hn, _ => by
    by_cases h : n < 128
    · rw [numB_small h]; simp
    · rw [numB_great h]
      have hf : 0 < f := by
        rcases Nat.eq_zero_or_pos f with rfl | h2
        · simp at hn; omega
        · exact h2
      have := numB_len f (n / 128) (by rw [Nat.div_lt_iff_lt_mul (by omega)]; rw [Nat.pow_succ] at hn; exact hn) hf
      simp only [List.length_cons]
      omega
set_option maxRecDepth 100000 in
theorem numB_ten {n : Nat} (h : n < 18446744073709551616) : (numB n).length ≤ 10 := numB_len 10 n (Nat.lt_of_lt_of_le h (by decide)) (by omega)

theorem and_or128 (m : Nat) (hm : m < 18446744073709551616) : IntKind.u8.wrap (bits .or .u64 (bits .and .u64 (m : Int) 127) 128) = ((m % 128 + 128 : Nat) : Int) := by
  have e1 : bits .and .u64 (m : Int) 127 = ((m % 128 : Nat) : Int) := by
    rw [u64_and _ _ (by omega) (by omega) (by omega) (by omega)]
    have h1 : (127 : Int).toNat = 127 := rfl
    rw [h1, Int.toNat_natCast, nat_mask7]
  have e2 : bits .or .u64 ((m % 128 : Nat) : Int) 128 = ((m % 128 + 128 : Nat) : Int) := by
    rw [u64_or _ _ (by omega) (by omega) (by omega) (by omega)]
    have h1 : (128 : Int).toNat = 128 := rfl
    rw [h1, Int.toNat_natCast, Nat.or_comm, nat_join 7 128 (m % 128) (by decide) (by omega)]
    omega
  rw [e1, e2, IntKind.wrap_u8']
  omega

set_option maxRecDepth 100000 in
theorem l2num_any (base : Nat) (oa : Option Addr) (len cap : Nat) (xs : List Nat) (n : Nat) (z : Int) (w : World) (hlen : len = xs.length) (hz : z = (n : Int)) (hn : n < 18446744073709551616) (hbase : base ≤ w.heap.size) (hl : xs.length ≤ 1099511627776)
    (hO : w.ownsRow base 5 1 (.slice oa xs.length cap) xs.length (bcells xs)) :
    Calls Try.prog 128 #[.slice oa len cap, .int .u64 z] w (APost base oa xs (numB n) w) := by
  subst hz hlen
  obtain ⟨i0, hi, hz0, hz1, hz2⟩ := info_parts info_u8
  have hten := numB_ten hn
  go_enter Try.func128, Try.ntmps128
  go_wp2
  go_loopw [0, 1] (fun o i ws => ∃ (m : Nat) (ys zs : List Nat) (oa1 : Option Addr) (cap1 : Nat), o = .slice oa1 zs.length cap1 ∧ i = .int .u64 m ∧ Hid (zs = xs ++ ys) ∧ Hid (numB n = ys ++ numB m) ∧ m < 18446744073709551616 ∧ Ob w base oa ws oa1 cap1 zs) (fun _ i _ => (intOf i).toNat)
  case atStart => exact ⟨n, [], xs, oa, cap, rfl, rfl, (List.append_nil _).symm, rfl, hn, Ob.start hO⟩
  case round =>
    obtain ⟨m, ys, zs, oa1, cap1, rfl, rfl, hzs, hm, hm64, hOb⟩ := hrel
    have hyl : zs.length ≤ xs.length + 10 := by
      have h1 := congrArg List.length hm.out
      rw [hzs.out]
      simp only [List.length_append] at h1 ⊢
      omega
    have hsz := hOb.kept.size
    by_cases hlt : m < 128
    · have hd : ¬ ((127 : Int) < (m : Int)) := by omega
      have e2 : IntKind.u8.wrap (m : Int) = (m : Int) := by rw [IntKind.wrap_u8']; omega
      go_wp2_with (at_builtin; refine wpList_append_lies _ rfl (.tmp 16) (.tmp 19) 28 rfl base 5 i0 (.int .u8 0) 1 1 Try.underlying28 hi hz0 hz1 hz2 rfl (by decide) _ _ _ rfl (hOb.own.alloc _) ⟨wr.heap.size, 0, none⟩ 1 1 [.int .u8 (m : Int)] rfl rfl (World.news_of_block (cs := #[.int .u8 (m : Int)]) (t := 5) (fr := (0, 0)) (blk_new_at _ _ _ (by simp))) (by simp [Value.oneCell']) (by decide) (by unfold maxLen; omega) (by omega) (by simp; omega) (wr.heap.size + 1) (by simp) ?_; intro g cap2 w1 hown1 hgrow hat hlt2)
      go_ret
      have hP := hOb.push (ys := [m]) (gal (gre _) _) hown1 hgrow (hat.elim Or.inl (fun h => Or.inr (by omega)))
      have e3 : zs ++ [m] = xs ++ numB n := by rw [hm.out, hzs.out, numB_small hlt, List.append_assoc]
      rw [e3] at hP
      exact ⟨_, cap2, by rw [← e3]; simp, hP⟩
    · have hd : ((127 : Int) < (m : Int)) := by omega
      obtain ⟨x, hx⟩ : ∃ x, Hid (x = m % 128 + 128) := ⟨_, rfl⟩
      have e2 : IntKind.u8.wrap (bits .or .u64 (bits .and .u64 (m : Int) 127) 128) = (x : Int) := by rw [hx.out]; exact and_or128 m hm64
      go_wp2_with (at_builtin; refine wpList_append_lies _ rfl (.tmp 7) (.tmp 12) 28 rfl base 5 i0 (.int .u8 0) 1 1 Try.underlying28 hi hz0 hz1 hz2 rfl (by decide) _ _ _ rfl (hOb.own.alloc _) ⟨wr.heap.size, 0, none⟩ 1 1 [.int .u8 (x : Int)] rfl rfl (World.news_of_block (cs := #[.int .u8 (x : Int)]) (t := 5) (fr := (0, 0)) (blk_new_at _ _ _ (by simp))) (by simp [Value.oneCell']) (by decide) (by unfold maxLen; omega) (by omega) (by simp; omega) (wr.heap.size + 1) (by simp) ?_; intro g cap2 w1 hown1 hgrow hat hlt2)
      have hP := hOb.push (ys := [x]) (gal (gre _) _) hown1 hgrow (hat.elim Or.inl (fun h => Or.inr (by omega)))
      go_roundw
      case rel =>
        refine ⟨m / 128, ys ++ [x], zs ++ [x], _, _, by simp, by go_num, by show _ = _; rw [hzs.out, List.append_assoc], ?_, by omega, hP⟩
        show _ = _
        rw [hm.out, numB_great hlt, hx.out]; simp
      case measure => simp [intOf]; omega

end Go.Proofs.Ythjddpkegooobab
