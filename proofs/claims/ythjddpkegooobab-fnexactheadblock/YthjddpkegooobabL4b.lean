/-
  L4B: a head's block, as the specification writes it. Own work.
-/
import Derived.Test.YthjddpkegooobabOb2
import Derived.Test.YthjddpkegooobabSum
import Derived.Laws.OwnMore
import Derived.Deep.Cut
namespace Go.Proofs.Ythjddpkegooobab
open Go.RowKit

/-- a head -/
abbrev headV (ok : Bool) (gen len sum : Int) : Value := .agg #[.bool ok, .int .i64 gen, .int .i64 len, .int .i64 sum]
def headOkB (ok : Bool) (gen len : Int) : Bool := ok && decide (1 ≤ gen) && decide (gen ≤ 1000000000000) && decide (1 ≤ len) && decide (len ≤ 4096)
/-- its numbers -/
def headN (gen len sum : Int) : List Nat := [72, 69, 65, 68] ++ lowB 8 (u64n gen) ++ lowB 8 (u64n len) ++ lowB 8 (u64n sum)
/-- its block -/
def headB (gen len sum : Int) : List Nat := headN gen len sum ++ lowB 8 (sumN (headN gen len sum)) ++ List.replicate 28 0
theorem headN_length (gen len sum : Int) : (headN gen len sum).length = 28 := by simp [headN, lowB_length]
theorem headB_length (gen len sum : Int) : (headB gen len sum).length = 64 := by simp [headB, headN_length, lowB_length]

theorem owns_atH {w : World} {base n cap : Nat} {a : Option Addr} {bs : List Nat} (h : w.ownsRow base 5 1 (.slice a n cap) bs.length (bcells bs)) : BytesAt w a bs := fun i hi => by
  obtain ⟨g, ha, _, _, hc⟩ := owns_cell h (bcells_get hi)
  exact ⟨g, 0, ha, by rw [Nat.zero_add]; exact hc⟩

def sliceN : Value → Nat
  | .slice _ n _ => n
  | _ => 0

structure HBox (w : World) (p : Nat) (ok : Bool) (gen len sum : Int) : Prop where
  lt : p < w.heap.size
  c0 : w.cell? ⟨p, 0, none⟩ = some (.bool ok)
  c1 : w.cell? ⟨p, 1, none⟩ = some (.int .i64 gen)
  c2 : w.cell? ⟨p, 2, none⟩ = some (.int .i64 len)
  c3 : w.cell? ⟨p, 3, none⟩ = some (.int .i64 sum)
theorem HBox.new (w : World) (ok : Bool) (gen len sum : Int) (t : TypeId) : HBox (w.alloc (.cells #[.bool ok, .int .i64 gen, .int .i64 len, .int .i64 sum] t)) w.heap.size ok gen len sum := ⟨by simp, by simp, by simp, by simp, by simp⟩
theorem HBox.kept {p : Nat → Prop} {w w' : World} {b : Nat} {ok : Bool} {gen len sum : Int} (h : HBox w b ok gen len sum) (k : Kept p w w') (hn : ¬ p b) : HBox w' b ok gen len sum :=
  ⟨Nat.lt_of_lt_of_le h.lt k.size, k.cell h.c0 hn, k.cell h.c1 hn, k.cell h.c2 hn, k.cell h.c3 hn⟩

set_option maxRecDepth 100000 in
theorem l4headok_any (ok : Bool) (gen len sum : Int) (w : World) :
    Calls Try.prog 116 #[headV ok gen len sum] w fun e w' => e = .returned (.bool (headOkB ok gen len)) ∧ Below w.heap.size w w' := by
  go_enter Try.func116, Try.ntmps116
  go_wp2
  all_goals
    go_ret
    refine ⟨?_, gal (gre _) _⟩
    simp_all [headOkB]
    try omega

set_option maxHeartbeats 2000000 in
set_option maxRecDepth 100000 in
theorem l4block_any (ok : Bool) (gen len sum : Int) (w : World) :
    Calls Try.prog 117 #[headV ok gen len sum] w fun e w' => ∃ oa c, e = .returned (.slice oa (headB gen len sum).length c) ∧ w'.ownsRow w.heap.size 5 1 (.slice oa (headB gen len sum).length c) (headB gen len sum).length (bcells (headB gen len sum)) ∧ Below w.heap.size w w' := by
  obtain ⟨i0, hi, hz0, hz1, hz2⟩ := info_parts info_u8
  have g6 : IntKind.u64.wrap gen = ((u64n gen : Nat) : Int) := by rw [IntKind.wrap_u64]; unfold u64n; omega
  have l6 : IntKind.u64.wrap len = ((u64n len : Nat) : Int) := by rw [IntKind.wrap_u64]; unfold u64n; omega
  have s6 : IntKind.u64.wrap sum = ((u64n sum : Nat) : Int) := by rw [IntKind.wrap_u64]; unfold u64n; omega
  have hb1 : ∀ x, x ∈ headN gen len sum → x < 256 := fun x hx => by
    unfold headN at hx
    rcases List.mem_append.1 hx with hx | hx
    · rcases List.mem_append.1 hx with hx | hx
      · rcases List.mem_append.1 hx with hx | hx
        · simp at hx; omega
        · exact lowB_byte _ _ _ hx
      · exact lowB_byte _ _ _ hx
    · exact lowB_byte _ _ _ hx
  obtain ⟨wA, hwA⟩ : ∃ wA, Hid (wA = w.alloc (.cells #[.bool ok, .int .i64 gen, .int .i64 len, .int .i64 sum] 74)) := ⟨_, rfl⟩
  have hsA : wA.heap.size = w.heap.size + 1 := by rw [hwA.out]; simp
  have hHA : HBox wA w.heap.size ok gen len sum := by rw [hwA.out]; exact HBox.new w ok gen len sum _
  have hKA : Kept (fun _ => False) w wA := by rw [hwA.out]; exact (Kept.refl _ w).alloc _
  have hO0 := World.ownsRow_lit (base := w.heap.size + 1) (e := 5) (size := 1) wA #[.int .u8 72, .int .u8 69, .int .u8 65, .int .u8 68] 4 (by omega) (by decide) rfl
  have hK0 : Kept (fun _ => False) wA (wA.alloc (.cells #[.int .u8 72, .int .u8 69, .int .u8 65, .int .u8 68] 5)) := (Kept.refl _ wA).alloc _
  have hH0 := hHA.kept hK0 (fun e => e)
  have hKw := hKA.trans hK0 (fun _ _ e => e)
  have hs0 : (wA.alloc (.cells #[.int .u8 72, .int .u8 69, .int .u8 65, .int .u8 68] 5)).heap.size = w.heap.size + 1 + 1 := by simp [hsA]
  rw [hsA] at hO0
  go_enter Try.func117, Try.ntmps117
  go_upto_region 2 with fail
  rw [← hwA.out]
  generalize wA.alloc (.cells #[.int .u8 72, .int .u8 69, .int .u8 65, .int .u8 68] 5) = wB at hO0 hH0 hKw hs0 ⊢
  clear hK0 hHA hKA
  obtain ⟨zs, hzs⟩ := hid_ex ([72, 69, 65, 68] : List Nat)
  replace hO0 : wB.ownsRow (w.heap.size + 1) 5 1 (.slice (some ⟨w.heap.size + 1, 0, none⟩) zs.length 4) zs.length (bcells zs) := by rw [hzs.out]; exact hO0
  have hz4 : Hid (zs.length = 4) := by show _ = _; rw [hzs.out]; rfl
  have hlow : ∀ n, (lowB 8 n).length = 8 := lowB_length 8
  obtain ⟨_, _, b1, b2, b3⟩ := id hH0
  go_wp2_with (first
    | (go_at_call 130; refine (l2eight_any (w.heap.size + 1) oa3 z3.length c3 z3 (sumN z3) _ w5 rfl rfl (sumN_lt z3) (by have := hb5.size; have := hQ3.kept.size; have := hQ2.kept.size; have := hQ1.kept.size; omega) (by have := hl3.out; omega) ((Kept.of_below hb5 (fun _ => False)).owns hQ3.own (fun _ _ e => e))).mono ?_; rintro e w6 ⟨oa4, c4, rfl, hQ4⟩; obtain ⟨z4, hz4'⟩ := hid_ex (z3 ++ lowB 8 (sumN z3)); rw [← hz4'.out] at hQ4 ⊢)
    | (go_at_call 131; refine (l2sum_any oa3 z3 c3 w4 (owns_atH hQ3.own) (by have := hl3.out; unfold maxLen; omega) hb3).mono ?_; rintro e w5 ⟨rfl, hb5⟩)
    | (go_at_call 130; refine (l2eight_any (w.heap.size + 1) oa2 z2.length c2 z2 (u64n sum) _ w3 rfl (by first | rfl | exact s6) (u64n_lt sum) (by have := hQ2.kept.size; have := hQ1.kept.size; omega) (by have := hl2.out; omega) hQ2.own).mono ?_; rintro e w4 ⟨oa3, c3, rfl, hQ3⟩; obtain ⟨z3, hz3'⟩ := hid_ex (z2 ++ lowB 8 (u64n sum)); rw [← hz3'.out] at hQ3 ⊢; have hl3 : Hid (z3.length = 28) := (by show _ = _; rw [hz3'.out, List.length_append, hl2.out, hlow]); have hz3n : Hid (z3 = headN gen len sum) := (by show _ = _; rw [hz3'.out, hz2'.out, hz1'.out, hzs.out]; rfl); have hb3 : ∀ x, x ∈ z3 → x < 256 := (by rw [hz3n.out]; exact hb1))
    | (go_at_call 130; refine (l2eight_any (w.heap.size + 1) oa1 z1.length c1 z1 (u64n len) _ w2 rfl (by first | rfl | exact l6) (u64n_lt len) (by have := hQ1.kept.size; omega) (by have := hl1.out; omega) hQ1.own).mono ?_; rintro e w3 ⟨oa2, c2, rfl, hQ2⟩; obtain ⟨z2, hz2'⟩ := hid_ex (z1 ++ lowB 8 (u64n len)); rw [← hz2'.out] at hQ2 ⊢; have hl2 : Hid (z2.length = 20) := (by show _ = _; rw [hz2'.out, List.length_append, hl1.out, hlow]); have hH3 := hH2.kept hQ2.kept (fun e => (by have := (hQ1.lt e).1; omega)); obtain ⟨_, _, d1, d2, d3⟩ := id hH3)
    | (go_at_call 130; refine (l2eight_any (w.heap.size + 1) _ 4 4 zs (u64n gen) _ wB hz4.out.symm (by first | rfl | exact g6) (u64n_lt gen) (by omega) (by have := hz4.out; omega) hO0).mono ?_; rintro e w2 ⟨oa1, c1, rfl, hQ1⟩; obtain ⟨z1, hz1'⟩ := hid_ex (zs ++ lowB 8 (u64n gen)); rw [← hz1'.out] at hQ1 ⊢; have hl1 : Hid (z1.length = 12) := (by show _ = _; rw [hz1'.out, List.length_append, hz4.out, hlow]); have hH2 := hH0.kept hQ1.kept (fun e => (by have := some_addr e; omega)); obtain ⟨_, _, e1, e2, e3⟩ := id hH2))
  have hK6 : Kept (fun _ => False) w w6 := ((((hKw.trans hQ1.kept (fun k hk e => by have := some_addr e; omega)).trans hQ2.kept (fun k hk e => by have := (hQ1.lt e).1; omega)).trans hQ3.kept (fun k hk e => by have := (hQ2.lt e).1; omega)).trans (Kept.of_below hb5 (fun _ => False)) (fun _ _ e => e)).trans hQ4.kept (fun k hk e => by have := (hQ3.lt e).1; omega)
  have hl4 : Hid (z4.length = 36) := by show _ = _; rw [hz4'.out, List.length_append, hl3.out, hlow]
  have hfin : Hid (z4 ++ List.replicate 28 0 = headB gen len sum) := by show _ = _; rw [hz4'.out, hz3n.out]; rfl
  have hO6 := owns_le hQ4.own (show w.heap.size ≤ w.heap.size + 1 by omega)
  clear hQ1 hQ2 hQ3 hQ4 hH0 hH2 hH3 hO0 hKw b1 b2 b3 d1 d2 d3 e1 e2 e3 g6 l6 s6
  go_loopw [3] (fun v ws => ∃ (j : Nat) (ys : List Nat) (oa : Option Addr) (c : Nat), v = .slice oa ys.length c ∧ ys.length + j = 64 ∧ Hid (ys ++ List.replicate j 0 = headB gen len sum) ∧ ws.ownsRow w.heap.size 5 1 (.slice oa ys.length c) ys.length (bcells ys) ∧ Hid (Kept (fun _ => False) w ws)) (fun v _ => 64 - sliceN v)
  case atStart => exact ⟨28, z4, oa4, c4, rfl, by have := hl4.out; omega, hfin, hO6, hK6⟩
  case round =>
    obtain ⟨j, ys, oa, c, rfl, hj, hy, hO, hK⟩ := hrel
    by_cases hlt : ys.length < 64
    · have hd : (ys.length : Int) < 64 := by omega
      have hsK := hK.out.size
      go_wp2_with (at_builtin; refine wpList_append_lies _ rfl (.tmp 27) (.tmp 28) 28 rfl w.heap.size 5 i0 (.int .u8 0) 1 1 Try.underlying28 hi hz0 hz1 hz2 rfl (by decide) _ _ _ rfl (hO.alloc _) ⟨wr.heap.size, 0, none⟩ 1 1 [.int .u8 0] rfl rfl (World.news_of_block (cs := #[.int .u8 0]) (t := 5) (fr := (0, 0)) (blk_new_at _ _ _ (by simp))) (by simp [Value.oneCell']) (by decide) (by unfold maxLen; omega) (by omega) (by simp; omega) (wr.heap.size + 1) (by simp) ?_; intro g2 cap2 w7 hown7 hgrow7 hat7 hlt7)
      have hG := Kept.of_grown hgrow7
      have hA : Kept (fun _ => False) wr (wr.alloc (.cells #[.int .u8 0] 5)) := (Kept.refl _ wr).alloc _
      go_roundw
      case rel =>
        refine ⟨j - 1, ys ++ [0], some ⟨g2, 0, none⟩, cap2, by simp, by simp; omega, ?_, by simpa [bcells_snoc] using hown7, (hK.out.trans hA (fun _ _ e => e)).trans hG (fun k hk e => by have := (hO.lt _ e).1; omega)⟩
        show ys ++ [0] ++ List.replicate (j - 1) 0 = headB gen len sum
        rw [← hy.out, List.append_assoc]
        congr 1
        rw [show j = j - 1 + 1 by omega, List.replicate_succ]
        simp
      case measure => simp [sliceN]; omega
    · obtain rfl : j = 0 := by omega
      have hd : ¬ ((ys.length : Int) < 64) := by omega
      have e : ys = headB gen len sum := by rw [← hy.out]; simp
      go_wp2
      go_ret
      subst e
      exact ⟨oa, c, rfl, hO, hK.out.below (Nat.le_refl _) (fun k hk e => e)⟩

end Go.Proofs.Ythjddpkegooobab
