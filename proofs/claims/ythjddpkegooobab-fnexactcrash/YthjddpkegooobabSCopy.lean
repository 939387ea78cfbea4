/-
  SCOPY: the specification's copy of bytes. Own work.
-/
import Derived.Test.YthjddpkegooobabDrvG
namespace Go.Proofs.Ythjddpkegooobab
open Go.RowKit

theorem owns_bytes {w : World} {base t cap : Nat} {a : Option Addr} {bs : List Nat} (h : w.ownsRow base t 1 (.slice a bs.length cap) bs.length (bcells bs)) : BytesAt w a bs := fun i hi => by
  obtain ⟨g, ha, _, _, hc⟩ := owns_cell h (bcells_get hi)
  exact ⟨g, 0, ha, by rw [Nat.zero_add]; exact hc⟩
theorem owns_isB {w : World} {base size n cap : Nat} {a : Option Addr} {xs : List Value} (h : w.ownsRow base 5 size (.slice a n cap) n xs) {z : Nat} (hz : (Value.slice a n cap).ownBlock = some z) : IsB w z ∧ base ≤ z := by
  have ha := owns_addr h hz
  rcases h.2 with ⟨e, _⟩ | ⟨g, cap', cur, hv, hb, hg, _⟩
  · simp at e
    rw [e.1] at ha
    cases ha
  · simp only [Value.slice.injEq] at hv
    rw [ha] at hv
    obtain rfl := some_addr hv.1
    exact ⟨⟨cur, hg⟩, hb⟩
/-- a block of lists of bytes -/
def IsS (w : World) (b : Nat) : Prop := ∃ c, w.heap[b]? = some (.cells c 28 (0, 0))
theorem owns_isS {w : World} {base size n cap : Nat} {a : Option Addr} {xs : List Value} (h : w.ownsRow base 28 size (.slice a n cap) n xs) {z : Nat} (hz : (Value.slice a n cap).ownBlock = some z) : IsS w z ∧ base ≤ z := by
  have ha := owns_addr h hz
  rcases h.2 with ⟨e, _⟩ | ⟨g, cap', cur, hv, hb, hg, _⟩
  · simp at e
    rw [e.1] at ha
    cases ha
  · simp only [Value.slice.injEq] at hv
    rw [ha] at hv
    obtain rfl := some_addr hv.1
    exact ⟨⟨cur, hg⟩, hb⟩
theorem not_B_of_S {w : World} {b : Nat} (h : IsS w b) : ¬ IsB w b := fun ⟨c, hc⟩ => by
  obtain ⟨c', hc'⟩ := h
  rw [hc] at hc'
  simp at hc'
theorem not_W_of_S {w : World} {b : Nat} (h : IsS w b) : ¬ IsW w b := fun ⟨c, hc⟩ => by
  obtain ⟨c', hc'⟩ := h
  rw [hc] at hc'
  simp at hc'

set_option maxRecDepth 100000 in
theorem l2copy_any (a : Option Addr) (bs : List Nat) (cap : Nat) (w : World) (hl : bs.length ≤ 1048576) (ha : BytesAt w a bs) :
    Calls Try.prog 103 #[.slice a bs.length cap] w fun e w' => ∃ oa c, e = .returned (.slice oa bs.length c) ∧ w'.ownsRow w.heap.size 5 1 (.slice oa bs.length c) bs.length (bcells bs) ∧ Below w.heap.size w w' := by
  obtain ⟨i0, hi, hz0, hz1, hz2⟩ := info_parts info_u8
  go_enter Try.func103, Try.ntmps103
  go_wp2
  go_loopw [3, 8] (fun o i wr => ∃ (k : Nat) (oa : Option Addr) (c : Nat), k ≤ bs.length ∧ i = .int .i64 k ∧ o = .slice oa k c ∧ wr.ownsRow w.heap.size 5 1 (.slice oa k c) k (bcells (bs.take k)) ∧ Below w.heap.size w wr) (fun _ i _ => bs.length - (intOf i).toNat)
  case atStart => exact ⟨0, none, 0, Nat.zero_le _, rfl, rfl, owns_none _ _ _ _, gre _⟩
  case round =>
    obtain ⟨k, oa, c, hk, rfl, rfl, hO, hb⟩ := hrel
    by_cases hlt : k < bs.length
    · obtain ⟨x, b, off, hxk, hxm, rfl, hc⟩ := (ha.grow hb).get hlt
      have hsz := hb.size
      go_wp2_with (at_builtin; refine wpList_append_lies _ rfl (.tmp 12) (.tmp 14) 28 rfl w.heap.size 5 i0 (.int .u8 0) 1 1 Try.underlying28 hi hz0 hz1 hz2 rfl (by decide) _ _ _ rfl (hO.alloc _) ⟨wr.heap.size, 0, none⟩ 1 1 [.int .u8 (x : Int)] rfl rfl (World.news_of_block (cs := #[.int .u8 (x : Int)]) (t := 5) (fr := (0, 0)) (blk_new_at _ _ _ (by simp))) (by simp [Value.oneCell']) (by decide) (by unfold maxLen; omega) (by omega) (by simp; omega) (wr.heap.size + 1) (by simp) ?_; intro g cap2 w1 hown1 hgrow hat hlt2)
      have hK := (Kept.of_grown hgrow).below (B := w.heap.size) (by simp; omega) (fun z hz e => by have := (hO.lt z e).1; omega)
      have e1 : bcells (bs.take (k + 1)) = bcells (bs.take k) ++ [.int .u8 (x : Int)] := by rw [take_snoc _ _ hlt, bcells_snoc, hxk.out]
      go_roundw
      case rel => exact ⟨k + 1, some ⟨g, 0, none⟩, cap2, by omega, by go_num, rfl, by rw [e1]; exact hown1, (gal hb _).trans hK⟩
      case measure => simp [intOf]; omega
    · obtain rfl : k = bs.length := by omega
      rw [List.take_length] at hO
      go_wp2
      go_ret
      exact ⟨oa, c, rfl, hO, hb⟩

end Go.Proofs.Ythjddpkegooobab
