/-
  BYTES: the laws' bytes, marked. Own work.
-/
import Derived.Test.YthjddpkegooobabBytesA
import Derived.Deep.QuietTactic
import Derived.BigQuiet
namespace Go.Proofs.Ythjddpkegooobab
open Go.RowKit

def marksB (k n : Nat) : List Nat := (List.range n).map fun j => (k + j) % 256
set_option maxRecDepth 100000 in
theorem marksB_length (k n : Nat) : (marksB k n).length = n := by simp [marksB]
theorem marksB_get {k n i : Nat} (h : i < n) : (marksB k n)[i]! = (k + i) % 256 := by
  rw [getElem!_pos _ i (by rw [marksB_length]; exact h)]
  simp [marksB]

set_option maxRecDepth 100000 in
theorem markByteS_any (oa : Option Addr) (bs : List Nat) (cap k lo : Nat) (w : World) (hl : bs.length ≤ 1048576) (hk : k ≤ 1099511627776) (hM : MB w lo oa bs) :
    Calls Try.prog 22 #[.slice oa bs.length cap, .int .i64 k] w fun e w' => e = .returned (.int .i64 ((k + bs.length : Nat) : Int)) ∧ MB w' lo oa (marksB k bs.length) ∧ Kept (fun b => lo ≤ b ∧ oa = some ⟨b, 0, none⟩) w w' := by
  rcases hM with rfl | ⟨G, n, rfl, hG, hB⟩
  · go_enter Try.func22, Try.ntmps22
    go_wp2
    go_loopw [1, 5] (fun c i wr => c = .int .i64 k ∧ i = .int .i64 0 ∧ wr = w) (fun _ _ _ => 0)
    case atStart => exact ⟨rfl, rfl, rfl⟩
    case round =>
      obtain ⟨rfl, rfl, rfl⟩ := hrel
      go_wp2
      go_ret
      exact ⟨rfl, Or.inl rfl, Kept.refl _ _⟩
  · obtain ⟨f0, hr0, _⟩ := hB.row
    have hln : bs.length ≤ n := by obtain ⟨c, _, _, hl, _⟩ := hB; exact hl
    go_enter Try.func22, Try.ntmps22
    go_wp2
    go_loopw [1, 5] (fun c i wr => ∃ (m : Nat) (f : Nat → Value), m ≤ bs.length ∧ c = .int .i64 ((k + m : Nat) : Int) ∧ i = .int .i64 m ∧ wr.rowIs G 5 n f ∧ (∀ j, j < m → f j = .int .u8 (((k + j) % 256 : Nat) : Int)) ∧ Kept (fun b => b = G) w wr) (fun _ i _ => bs.length - (intOf i).toNat)
    case atStart => exact ⟨0, f0, Nat.zero_le _, rfl, rfl, hr0, fun j hj => absurd hj (Nat.not_lt_zero _), Kept.refl _ _⟩
    case round =>
      obtain ⟨m, f, hm, rfl, rfl, hrow, hin, hK⟩ := hrel
      obtain ⟨q, hq⟩ := hid_ex (k + m)
      rw [← hq.out]
      have hq1 : q ≤ 2199023255552 := by rw [hq.out]; omega
      by_cases hlt : m < bs.length
      · have d0 := hrow.cell (i := m) (by omega)
        have fz := hrow.frozen
        obtain ⟨x, hx⟩ := hid_ex (q % 256)
        have e2 : IntKind.u8.wrap (q : Int) = (x : Int) := by rw [hx.out, IntKind.wrap_u8']; omega
        go_wp2
        go_roundw
        case rel =>
          refine ⟨m + 1, _, by omega, ?_, by go_num, hrow.set _ _, fun j hj => ?_, hK.set (fun _ => rfl) _⟩
          · have : q + 1 = k + (m + 1) := by rw [hq.out]; omega
            rw [← this]; go_num
          · show (if j = m then _ else _) = _
            split
            · rename_i e; rw [e, hx.out, hq.out]
            · exact hin j (by omega)
        case measure => simp [intOf]; omega
      · obtain rfl : m = bs.length := by omega
        go_wp2
        go_ret
        refine ⟨by rw [← hq.out]; rfl, Or.inr ⟨G, n, rfl, hG, BRow.of_row hrow (by rw [marksB_length]; exact hln) (fun i hi => ?_)⟩, hK.mono (fun b _ e => by subst e; exact ⟨hG, rfl⟩)⟩
        rw [marksB_length] at hi
        rw [marksB_get hi]; exact hin i hi

set_option maxRecDepth 100000 in
theorem heldByteS_any (oa : Option Addr) (n cap k : Nat) (w : World) (hl : n ≤ 1048576) (hk : k ≤ 1099511627776) (hM : BytesAt w oa (marksB k n)) :
    Calls Try.prog 23 #[.slice oa n cap, .int .i64 k] w fun e w' => e = .returned (.int .i64 ((k + n : Nat) : Int)) ∧ Below w.heap.size w w' := by
  go_enter Try.func23, Try.ntmps23
  go_wp2
  go_loopw [1, 5] (fun c i wr => ∃ (m : Nat), m ≤ n ∧ c = .int .i64 ((k + m : Nat) : Int) ∧ i = .int .i64 m ∧ Below w.heap.size w wr) (fun _ i _ => n - (intOf i).toNat)
  case atStart => exact ⟨0, Nat.zero_le _, rfl, rfl, gre _⟩
  case round =>
    obtain ⟨m, hm, rfl, rfl, hb⟩ := hrel
    obtain ⟨q, hq⟩ := hid_ex (k + m)
    rw [← hq.out]
    have hq1 : q ≤ 2199023255552 := by rw [hq.out]; omega
    by_cases hlt : m < n
    · obtain ⟨x, b, off, hxk, hxm, rfl, hc⟩ := (hM.grow hb).get (k := m) (by rw [marksB_length]; exact hlt)
      have hx2 : Hid (x = q % 256) := by show _ = _; rw [hxk.out, marksB_get hlt, hq.out]
      have e2 : IntKind.u8.wrap (q : Int) = (x : Int) := by rw [hx2.out, IntKind.wrap_u8']; omega
      have hn2 : ((x : Int) != (x : Int)) = false := by simp
      go_wp2
      go_roundw
      case rel =>
        refine ⟨m + 1, by omega, ?_, by go_num, hb⟩
        have : q + 1 = k + (m + 1) := by rw [hq.out]; omega
        rw [← this]; go_num
      case measure => simp [intOf]; omega
    · obtain rfl : m = n := by omega
      go_wp2
      go_ret
      exact ⟨by rw [← hq.out]; rfl, hb⟩

end Go.Proofs.Ythjddpkegooobab
