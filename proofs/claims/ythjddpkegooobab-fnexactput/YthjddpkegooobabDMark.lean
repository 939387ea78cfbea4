/-
  DMARK: disks that may be marked, and their marks. Own work.
-/
import Derived.Test.YthjddpkegooobabBytes
import Derived.Test.YthjddpkegooobabDTo
import Derived.Test.YthjddpkegooobabDMarkS
import Derived.Test.YthjddpkegooobabDMarkT
namespace Go.Proofs.Ythjddpkegooobab
open Go.RowKit

/-- where the marks end -/
def bE (F : Nat → List Nat) (k : Nat) : Nat → Nat
  | 0 => k
  | j + 1 => bE F k j + (F j).length
def wE (F : Nat → List Nat) (k : Nat) : Nat → Nat
  | 0 => k
  | j + 1 => wE F k j + 1 + (F j).length
def bM (F : Nat → List Nat) (k i : Nat) : List Nat := marksB (bE F k i) (F i).length
def wM (F : Nat → List Nat) (k i : Nat) : List Nat := marksB (wE F k i + 1) (F i).length
theorem bE_le (F : Nat → List Nat) (k : Nat) : ∀ {i j : Nat}, i ≤ j → bE F k i ≤ bE F k j
  | i, 0, h => by obtain rfl : i = 0 := by omega
                  exact Nat.le_refl _
  | i, j + 1, h => by
    by_cases e : i = j + 1
    · subst e; exact Nat.le_refl _
    · have := bE_le F k (show i ≤ j by omega)
      simp only [bE]; omega
theorem wE_le (F : Nat → List Nat) (k : Nat) : ∀ {i j : Nat}, i ≤ j → wE F k i ≤ wE F k j
  | i, 0, h => by obtain rfl : i = 0 := by omega
                  exact Nat.le_refl _
  | i, j + 1, h => by
    by_cases e : i = j + 1
    · subst e; exact Nat.le_refl _
    · have := wE_le F k (show i ≤ j by omega)
      simp only [wE]; omega
theorem bE_sz (ls : List (List Nat)) (k : Nat) : ∀ j, j ≤ ls.length → (bE (fun i => ls[i]!) k j : Int) = k + szBs (ls.take j)
  | 0, _ => by simp [bE, szBs]
  | j + 1, h => by
    have ih := bE_sz ls k j (by omega)
    rw [szBs_take_succ ls j (by omega)]
    simp only [bE]
    omega
theorem wE_sz (ls : List DW) (k : Nat) : ∀ j, j ≤ ls.length → (wE (fun i => ls[i]!.bytes) k j : Int) = k + j + szWs (ls.take j)
  | 0, _ => by simp [wE, szWs]
  | j + 1, h => by
    have ih := wE_sz ls k j (by omega)
    rw [szWs_take_succ ls j (by omega)]
    simp only [wE]
    omega

set_option maxRecDepth 100000 in
theorem markByteS_none (oa : Option Addr) (cap k : Nat) (w : World) :
    Calls Try.prog 22 #[.slice oa 0 cap, .int .i64 k] w fun e w' => e = .returned (.int .i64 k) ∧ w' = w := by
  go_enter Try.func22, Try.ntmps22
  go_wp2
  go_loopw [1, 5] (fun c i wr => c = .int .i64 k ∧ i = .int .i64 0 ∧ wr = w) (fun _ _ _ => 0)
  case atStart => exact ⟨rfl, rfl, rfl⟩
  case round =>
    obtain ⟨rfl, rfl, rfl⟩ := hrel
    go_wp2
    go_ret
    exact ⟨rfl, rfl⟩

set_option maxRecDepth 100000 in
theorem markBytes_any (oa : Option Addr) (bs : List Nat) (cap k lo hi : Nat) (w : World) (hl : bs.length ≤ 1048576) (hk : k ≤ 1099511627776) (hM : BB w lo hi oa bs) :
    Calls Try.prog 22 #[.slice oa bs.length cap, .int .i64 k] w fun e w' => e = .returned (.int .i64 ((k + bs.length : Nat) : Int)) ∧ BB w' lo hi oa (marksB k bs.length) ∧ Kept (fun b => bs ≠ [] ∧ oa = some ⟨b, 0, none⟩) w w' := by
  by_cases e0 : bs = []
  · subst e0
    refine (markByteS_none oa cap k w).mono ?_
    rintro e w' ⟨rfl, h2⟩
    exact ⟨rfl, Or.inl (by simp [marksB]), by rw [h2]; exact Kept.refl _ _⟩
  · rcases hM with h | ⟨G, n, rfl, hG, hGh, hB⟩
    · exact absurd h e0
    · refine (markByteS_any _ bs cap k lo w hl hk (Or.inr ⟨G, n, rfl, hG, hB⟩)).mono ?_
      rintro e w' ⟨rfl, h1, h2⟩
      refine ⟨rfl, ?_, h2.mono (fun b _ h => ⟨e0, h.2⟩)⟩
      rcases h1 with h1 | ⟨G', n', h3, h4, h5⟩
      · exact Or.inl h1
      · have := some_addr h3
        subst this
        exact Or.inr ⟨G, n', rfl, hG, hGh, h5⟩


set_option maxRecDepth 100000 in
theorem markByteSS_any (a : Option Addr) (n cap k lo hi : Nat) (F : Nat → List Nat) (fa : Nat → Option Addr) (fc : Nat → Nat) (w : World) (hn : n ≤ 1048576) (hl : ∀ i, i < n → (F i).length ≤ 1048576) (hk : bE F k n ≤ 1099511627776) (h : MBs w lo hi a n F fa fc) :
    Calls Try.prog 93 #[.slice a n cap, .int .i64 k] w fun e w' => e = .returned (.int .i64 (bE F k n : Nat)) ∧ MBs w' lo hi a n (bM F k) fa fc ∧ Kept (TB n F fa) w w' := by
  go_enter Try.func93, Try.ntmps93
  go_wp2
  go_loopw [1, 5] (fun c i wr => ∃ (j q : Nat) (G : Nat → List Nat), j ≤ n ∧ Hid (q = bE F k j) ∧ c = .int .i64 (q : Int) ∧ i = .int .i64 (j : Int) ∧ MBs wr lo hi a n G fa fc ∧ (∀ i, i < j → G i = bM F k i) ∧ (∀ i, j ≤ i → G i = F i) ∧ Kept (TB n F fa) w wr) (fun _ i _ => n - (intOf i).toNat)
  case atStart => exact ⟨0, k, F, Nat.zero_le _, rfl, rfl, rfl, h, fun i hi => absurd hi (Nat.not_lt_zero _), fun _ _ => rfl, Kept.refl _ _⟩
  case round =>
    obtain ⟨j, q, G, hj, hq, rfl, rfl, hM, hG1, hG2, hK⟩ := hrel
    have hqle : q ≤ 1099511627776 := by have := bE_le F k hj; have := hq.out; omega
    by_cases hlt : j < n
    · obtain ⟨g, m, f, rfl, h2, h3, h4, h5, h6⟩ := hM.row (by omega)
      have c0 := h4.cell (i := j) (by omega)
      rw [h6 j hlt, hG2 j (Nat.le_refl _)] at c0
      have i0 : (0 : Int) ≤ (j : Int) := by omega
      have i1 : (j : Int) < (n : Int) := by omega
      have hBj := hM.byt j hlt
      rw [hG2 j (Nat.le_refl _)] at hBj
      have hlj := hl j hlt
      obtain ⟨ys, hys⟩ := hid_ex (F j)
      rw [← hys.out] at c0 hBj hlj
      go_wp2_with (go_at_call 22; refine (markBytes_any (fa j) ys (fc j) q lo hi _ hlj hqle hBj).mono ?_; rintro e w2 ⟨rfl, hB2, hK2⟩)
      go_roundw
      case rel =>
        have e1 : G j = F j := hG2 j (Nat.le_refl _)
        have hb1 : marksB q ys.length = bM F k j := by rw [hys.out, hq.out]; rfl
        refine ⟨j + 1, q + ys.length, _, by omega, by show _ = _; rw [hq.out, hys.out]; rfl, by go_num, by go_num, hM.step hlt (ys := marksB q ys.length) (by rw [marksB_length, e1, hys.out]) hB2 (hK2.mono (fun b _ hb => by rw [e1, ← hys.out]; exact hb)), fun i hi => ?_, fun i hi => ?_, hK.trans hK2 (fun b _ hb => ⟨j, hlt, by rw [← hys.out]; exact hb.1, hb.2⟩)⟩
        · show (if i = j then _ else _) = _
          split
          · rename_i e; rw [e]; exact hb1
          · exact hG1 i (by omega)
        · show (if i = j then _ else _) = _
          rw [if_neg (by omega)]; exact hG2 i (by omega)
      case measure => simp [intOf]; omega
    · obtain rfl : j = n := by omega
      go_wp2
      go_ret
      exact ⟨by rw [hq.out]; rfl, hM.congr (fun i hi => (hG1 i hi).symm), hK⟩

set_option maxRecDepth 100000 in
theorem heldByteSS_any (a : Option Addr) (n cap k lo hi : Nat) (F : Nat → List Nat) (fa : Nat → Option Addr) (fc : Nat → Nat) (w : World) (hn : n ≤ 1048576) (hl : ∀ i, i < n → (F i).length ≤ 1048576) (hk : bE F k n ≤ 1099511627776) (h : MBs w lo hi a n (bM F k) fa fc) :
    Calls Try.prog 95 #[.slice a n cap, .int .i64 k] w fun e w' => e = .returned (.int .i64 (bE F k n : Nat)) ∧ Below w.heap.size w w' := by
  go_enter Try.func95, Try.ntmps95
  go_wp2
  go_loopw [1, 5] (fun c i wr => ∃ (j q : Nat), j ≤ n ∧ Hid (q = bE F k j) ∧ c = .int .i64 (q : Int) ∧ i = .int .i64 (j : Int) ∧ Below w.heap.size w wr) (fun _ i _ => n - (intOf i).toNat)
  case atStart => exact ⟨0, k, Nat.zero_le _, rfl, rfl, rfl, gre _⟩
  case round =>
    obtain ⟨j, q, hj, hq, rfl, rfl, hb⟩ := hrel
    have hqle : q ≤ 1099511627776 := by have := bE_le F k hj; have := hq.out; omega
    have hM := h.out (Kept.of_below hb (fun _ => False)) (fun _ _ _ e => e)
    by_cases hlt : j < n
    · obtain ⟨g, m, f, rfl, h2, h3, h4, h5, h6⟩ := hM.row (by omega)
      have c0 := h4.cell (i := j) (by omega)
      rw [h6 j hlt] at c0
      have i0 : (0 : Int) ≤ (j : Int) := by omega
      have i1 : (j : Int) < (n : Int) := by omega
      have hBj := (hM.byt j hlt).bytes
      have hlj := hl j hlt
      unfold bM at c0 hBj
      rw [marksB_length] at c0
      rw [← hq.out] at hBj
      obtain ⟨x, hx⟩ := hid_ex (F j).length
      rw [← hx.out] at c0 hBj hlj
      have hd : ¬ ((q : Int) + (x : Int) < 0) := by omega
      go_wp2_with (go_at_call 23; refine (heldByteS_any (fa j) x (fc j) q _ hlj hqle hBj).mono ?_; rintro e w2 ⟨rfl, hb2⟩)
      go_roundw
      case rel => exact ⟨j + 1, q + x, by omega, by show _ = _; rw [hq.out, hx.out]; rfl, by go_num, by go_num, gca hb hb2⟩
      case measure => simp [intOf]; omega
    · obtain rfl : j = n := by omega
      go_wp2
      go_ret
      exact ⟨by rw [hq.out]; rfl, hb⟩

end Go.Proofs.Ythjddpkegooobab
