import Derived.Test.YthjddpkegooobabPartUnE

/-
  SUN: the specification's reader. Own work.
-/
namespace Go.Proofs.Ythjddpkegooobab
open Go.RowKit

/-- the specification's number -/
def sNum : Nat → Nat → Nat → List Nat → Option (Nat × List Nat)
  | 0, _, _, _ => none
  | _ + 1, _, _, [] => none
  | k + 1, n, i, x :: r => if x < 128 then some (orU n (x % 128) (7 * i), r) else sNum k (orU n (x % 128) (7 * i)) (i + 1) r
def sSmall (r : List Nat) : Option (Nat × List Nat) :=
  match sNum 10 0 0 r with
  | some (n, r') => if n ≤ 5000 then some (n, r') else none
  | none => none
def sLow : Nat → Nat → Nat → List Nat → Option (Nat × List Nat)
  | 0, _, n, r => some (n, r)
  | _ + 1, _, _, [] => none
  | k + 1, i, n, x :: r => sLow k (i + 1) (orU n x (8 * i)) r

/-- a reader's three cells -/
structure SR (w : World) (b : Nat) (sa : Option Addr) (cap : Nat) (bs : List Nat) (at_ : Nat) (bad : Bool) : Prop where
  lt : b < w.heap.size
  c0 : w.cell? ⟨b, 0, none⟩ = some (.slice sa bs.length cap)
  c1 : w.cell? ⟨b, 1, none⟩ = some (.int .i64 (at_ : Int))
  c2 : w.cell? ⟨b, 2, none⟩ = some (.bool bad)
  f : ∀ o, w.frozen? ⟨b, o, none⟩ = false
  low : BytesLow b w sa bs
  cap : bs.length ≤ cap
  len : bs.length ≤ 4096
  byte : ∀ x, x ∈ bs → x < 256
  atl : at_ ≤ bs.length + 2

theorem SR.kept {p : Nat → Prop} {w w' : World} {b : Nat} {sa : Option Addr} {cap : Nat} {bs : List Nat} {at_ : Nat} {bad : Bool} (h : SR w b sa cap bs at_ bad) (k : Kept p w w') (hp : ∀ k, k ≤ b → ¬ p k) : SR w' b sa cap bs at_ bad := by
  have e := k.block b h.lt (hp b (Nat.le_refl _))
  exact ⟨Nat.lt_of_lt_of_le h.lt k.size, (World.cell?_of_block (w := w) e).trans h.c0, (World.cell?_of_block (w := w) e).trans h.c1, (World.cell?_of_block (w := w) e).trans h.c2, fun o => (World.frozen?_of_block (w := w) e).trans (h.f o), h.low.below (k.below (by have := h.lt; omega) (fun k hk => hp k (by omega))), h.cap, h.len, h.byte, h.atl⟩
theorem SR.grow {w w' : World} {b : Nat} {sa : Option Addr} {cap : Nat} {bs : List Nat} {at_ : Nat} {bad : Bool} (h : SR w b sa cap bs at_ bad) (k : Below w.heap.size w w') : SR w' b sa cap bs at_ bad := h.kept (Kept.of_below k (fun _ => False)) (fun _ _ e => e)
theorem SR.drewN {w : World} {b : Nat} {sa : Option Addr} {cap : Nat} {bs : List Nat} {at_ : Nat} {bad : Bool} (h : SR w b sa cap bs at_ bad) (k : Nat) : SR (w.drewN k) b sa cap bs at_ bad := ⟨h.lt, h.c0, h.c1, h.c2, h.f, h.low, h.cap, h.len, h.byte, h.atl⟩
theorem SR.setBad {w : World} {b : Nat} {sa : Option Addr} {cap : Nat} {bs : List Nat} {at_ : Nat} {bad : Bool} (h : SR w b sa cap bs at_ bad) : SR (w.setCell ⟨b, 2, none⟩ (.bool true)) b sa cap bs at_ true := by
  refine ⟨by have := h.lt; simpa [World.setCell] using this, ?_, ?_, World.cell?_setCell_same _ _ _ h.c2, fun o => ?_, h.low.below ((Kept.refl (fun k => k = b) w).set (a := ⟨b, 2, none⟩) (fun _ => rfl) _ |>.below (by have := h.lt; omega) (fun k hk e => by omega)), h.cap, h.len, h.byte, h.atl⟩
  · rw [World.cell?_setCell_other _ _ _ _ (by simp)]; exact h.c0
  · rw [World.cell?_setCell_other _ _ _ _ (by simp)]; exact h.c1
  · rw [World.frozen?_setCell]; exact h.f o
theorem SR.setAt {w : World} {b : Nat} {sa : Option Addr} {cap : Nat} {bs : List Nat} {at_ : Nat} {bad : Bool} (h : SR w b sa cap bs at_ bad) {z : Int} {n : Nat} (hz : z = (n : Int)) (hn : n ≤ bs.length + 2) : SR (w.setCell ⟨b, 1, none⟩ (.int .i64 z)) b sa cap bs n bad := by
  subst hz
  refine ⟨by have := h.lt; simpa [World.setCell] using this, ?_, World.cell?_setCell_same _ _ _ h.c1, ?_, fun o => ?_, h.low.below ((Kept.refl (fun k => k = b) w).set (a := ⟨b, 1, none⟩) (fun _ => rfl) _ |>.below (by have := h.lt; omega) (fun k hk e => by omega)), h.cap, h.len, h.byte, hn⟩
  · rw [World.cell?_setCell_other _ _ _ _ (by simp)]; exact h.c0
  · rw [World.cell?_setCell_other _ _ _ _ (by simp)]; exact h.c2
  · rw [World.frozen?_setCell]; exact h.f o

/-- how what was read stands to what was to be read -/
def SRel {α : Type} (f : Option (α × List Nat)) (bad : Bool) (x : α) (r' : List Nat) (bad' : Bool) : Prop :=
  (bad = true → bad' = true) ∧ (bad = false → (bad' = false ∧ f = some (x, r')) ∨ (bad' = true ∧ f = none))
/-- what a reader's call leaves -/
def SPost {α : Type} (f : Option (α × List Nat)) (enc : α → Value) (ok : α → Prop) (b : Nat) (sa : Option Addr) (cap : Nat) (bs : List Nat) (at_ : Nat) (bad : Bool) (w : World) (e : Ending) (w' : World) : Prop :=
  Kept (fun k => k = b) w w' ∧ ∃ x at' bad', e = .returned (enc x) ∧ ok x ∧ SR w' b sa cap bs at' bad' ∧ (at' ≤ bs.length ∨ at' = at_) ∧ Hid (SRel f bad x (bs.drop at') bad')

theorem drop_zero_of {bs : List Nat} {k : Nat} (h : bs.length ≤ k) : bs.drop k = [] := List.drop_of_length_le h

set_option maxRecDepth 100000 in
theorem sByte_any (b : Nat) (sa : Option Addr) (cap : Nat) (bs : List Nat) (at_ : Nat) (bad : Bool) (w : World) (hR : SR w b sa cap bs at_ bad) :
    Calls Try.prog 143 #[.pointer (some ⟨b, 0, none⟩)] w (SPost (rdByte (bs.drop at_)) (fun x => .int .u8 (x : Int)) (fun x => x < 256) b sa cap bs at_ bad w) := by
  have hatl := hR.atl
  have hlen := hR.len
  obtain ⟨hlt, c0, c1, c2, hf, hlow, hcap, _, hbyte, _⟩ := id hR
  by_cases h : at_ < bs.length
  · have hd : ¬ ((bs.length : Int) ≤ (at_ : Int)) := by omega
    obtain ⟨x, hx⟩ := hidx bs[at_]!
    have hxm : x < 256 := by rw [hx.out]; exact hbyte _ (mem_at h)
    have e1 : Hid (rdByte (bs.drop at_) = some (x, bs.drop (at_ + 1))) := by show _ = _; rw [drop_cons h, hx.out]; rfl
    obtain ⟨ba, off, rfl, hba, hcell⟩ := hlow at_ h
    rw [← hx.out] at hcell
    have hne : ba ≠ b := by omega
    go_enter Try.func143, Try.ntmps143
    go_wp2_with (go_quiet (fail))
    go_ret
    refine ⟨(((Kept.refl (fun k => k = b) w).drewN _).set (fun _ => rfl) _).drewN _, x, at_ + 1, bad, rfl, hxm, ?_, Or.inl (by omega), ⟨fun h => h, fun _ => ?_⟩⟩
    · exact ((hR.drewN _).setAt (by omega) (by omega)).drewN _
    · cases bad
      · exact Or.inl ⟨rfl, e1.out⟩
      · rename_i hc; cases hc
  · have hd : ((bs.length : Int) ≤ (at_ : Int)) := by omega
    have e1 : Hid (rdByte (bs.drop at_) = none) := by show _ = _; rw [drop_zero_of (by omega)]; rfl
    go_enter Try.func143, Try.ntmps143
    go_wp2_with (go_quiet (fail))
    go_ret
    exact ⟨((Kept.refl (fun k => k = b) w).drewN _).set (fun _ => rfl) _, 0, at_, true, rfl, by omega, (hR.drewN _).setBad, Or.inr rfl, ⟨fun _ => rfl, fun _ => Or.inr ⟨rfl, e1.out⟩⟩⟩

theorem byte_cons {r r' : List Nat} {x : Nat} (h : rdByte r = some (x, r')) : r = x :: r' := by
  cases r with
  | nil => cases h
  | cons y t =>
    have e : y = x ∧ t = r' := by simpa [rdByte] using h
    rw [e.1, e.2]
theorem byte_nil {r : List Nat} (h : rdByte r = none) : r = [] := by
  cases r with
  | nil => rfl
  | cons y t => cases h

/-- where a loop of reading stands -/
def SInv {α : Type} (f g : Option (α × List Nat)) (bad0 bad : Bool) : Prop := (bad0 = true → bad = true) ∧ (bad0 = false → bad = false → f = g) ∧ (bad0 = false → bad = true → f = none)

theorem SInv.start {α : Type} (f : Option (α × List Nat)) (bad : Bool) : SInv f f bad bad := ⟨fun h => h, fun _ _ => rfl, fun h h' => by rw [h] at h'; cases h'⟩
theorem SInv.comp {α β : Type} {F G G' : Option (β × List Nat)} {f1 : Option (α × List Nat)} {bad bad1 bad2 : Bool} {x : α} {r2 : List Nat} (h : SInv F G bad bad1) (hr : SRel f1 bad1 x r2 bad2) (h1 : f1 = some (x, r2) → G = G') (h0 : f1 = none → G = none) : SInv F G' bad bad2 := by
  refine ⟨fun hb => hr.1 (h.1 hb), fun hb hb2 => ?_, fun hb hb2 => ?_⟩
  · cases hb1 : bad1 with
    | true => rw [hr.1 hb1] at hb2; cases hb2
    | false =>
      rcases hr.2 hb1 with ⟨_, e⟩ | ⟨e, _⟩
      · exact (h.2.1 hb hb1).trans (h1 e)
      · rw [e] at hb2; cases hb2
  · cases hb1 : bad1 with
    | true => exact h.2.2 hb hb1
    | false =>
      rcases hr.2 hb1 with ⟨e, _⟩ | ⟨_, e⟩
      · rw [e] at hb2; cases hb2
      · exact (h.2.1 hb hb1).trans (h0 e)
theorem SInv.rel {α : Type} {F G : Option (α × List Nat)} {bad bad1 : Bool} {y : α} {r : List Nat} (h : SInv F G bad bad1) (hG : G = some (y, r)) : SRel F bad y r bad1 := by
  refine ⟨h.1, fun hb => ?_⟩
  cases hb1 : bad1 with
  | true => exact Or.inr ⟨rfl, h.2.2 hb hb1⟩
  | false => exact Or.inl ⟨rfl, (h.2.1 hb hb1).trans hG⟩
theorem SInv.bad {α : Type} {F G : Option (α × List Nat)} {bad bad1 : Bool} {y : α} {r : List Nat} (h : SInv F G bad bad1) (hG : G = none) : SRel F bad y r true := by
  refine ⟨fun _ => rfl, fun hb => Or.inr ⟨rfl, ?_⟩⟩
  cases hb1 : bad1 with
  | true => exact h.2.2 hb hb1
  | false => exact (h.2.1 hb hb1).trans hG
theorem sOr_form {n x s : Nat} (hn : n < 18446744073709551616) (_hx : x < 18446744073709551616) (hs : s ≤ 64) : bits .or .u64 (n : Int) (IntKind.u64.wrap ((x : Int) * 2 ^ s)) = ((orU n x s : Nat) : Int) := by
  have e3 : ((x : Int) * 2 ^ s) = ((x * 2 ^ s : Nat) : Int) := by push_cast; rfl
  have e4 : IntKind.u64.wrap ((x * 2 ^ s : Nat) : Int) = ((x * 2 ^ s % 18446744073709551616 : Nat) : Int) := by rw [IntKind.wrap_u64]; generalize x * 2 ^ s = y; omega
  rw [e3, e4, u64_or_nat n _ hn (Nat.mod_lt _ (by omega))]
  unfold orU
  rw [Nat.min_eq_left hs]
theorem and127 {x : Nat} (hx : x < 256) : IntKind.u64.wrap (bits .and .u8 (x : Int) 127) = ((x % 128 : Nat) : Int) := by
  have e1 : bits .and .u8 (x : Int) 127 = ((x % 128 : Nat) : Int) := by
    rw [u8_and _ _ (by omega) (by omega) (by omega) (by omega)]
    have h1 : (127 : Int).toNat = 127 := rfl
    rw [h1, Int.toNat_natCast, nat_mask7]
  rw [e1, IntKind.wrap_u64]; omega

set_option maxRecDepth 100000 in
theorem sEight_any (b : Nat) (sa : Option Addr) (cap : Nat) (bs : List Nat) (at_ : Nat) (bad : Bool) (w : World) (hR : SR w b sa cap bs at_ bad) :
    Calls Try.prog 144 #[.pointer (some ⟨b, 0, none⟩)] w (SPost (sLow 8 0 0 (bs.drop at_)) (fun x => .int .u64 (x : Int)) (fun x => x < 18446744073709551616) b sa cap bs at_ bad w) := by
  go_enter Try.func144, Try.ntmps144
  go_wp2
  go_loopw [3, 4] (fun a c ws => ∃ (n i at1 : Nat) (bad1 : Bool), a = .int .u64 n ∧ c = .int .i64 i ∧ n < 18446744073709551616 ∧ i ≤ 8 ∧ Hid (SInv (sLow 8 0 0 (bs.drop at_)) (sLow (8 - i) i n (bs.drop at1)) bad bad1) ∧ SR ws b sa cap bs at1 bad1 ∧ (at1 ≤ bs.length ∨ at1 = at_) ∧ Kept (fun k => k = b) w ws) (fun _ c _ => 8 - (intOf c).toNat)
  case atStart => exact ⟨0, 0, at_, bad, rfl, rfl, by omega, by omega, SInv.start _ _, hR, Or.inr rfl, Kept.refl _ _⟩
  case round =>
    obtain ⟨n, i, at1, bad1, rfl, rfl, hn, hi, hinv, hR1, hat1, hK⟩ := hrel
    by_cases hlt : i < 8
    · have hd : (i : Int) < 8 := by omega
      go_wp2_with (go_at_call 143; refine (sByte_any b sa cap bs at1 bad1 _ hR1).mono ?_; rintro e w1 ⟨hK1, x, at2, bad2, rfl, hx, hR2, hat2, hrel⟩)
      have e6 : IntKind.u64.wrap (x : Int) = (x : Int) := by rw [IntKind.wrap_u64]; omega
      refine ⟨⟨orU n x (8 * i), i + 1, at2, bad2, congrArg (Value.int .u64) (by first | exact sOr_form hn (by omega) (by omega) | (rw [e6]; exact sOr_form hn (by omega) (by omega))), by go_num, orU_lt hn, by omega, ?_, hR2, by omega, kk hK hK1⟩, by simp [intOf]; omega⟩
      refine hinv.out.comp hrel.out (fun h => ?_) (fun h => ?_)
      · rw [byte_cons h, show 8 - i = (8 - (i + 1)) + 1 by omega, sLow]
      · rw [byte_nil h, show 8 - i = (7 - i) + 1 by omega, sLow]
    · obtain rfl : i = 8 := by omega
      go_wp2
      go_ret
      exact ⟨hK, n, at1, bad1, rfl, hn, hR1, hat1, hinv.out.rel rfl⟩

end Go.Proofs.Ythjddpkegooobab

/-
  SLOW: words are read back. Own work.
-/
namespace Go.Proofs.Ythjddpkegooobab
open Go.RowKit

theorem sLow_back : ∀ (k i a m : Nat) (r : List Nat), i + k = 8 → a < 2 ^ (8 * i) → sLow k i a (lowB k m ++ r) = some (a + m % 2 ^ (8 * k) * 2 ^ (8 * i), r)
  | 0, i, a, m, r, _, _ => by
    show some (_, r) = _
    simp [Nat.mod_one]
  | k + 1, i, a, m, r, hk, ha => by
    show sLow k (i + 1) (orU a (m % 256) (8 * i)) (lowB k (m / 256) ++ r) = _
    have hp : 2 ^ (8 * (i + 1)) = 2 ^ (8 * i) * 256 := by rw [show 8 * (i + 1) = 8 * i + 8 by omega, Nat.pow_add]
    have hlt : a + m % 256 * 2 ^ (8 * i) < 2 ^ (8 * (i + 1)) := by
      have h1 : (m % 256 + 1) * 2 ^ (8 * i) ≤ 256 * 2 ^ (8 * i) := Nat.mul_le_mul_right _ (by omega)
      rw [Nat.add_mul] at h1
      rw [hp, Nat.mul_comm (2 ^ (8 * i)) 256]
      omega
    have h64 : 2 ^ (8 * (i + 1)) ≤ 2 ^ 64 := Nat.pow_le_pow_right (by omega) (by omega)
    rw [orU_join ha (by omega) (by omega), sLow_back k (i + 1) _ (m / 256) r (by omega) hlt]
    congr 2
    have e1 : m % 2 ^ (8 * (k + 1)) = m % 256 + m / 256 % 2 ^ (8 * k) * 256 := by
      rw [show 2 ^ (8 * (k + 1)) = 256 * 2 ^ (8 * k) by rw [show 8 * (k + 1) = 8 + 8 * k by omega, Nat.pow_add], Nat.mod_mul]
      omega
    rw [e1, hp, Nat.add_mul, Nat.mul_assoc, Nat.mul_comm 256 (2 ^ (8 * i)), Nat.add_assoc]

end Go.Proofs.Ythjddpkegooobab

/-
  SUN: the specification's reader. Own work.
-/
namespace Go.Proofs.Ythjddpkegooobab
open Go.RowKit

set_option maxRecDepth 100000 in
theorem sNum_any (b : Nat) (sa : Option Addr) (cap : Nat) (bs : List Nat) (at_ : Nat) (bad : Bool) (w : World) (hR : SR w b sa cap bs at_ bad) :
    Calls Try.prog 142 #[.pointer (some ⟨b, 0, none⟩)] w (SPost (sNum 10 0 0 (bs.drop at_)) (fun x => .int .u64 (x : Int)) (fun x => x < 18446744073709551616) b sa cap bs at_ bad w) := by
  go_enter Try.func142, Try.ntmps142
  go_wp2
  go_loopw [3, 4] (fun a c ws => ∃ (n i at1 : Nat) (bad1 : Bool), a = .int .u64 n ∧ c = .int .i64 i ∧ n < 18446744073709551616 ∧ i ≤ 10 ∧ Hid (SInv (sNum 10 0 0 (bs.drop at_)) (sNum (10 - i) n i (bs.drop at1)) bad bad1) ∧ SR ws b sa cap bs at1 bad1 ∧ (at1 ≤ bs.length ∨ at1 = at_) ∧ Kept (fun k => k = b) w ws) (fun _ c _ => 10 - (intOf c).toNat)
  case atStart => exact ⟨0, 0, at_, bad, rfl, rfl, by omega, by omega, ⟨fun h => h, fun _ _ => rfl, fun h h' => by rw [h] at h'; cases h'⟩, hR, Or.inr rfl, Kept.refl _ _⟩
  case round =>
    obtain ⟨n, i, at1, bad1, rfl, rfl, hn, hi, hinv, hR1, hat1, hK⟩ := hrel
    by_cases hlt : i < 10
    · have hd : (i : Int) < 10 := by omega
      go_wp2_with (go_at_call 143; refine (sByte_any b sa cap bs at1 bad1 _ hR1).mono ?_; rintro e w1 ⟨hK1, x, at2, bad2, rfl, hx, hR2, hat2, hrel⟩)
      · rename_i hl
        go_ret
        refine ⟨kk hK hK1, orU n (x % 128) (7 * i), at2, bad2, ret_int (by rw [and127 hx]; exact sOr_form hn (by omega) (by omega)), orU_lt hn, hR2, by omega, ?_⟩
        refine (hinv.out.comp (G' := some (orU n (x % 128) (7 * i), bs.drop at2)) hrel.out (fun h => ?_) (fun h => ?_)).rel rfl
        · rw [byte_cons h, show 10 - i = (9 - i) + 1 by omega, sNum, if_pos (by omega)]
        · rw [byte_nil h, show 10 - i = (9 - i) + 1 by omega, sNum]
      · rename_i hl
        refine ⟨⟨orU n (x % 128) (7 * i), i + 1, at2, bad2, congrArg (Value.int .u64) (by rw [and127 hx]; exact sOr_form hn (by omega) (by omega)), by go_num, orU_lt hn, by omega, ?_, hR2, by omega, kk hK hK1⟩, by simp [intOf]; omega⟩
        refine hinv.out.comp hrel.out (fun h => ?_) (fun h => ?_)
        · rw [byte_cons h, show 10 - i = (10 - (i + 1)) + 1 by omega, sNum, if_neg (by omega)]
        · rw [byte_nil h, show 10 - i = (9 - i) + 1 by omega, sNum]
    · obtain rfl : i = 10 := by omega
      obtain ⟨z1, z2, z3, z4, z5, _⟩ := id hR1
      go_wp2
      go_ret
      exact ⟨hK.set (fun _ => rfl) _, 0, at1, true, rfl, by omega, hR1.setBad, hat1, hinv.out.bad rfl⟩

set_option maxRecDepth 100000 in
theorem sSmall_any (b : Nat) (sa : Option Addr) (cap : Nat) (bs : List Nat) (at_ : Nat) (bad : Bool) (w : World) (hR : SR w b sa cap bs at_ bad) :
    Calls Try.prog 83 #[.pointer (some ⟨b, 0, none⟩)] w (SPost (sSmall (bs.drop at_)) (fun x => .int .i64 (x : Int)) (fun x => x ≤ 5000) b sa cap bs at_ bad w) := by
  go_enter Try.func83, Try.ntmps83
  go_wp2_with (go_at_call 142; refine (sNum_any b sa cap bs at_ bad _ hR).mono ?_; rintro e w1 ⟨hK1, x, at2, bad2, rfl, hx, hR2, hat2, hrel⟩; obtain ⟨z1, z2, z3, z4, z5, _⟩ := id hR2)
  · rename_i hl
    go_ret
    refine ⟨hK1.set (fun _ => rfl) _, 0, at2, true, rfl, by omega, hR2.setBad, hat2, ?_⟩
    refine ((SInv.start (sSmall (bs.drop at_)) bad).comp (G' := none) hrel.out (fun h => ?_) (fun h => ?_)).bad rfl
    · unfold sSmall; rw [h]; exact if_neg (by omega)
    · unfold sSmall; rw [h]
  · rename_i hl
    go_ret
    refine ⟨hK1, x, at2, bad2, by first | rfl | exact ret_int (by omega), by omega, hR2, hat2, ?_⟩
    refine ((SInv.start (sSmall (bs.drop at_)) bad).comp (G' := some (x, bs.drop at2)) hrel.out (fun h => ?_) (fun h => ?_)).rel rfl
    · unfold sSmall; rw [h]; exact if_pos (by omega)
    · unfold sSmall; rw [h]

end Go.Proofs.Ythjddpkegooobab

/-
  REGIONV: the end of a region that draws its order. Own work.
-/
namespace Go.Proofs.Ythjddpkegooobab
open Go.RowKit

/-- none may come up any more -/
theorem anyU_done {P : Program} {ops : Array Oper} {Q : Exit → Act → World → Prop} {md : Region.Mode} {S : World → Prop} {lst : Nat} {fuel : Nat} {listed : Array Bool} {a : Act} {w : World} (hd : Region.ready md ops listed = []) (hQ : Q .normal a w) : anyU P md ops Q S lst fuel listed a w := by
  cases fuel with
  | zero => exact ⟨hd, hQ⟩
  | succ f => exact ⟨fun _ => hQ, fun i hi => by rw [hd] at hi; cases hi⟩

end Go.Proofs.Ythjddpkegooobab

/-
  SVAL: the specification's reader: values. Own work.
-/
namespace Go.Proofs.Ythjddpkegooobab
open Go.RowKit

def sVal : List Nat → Option (GV × List Nat)
  | [] => none
  | k :: r =>
    if k = 1 then (sNum 10 0 0 r).map fun x => (⟨1, zag x.1, ⟨#[]⟩, 0⟩, x.2)
    else if k = 2 then (sLow 8 0 0 r).map fun x => (⟨2, wrap64 (x.1 : Int), ⟨#[]⟩, 0⟩, x.2)
    else if k = 3 then (sSmall r).bind fun x => if x.1 ≤ x.2.length then some (⟨3, 0, strB (x.2.take x.1), 0⟩, x.2.drop x.1) else none
    else if k = 4 then (sSmall r).map fun x => (⟨4, 0, ⟨#[]⟩, (x.1 : Int)⟩, x.2)
    else some (⟨(k : Int), 0, ⟨#[]⟩, 0⟩, r)

theorem kcases (k : Nat) : k = 1 ∨ k = 2 ∨ k = 3 ∨ k = 4 ∨ (((k : Int) == 1) = false ∧ ((k : Int) == 2) = false ∧ ((k : Int) == 3) = false ∧ ((k : Int) == 4) = false) := by
  by_cases h1 : k = 1
  · exact Or.inl h1
  by_cases h2 : k = 2
  · exact Or.inr (Or.inl h2)
  by_cases h3 : k = 3
  · exact Or.inr (Or.inr (Or.inl h3))
  by_cases h4 : k = 4
  · exact Or.inr (Or.inr (Or.inr (Or.inl h4)))
  · exact Or.inr (Or.inr (Or.inr (Or.inr ⟨by simp; omega, by simp; omega, by simp; omega, by simp; omega⟩)))

theorem sfin4 {w wX : World} {b : Nat} {sa : Option Addr} {cap : Nat} {bs : List Nat} {at_ : Nat} {bad : Bool} (hb : b < w.heap.size) (hK : Kept (fun k => k = b) w wX) (hR : SR wX b sa cap bs at_ bad) (u0 u1 u2 u3 : Value) :
    Kept (fun k => k = b) w ((((wX.setCell ⟨w.heap.size, 0, none⟩ u0).setCell ⟨w.heap.size, 1, none⟩ u1).setCell ⟨w.heap.size, 2, none⟩ u2).setCell ⟨w.heap.size, 3, none⟩ u3) ∧ SR ((((wX.setCell ⟨w.heap.size, 0, none⟩ u0).setCell ⟨w.heap.size, 1, none⟩ u1).setCell ⟨w.heap.size, 2, none⟩ u2).setCell ⟨w.heap.size, 3, none⟩ u3) b sa cap bs at_ bad :=
  ⟨(((hK.set (fun h => absurd h (Nat.lt_irrefl _)) _).set (fun h => absurd h (Nat.lt_irrefl _)) _).set (fun h => absurd h (Nat.lt_irrefl _)) _).set (fun h => absurd h (Nat.lt_irrefl _)) _,
    hR.kept (((((Kept.refl (fun k => k = w.heap.size) wX).set (fun _ => rfl) _).set (fun _ => rfl) _).set (fun _ => rfl) _).set (fun _ => rfl) _) (fun k hk e => by omega)⟩
theorem kset {w wX : World} {b : Nat} {sa : Option Addr} {cap : Nat} {bs : List Nat} {at_ : Nat} {bad : Bool} (hb : b < w.heap.size) {X : Nat} (hX : w.heap.size ≤ X) (o : Nat) (u : Value) (h : Kept (fun k => k = b) w wX ∧ SR wX b sa cap bs at_ bad) : Kept (fun k => k = b) w (wX.setCell ⟨X, o, none⟩ u) ∧ SR (wX.setCell ⟨X, o, none⟩ u) b sa cap bs at_ bad :=
  ⟨h.1.set (fun h => absurd h (by show ¬ X < _; omega)) _, h.2.kept ((Kept.refl (fun k => k = X) wX).set (fun _ => rfl) _) (fun k hk e => by omega)⟩
theorem i64_wrap2 (n : Int) : I64 (wrap64 n) := by rw [wrap64_eq]; exact wrap_i64_ok n
theorem kind_ok {k : Nat} (h : k < 256) : (GV.mk (k : Int) 0 ⟨#[]⟩ 0).Ok := ⟨small_i64 (by show 0 ≤ (k : Int) ∧ (k : Int) ≤ 1000000; omega), small_i64 (by show (0 : Int) ≤ 0 ∧ (0 : Int) ≤ 1000000; omega), Nat.zero_le _, small_i64 (by show (0 : Int) ≤ 0 ∧ (0 : Int) ≤ 1000000; omega)⟩
theorem text_ok {t : ByteArray} (h : t.size ≤ 5000) : (GV.mk 3 0 t 0).Ok := ⟨small_i64 (by show (0 : Int) ≤ 3 ∧ (3 : Int) ≤ 1000000; omega), small_i64 (by show (0 : Int) ≤ 0 ∧ (0 : Int) ≤ 1000000; omega), by show t.size ≤ maxLen; unfold maxLen; omega, small_i64 (by show (0 : Int) ≤ 0 ∧ (0 : Int) ≤ 1000000; omega)⟩
theorem ssmall_nil : sSmall [] = none := rfl
theorem sval1 {r : List Nat} {r1 : List Nat} {k : Nat} (h : rdByte r = some (k, r1)) : sVal r = sVal (k :: r1) := by rw [byte_cons h]
theorem sval0 {r : List Nat} (h : rdByte r = none) : sVal r = none := by rw [byte_nil h]; rfl

set_option maxHeartbeats 4000000 in
set_option maxRecDepth 100000 in
theorem sVal_any (b : Nat) (sa : Option Addr) (cap : Nat) (bs : List Nat) (at_ : Nat) (bad : Bool) (w : World) (hR : SR w b sa cap bs at_ bad) :
    Calls Try.prog 84 #[.pointer (some ⟨b, 0, none⟩)] w (SPost (sVal (bs.drop at_)) GV.val (fun v => v.Ok) b sa cap bs at_ bad w) := by
  have hlt := hR.lt
  have hF0 := Four.new w ⟨0, 0, ⟨#[]⟩, 0⟩ 30
  go_enter Try.func84, Try.ntmps84
  go_wp2_with (first
    | (go_at_call 143; refine (sByte_any b sa cap bs at_ bad _ (hR.grow (gal (gre _) _))).mono ?_; rintro e w1 ⟨hK1, k, at1, bad1, rfl, hk, hR1, hat1, hrel⟩; have hF1 := hF0.kept hK1 (by omega); obtain ⟨az, a0, a1, a2, a3, af⟩ := id hF1; have hs1 := hK1.size; simp only [World.size_alloc] at hs1; have hG := Four.new w1 ⟨(k : Int), 0, ⟨#[]⟩, 0⟩ 30; have hF1a := hF1.alloc (.cells #[.int .i64 (k : Int), .int .i64 0, .string ⟨#[]⟩, .int .i64 0] 30); rcases kcases k with rfl | rfl | rfl | rfl | ⟨n1, n2, n3, n4⟩)
    | (go_at_call 142; refine (sNum_any b sa cap bs at1 bad1 _ (hR1.grow (gal (gre _) _))).mono ?_; rintro e w2 ⟨hK2, n, at2, bad2, rfl, hn, hR2, hat2, hrel2⟩; have hG2 := hG.kept hK2 (by omega); have hF2 := hF1a.kept hK2 (by omega); obtain ⟨gz, g0, g1, g2, g3, gf⟩ := id hG2; obtain ⟨bz, b0, b1, b2, b3, bf⟩ := id hF2; have hs2 := hK2.size; simp only [World.size_alloc] at hs2)
    | (go_at_call 144; refine (sEight_any b sa cap bs at1 bad1 _ (hR1.grow (gal (gre _) _))).mono ?_; rintro e w2 ⟨hK2, n, at2, bad2, rfl, hn, hR2, hat2, hrel2⟩; have hG2 := hG.kept hK2 (by omega); have hF2 := hF1a.kept hK2 (by omega); obtain ⟨gz, g0, g1, g2, g3, gf⟩ := id hG2; obtain ⟨bz, b0, b1, b2, b3, bf⟩ := id hF2; have hs2 := hK2.size; simp only [World.size_alloc] at hs2)
    | (go_at_call 83; refine (sSmall_any b sa cap bs at1 bad1 _ (hR1.grow (gal (gre _) _))).mono ?_; rintro e w2 ⟨hK2, n, at2, bad2, rfl, hn, hR2, hat2, hrel2⟩; obtain ⟨z1, z2, z3, z4, z5, z6, z7, z8, z9, z10⟩ := id hR2; have hG2 := hG.kept hK2 (by omega); have hF2 := hF1a.kept hK2 (by omega); obtain ⟨gz, g0, g1, g2, g3, gf⟩ := id hG2; obtain ⟨bz, b0, b1, b2, b3, bf⟩ := id hF2; have hs2 := hK2.size; simp only [World.size_alloc] at hs2)
    | go_quiet (fail))
  · rename_i hodd
    have hodd' : n % 2 = 1 := by first | omega | (simp at hodd; omega)
    have ez : -((n : Int) / 2) - 1 = zag n := by unfold zag; rw [if_pos hodd']; omega
    obtain ⟨hKX, hRX⟩ := kset hlt (show w.heap.size ≤ w1.heap.size by omega) 1 (.int .i64 (-((n : Int) / 2) - 1)) (kset hlt (show w.heap.size ≤ w1.heap.size by omega) 1 (.int .i64 ((n : Int) / 2)) ⟨kk ((kk ((Kept.refl _ w).alloc _) hK1).alloc _) hK2, hR2⟩)
    obtain ⟨hKF, hRF⟩ := sfin4 hlt hKX hRX (.int .i64 1) (.int .i64 (-((n : Int) / 2) - 1)) (.string ⟨#[]⟩) (.int .i64 0)
    have hrl : Hid (SRel (sVal (bs.drop at_)) bad (⟨1, zag n, ⟨#[]⟩, 0⟩ : GV) (bs.drop at2) bad2) := (((SInv.start (sVal (bs.drop at_)) bad).comp (G' := (sNum 10 0 0 (bs.drop at1)).map fun x => (⟨1, zag x.1, ⟨#[]⟩, 0⟩, x.2)) hrel.out (fun h => by rw [sval1 h]; rfl) (fun h => sval0 h)).comp (G' := some (⟨1, zag n, ⟨#[]⟩, 0⟩, bs.drop at2)) hrel2.out (fun h => by rw [h]; rfl) (fun h => by rw [h]; rfl)).rel rfl
    refine bodyPost_ret (v := (GV.mk 1 (-((n : Int) / 2) - 1) ⟨#[]⟩ 0).val) (by simp [results, Try.results84, go_sem, b0, b1, b2, b3]) rfl ?_
    exact ⟨hKF, ⟨1, zag n, ⟨#[]⟩, 0⟩, at2, bad2, by rw [← ez], zero_ok (n := 1) (by omega) _ (zag_i64 hn) _ (Nat.zero_le _) 0 (small_i64 (by omega)), hRF, by omega, hrl⟩
  · rename_i hodd
    have hodd' : ¬ n % 2 = 1 := by first | omega | (simp at hodd; omega)
    have ez : (n : Int) / 2 = zag n := by unfold zag; rw [if_neg hodd']; omega
    obtain ⟨hKX, hRX⟩ := kset hlt (show w.heap.size ≤ w1.heap.size by omega) 1 (.int .i64 ((n : Int) / 2)) ⟨kk ((kk ((Kept.refl _ w).alloc _) hK1).alloc _) hK2, hR2⟩
    obtain ⟨hKF, hRF⟩ := sfin4 hlt hKX hRX (.int .i64 1) (.int .i64 ((n : Int) / 2)) (.string ⟨#[]⟩) (.int .i64 0)
    have hrl : Hid (SRel (sVal (bs.drop at_)) bad (⟨1, zag n, ⟨#[]⟩, 0⟩ : GV) (bs.drop at2) bad2) := (((SInv.start (sVal (bs.drop at_)) bad).comp (G' := (sNum 10 0 0 (bs.drop at1)).map fun x => (⟨1, zag x.1, ⟨#[]⟩, 0⟩, x.2)) hrel.out (fun h => by rw [sval1 h]; rfl) (fun h => sval0 h)).comp (G' := some (⟨1, zag n, ⟨#[]⟩, 0⟩, bs.drop at2)) hrel2.out (fun h => by rw [h]; rfl) (fun h => by rw [h]; rfl)).rel rfl
    refine bodyPost_ret (v := (GV.mk 1 ((n : Int) / 2) ⟨#[]⟩ 0).val) (by simp [results, Try.results84, go_sem, b0, b1, b2, b3]) rfl ?_
    exact ⟨hKF, ⟨1, zag n, ⟨#[]⟩, 0⟩, at2, bad2, by rw [← ez], zero_ok (n := 1) (by omega) _ (zag_i64 hn) _ (Nat.zero_le _) 0 (small_i64 (by omega)), hRF, by omega, hrl⟩
  · obtain ⟨hKX, hRX⟩ := kset hlt (show w.heap.size ≤ w1.heap.size by omega) 1 (.int .i64 (wrap64 (n : Int))) ⟨kk ((kk ((Kept.refl _ w).alloc _) hK1).alloc _) hK2, hR2⟩
    obtain ⟨hKF, hRF⟩ := sfin4 hlt hKX hRX (.int .i64 2) (.int .i64 (wrap64 (n : Int))) (.string ⟨#[]⟩) (.int .i64 0)
    have hrl : Hid (SRel (sVal (bs.drop at_)) bad (⟨2, wrap64 (n : Int), ⟨#[]⟩, 0⟩ : GV) (bs.drop at2) bad2) := (((SInv.start (sVal (bs.drop at_)) bad).comp (G' := (sLow 8 0 0 (bs.drop at1)).map fun x => (⟨2, wrap64 (x.1 : Int), ⟨#[]⟩, 0⟩, x.2)) hrel.out (fun h => by rw [sval1 h]; rfl) (fun h => sval0 h)).comp (G' := some (⟨2, wrap64 (n : Int), ⟨#[]⟩, 0⟩, bs.drop at2)) hrel2.out (fun h => by rw [h]; rfl) (fun h => by rw [h]; rfl)).rel rfl
    refine bodyPost_ret (v := (GV.mk 2 (wrap64 (n : Int)) ⟨#[]⟩ 0).val) (by simp [results, Try.results84, go_sem, b0, b1, b2, b3]) rfl ?_
    exact ⟨hKF, ⟨2, wrap64 (n : Int), ⟨#[]⟩, 0⟩, at2, bad2, rfl, zero_ok (n := 2) (by omega) _ (i64_wrap2 _) _ (Nat.zero_le _) 0 (small_i64 (by omega)), hRF, by omega, hrl⟩
  · rename_i htn
    obtain ⟨hKF, hRF⟩ := sfin4 hlt (((kk ((kk ((Kept.refl _ w).alloc _) hK1).alloc _) hK2).drewN nq).set (a := ⟨b, 2, none⟩) (fun _ => rfl) (.bool true)) (hR2.drewN nq).setBad (.int .i64 3) (.int .i64 0) (.string ⟨#[]⟩) (.int .i64 0)
    have hrl : Hid (SRel (sVal (bs.drop at_)) bad (⟨3, 0, ⟨#[]⟩, 0⟩ : GV) (bs.drop at2) true) := (((SInv.start (sVal (bs.drop at_)) bad).comp (G' := (sSmall (bs.drop at1)).bind fun x => if x.1 ≤ x.2.length then some (⟨3, 0, strB (x.2.take x.1), 0⟩, x.2.drop x.1) else none) hrel.out (fun h => by rw [sval1 h]; rfl) (fun h => sval0 h)).comp (G' := none) hrel2.out (fun h => by
      rw [h, Option.bind_some]
      refine if_neg ?_
      rw [List.length_drop]
      rcases hat2 with h2 | h2
      · omega
      · intro hc
        by_cases h3 : at1 ≤ bs.length
        · omega
        · rw [drop_zero_of (show bs.length ≤ at1 by omega), ssmall_nil] at h
          cases h) (fun h => by rw [h]; rfl)).bad rfl
    refine bodyPost_ret (v := (GV.mk 3 0 ⟨#[]⟩ 0).val) (by simp [results, Try.results84, go_sem, b0, b1, b2, b3]) rfl ?_
    exact ⟨hKF, ⟨3, 0, ⟨#[]⟩, 0⟩, at2, true, rfl, zero_ok (n := 3) (by omega) 0 (small_i64 (by omega)) _ (Nat.zero_le _) 0 (small_i64 (by omega)), hRF, by omega, hrl⟩
  · have htn : at2 + n ≤ bs.length := by
      rename_i h1 _ _
      omega
    by_cases hca : cap = at2
    · obtain rfl : n = 0 := by omega
      have hbt := take_bytes (p := sa) (n := 0) hR2.low htn (fun h => absurd h (by omega))
      have hcv := conv_text (w := (w2.drewN nq).drew) (n := 0) (c := 0) hbt (by rw [List.length_take, List.length_drop]; omega)
      have hw0 : IntKind.i64.wrap (at2 : Int) = (at2 : Int) := by rw [IntKind.wrap_i64]; omega
      have hw1 : (0 : Int) ≤ (at2 : Int) := by omega
      have hw2 : (at2 : Int) ≤ (cap : Int) := by omega
      refine wp_regionU (fun u => u.cell? ⟨b, 0, none⟩ = some (.slice sa bs.length cap) ∧ u.cell? ⟨b, 1, none⟩ = some (.int .i64 (at2 : Int)) ∧ (convert 28 9 (.slice sa 0 0)).run Try.prog u = .ok (.string (strB ((bs.drop at2).take 0))) u ∧ (u.cell? ⟨w1.heap.size, 2, none⟩ = some (.string ⟨#[]⟩) ∧ u.frozen? ⟨w1.heap.size, 2, none⟩ = false)) 17 (by kernel_rfl) ⟨z2, z3, hcv, g2, gf 2⟩ (fun hS0 => ?_)
      refine anyU_take (i := 0) (v := ?_) rfl (by kernel_rfl) (by kernel_rfl) (by kernel_rfl) (by kernel_rfl) (fun _ _ _ h => h) (Or.inl ⟨by rfl, ?_⟩) hS0 ?_
      rotate_left
      · intro u hSu; obtain ⟨q0, q1, q2, q3⟩ := hSu; go_simp <;> with_reducible rfl
      simp only [Act.put, List.getElem_toArray, List.getElem_cons_zero, List.setIfInBounds_toArray, List.set_cons_zero, List.set_cons_succ]
      refine anyU_take (i := 1) (v := ?_) rfl (by kernel_rfl) (by kernel_rfl) (by kernel_rfl) (by kernel_rfl) (fun _ _ _ h => h) (Or.inl ⟨by rfl, ?_⟩) hS0 ?_
      rotate_left
      · intro u hSu; obtain ⟨q0, q1, q2, q3⟩ := hSu; go_simp <;> with_reducible rfl
      simp only [Act.put, List.getElem_toArray, List.getElem_cons_zero, List.getElem_cons_succ, List.setIfInBounds_toArray, List.set_cons_zero, List.set_cons_succ]
      refine anyU_take (i := 2) (v := ?_) rfl (by kernel_rfl) (by kernel_rfl) (by kernel_rfl) (by kernel_rfl) (fun _ _ _ h => h) (Or.inl ⟨by rfl, ?_⟩) hS0 ?_
      rotate_left
      · intro u hSu; obtain ⟨q0, q1, q2, q3⟩ := hSu; go_simp <;> with_reducible rfl
      simp only [Act.put, List.getElem_toArray, List.getElem_cons_zero, List.getElem_cons_succ, List.setIfInBounds_toArray, List.set_cons_zero, List.set_cons_succ]
      refine anyU_take (i := 3) (v := ?_) rfl (by kernel_rfl) (by kernel_rfl) (by kernel_rfl) (by kernel_rfl) (fun _ _ _ h => h) (Or.inl ⟨by rfl, ?_⟩) hS0 ?_
      rotate_left
      · intro u hSu; obtain ⟨q0, q1, q2, q3⟩ := hSu; go_simp <;> with_reducible rfl
      simp only [Act.put, List.getElem_toArray, List.getElem_cons_zero, List.getElem_cons_succ, List.setIfInBounds_toArray, List.set_cons_zero, List.set_cons_succ]
      refine anyU_take (i := 4) (v := ?_) rfl (by kernel_rfl) (by kernel_rfl) (by kernel_rfl) (by kernel_rfl) (fun _ _ _ h => h) (Or.inl ⟨by rfl, ?_⟩) hS0 ?_
      rotate_left
      · intro u hSu; obtain ⟨q0, q1, q2, q3⟩ := hSu; go_simp <;> with_reducible rfl
      simp only [Act.put, List.getElem_toArray, List.getElem_cons_zero, List.getElem_cons_succ, List.setIfInBounds_toArray, List.set_cons_zero, List.set_cons_succ]
      refine anyU_take (i := 5) (v := ?_) rfl (by kernel_rfl) (by kernel_rfl) (by kernel_rfl) (by kernel_rfl) (fun _ _ _ h => h) (Or.inl ⟨by rfl, ?_⟩) hS0 ?_
      rotate_left
      · intro u hSu; obtain ⟨q0, q1, q2, q3⟩ := hSu; go_simp <;> with_reducible rfl
      simp only [Act.put, List.getElem_toArray, List.getElem_cons_zero, List.getElem_cons_succ, List.setIfInBounds_toArray, List.set_cons_zero, List.set_cons_succ]
      refine anyU_take (i := 6) (v := ?_) rfl (by kernel_rfl) (by kernel_rfl) (by kernel_rfl) (by kernel_rfl) (fun _ _ _ h => h) (Or.inl ⟨by rfl, ?_⟩) hS0 ?_
      rotate_left
      · intro u hSu; obtain ⟨q0, q1, q2, q3⟩ := hSu; go_simp <;> with_reducible rfl
      simp only [Act.put, List.getElem_toArray, List.getElem_cons_zero, List.getElem_cons_succ, List.setIfInBounds_toArray, List.set_cons_zero, List.set_cons_succ]
      refine anyU_take (i := 7) (v := ?_) rfl (by kernel_rfl) (by kernel_rfl) (by kernel_rfl) (by kernel_rfl) (fun _ _ _ h => h) (Or.inl ⟨by rfl, ?_⟩) hS0 ?_
      rotate_left
      · intro u hSu; obtain ⟨q0, q1, q2, q3⟩ := hSu; go_simp <;> with_reducible rfl
      simp only [Act.put, List.getElem_toArray, List.getElem_cons_zero, List.getElem_cons_succ, List.setIfInBounds_toArray, List.set_cons_zero, List.set_cons_succ]
      refine anyU_take (i := 8) (v := ?_) rfl (by kernel_rfl) (by kernel_rfl) (by kernel_rfl) (by kernel_rfl) (fun _ _ _ h => h) (Or.inl ⟨by rfl, ?_⟩) hS0 ?_
      rotate_left
      · intro u hSu; obtain ⟨q0, q1, q2, q3⟩ := hSu; go_simp <;> with_reducible rfl
      simp only [Act.put, List.getElem_toArray, List.getElem_cons_zero, List.getElem_cons_succ, List.setIfInBounds_toArray, List.set_cons_zero, List.set_cons_succ]
      refine anyU_take (i := 9) (v := ?_) rfl (by kernel_rfl) (by kernel_rfl) (by kernel_rfl) (by kernel_rfl) (fun _ _ _ h => h) (Or.inl ⟨by rfl, ?_⟩) hS0 ?_
      rotate_left
      · intro u hSu; obtain ⟨q0, q1, q2, q3⟩ := hSu; go_simp <;> with_reducible rfl
      simp only [Act.put, List.getElem_toArray, List.getElem_cons_zero, List.getElem_cons_succ, List.setIfInBounds_toArray, List.set_cons_zero, List.set_cons_succ]
      refine anyU_take (i := 10) (v := ?_) rfl (by kernel_rfl) (by kernel_rfl) (by kernel_rfl) (by kernel_rfl) (fun _ _ _ h => h) (Or.inl ⟨by rfl, ?_⟩) hS0 ?_
      rotate_left
      · intro u hSu; obtain ⟨q0, q1, q2, q3⟩ := hSu; go_simp <;> with_reducible rfl
      simp only [Act.put, List.getElem_toArray, List.getElem_cons_zero, List.getElem_cons_succ, List.setIfInBounds_toArray, List.set_cons_zero, List.set_cons_succ]
      refine anyU_take (i := 11) (v := ?_) rfl (by kernel_rfl) (by kernel_rfl) (by kernel_rfl) (by kernel_rfl) (fun _ _ _ h => h) (Or.inl ⟨by rfl, ?_⟩) hS0 ?_
      rotate_left
      · intro u hSu; obtain ⟨q0, q1, q2, q3⟩ := hSu; go_simp <;> with_reducible rfl
      simp only [Act.put, List.getElem_toArray, List.getElem_cons_zero, List.getElem_cons_succ, List.setIfInBounds_toArray, List.set_cons_zero, List.set_cons_succ]
      refine anyU_take (i := 12) (v := ?_) rfl (by kernel_rfl) (by kernel_rfl) (by kernel_rfl) (by kernel_rfl) (fun _ _ _ h => h) (Or.inl ⟨by rfl, ?_⟩) hS0 ?_
      rotate_left
      · intro u hSu; obtain ⟨q0, q1, q2, q3⟩ := hSu; go_simp <;> with_reducible rfl
      simp only [Act.put, List.getElem_toArray, List.getElem_cons_zero, List.getElem_cons_succ, List.setIfInBounds_toArray, List.set_cons_zero, List.set_cons_succ]
      refine anyU_take (i := 13) (v := ?_) rfl (by kernel_rfl) (by kernel_rfl) (by kernel_rfl) (by kernel_rfl) (fun _ _ _ h => h) (Or.inl ⟨by rfl, ?_⟩) hS0 ?_
      rotate_left
      · intro u hSu; obtain ⟨q0, q1, q2, q3⟩ := hSu; go_simp <;> with_reducible rfl
      simp only [Act.put, List.getElem_toArray, List.getElem_cons_zero, List.getElem_cons_succ, List.setIfInBounds_toArray, List.set_cons_zero, List.set_cons_succ]
      refine anyU_take (i := 14) (v := ?_) rfl (by kernel_rfl) (by kernel_rfl) (by kernel_rfl) (by kernel_rfl) (fun _ _ _ h => h) (Or.inl ⟨by rfl, ?_⟩) hS0 ?_
      rotate_left
      · intro u hSu; obtain ⟨q0, q1, q2, q3⟩ := hSu; go_simp <;> with_reducible rfl
      simp only [Act.put, List.getElem_toArray, List.getElem_cons_zero, List.getElem_cons_succ, List.setIfInBounds_toArray, List.set_cons_zero, List.set_cons_succ]
      refine anyU_take (i := 15) (v := ?_) rfl (by kernel_rfl) (by kernel_rfl) (by kernel_rfl) (by kernel_rfl) (fun _ _ _ h => h) (Or.inl ⟨by rfl, ?_⟩) hS0 ?_
      rotate_left
      · intro u hSu; obtain ⟨q0, q1, q2, q3⟩ := hSu; go_simp <;> with_reducible rfl
      simp only [Act.put, List.getElem_toArray, List.getElem_cons_zero, List.getElem_cons_succ, List.setIfInBounds_toArray, List.set_cons_zero, List.set_cons_succ]
      refine anyU_take (i := 16) (v := ?_) rfl (by kernel_rfl) (by kernel_rfl) (by kernel_rfl) (by kernel_rfl) (fun _ _ _ h => h) (Or.inl ⟨by rfl, ?_⟩) hS0 ?_
      rotate_left
      · intro u hSu; obtain ⟨q0, q1, q2, q3⟩ := hSu; go_simp <;> with_reducible rfl
      simp only [Act.put, List.getElem_toArray, List.getElem_cons_zero, List.getElem_cons_succ, List.setIfInBounds_toArray, List.set_cons_zero, List.set_cons_succ]
      refine anyU_last (by kernel_rfl) rfl (by kernel_rfl) (fun K hK => ?_)
      obtain ⟨q0, q1, q2, q3, q4⟩ := hS0
      go_simp
      refine hK.out _ _ ?_
      clear hK
      go_wp2
      obtain ⟨hKX, hRX⟩ := kset hlt (show w.heap.size ≤ w1.heap.size by omega) 2 (.string (strB [])) ⟨(kk ((kk ((Kept.refl _ w).alloc _) hK1).alloc _) hK2).drewN (nq + 1), hR2.drewN (nq + 1)⟩
      obtain ⟨hKF, hRF⟩ := sfin4 hlt (hKX.set (a := ⟨b, 1, none⟩) (fun _ => rfl) (.int .i64 (at2 : Int))) (hRX.setAt (z := (at2 : Int)) (n := at2 + 0) (by omega) (by omega)) (.int .i64 3) (.int .i64 0) (.string (strB [])) (.int .i64 0)
      have hrl : Hid (SRel (sVal (bs.drop at_)) bad (⟨3, 0, (strB []), 0⟩ : GV) (bs.drop (at2 + 0)) bad2) := (((SInv.start (sVal (bs.drop at_)) bad).comp (G' := (sSmall (bs.drop at1)).bind fun x => if x.1 ≤ x.2.length then some (⟨3, 0, strB (x.2.take x.1), 0⟩, x.2.drop x.1) else none) hrel.out (fun h => by rw [sval1 h]; rfl) (fun h => sval0 h)).comp (G' := some (⟨3, 0, (strB []), 0⟩, bs.drop (at2 + 0))) hrel2.out (fun h => by
        rw [h, Option.bind_some]
        refine (if_pos ?_).trans ?_
        · rw [List.length_drop]; omega
        · (try rw [List.drop_drop]); (try rfl)) (fun h => by rw [h]; rfl)).rel rfl
      refine bodyPost_ret (v := (GV.mk 3 0 (strB []) 0).val) (by simp [results, Try.results84, go_sem, b0, b1, b2, b3]) rfl ?_
      exact ⟨hKF, ⟨3, 0, (strB []), 0⟩, at2 + 0, bad2, rfl, zero_ok (n := 3) (by omega) 0 (small_i64 (by omega)) _ (by rw [strB_sizeR]; exact Nat.zero_le _) 0 (small_i64 (by omega)), hRF, by omega, hrl⟩
    · have hbt := take_bytes (p := Option.map (fun x => x.add at2) sa) (n := n) hR2.low htn (fun _ g off e => by rw [e]; simp [Addr.add])
      have hcv := conv_text (w := (w2.drewN nq).drew) (n := n) (c := cap - at2) hbt (by rw [List.length_take, List.length_drop]; omega)
      have hw0 : IntKind.i64.wrap ((at2 : Int) + (n : Int)) = (at2 : Int) + (n : Int) := by rw [IntKind.wrap_i64]; omega
      have hw1 : (0 : Int) ≤ (at2 : Int) + (n : Int) := by omega
      have hw2 : (at2 : Int) + (n : Int) ≤ (cap : Int) := by omega
      have hw3 : ((at2 : Int) + (n : Int)).toNat = at2 + n := by omega
      have hw4 : at2 ≤ at2 + n := by omega
      refine wp_regionU (fun u => u.cell? ⟨b, 0, none⟩ = some (.slice sa bs.length cap) ∧ u.cell? ⟨b, 1, none⟩ = some (.int .i64 (at2 : Int)) ∧ (convert 28 9 (.slice (Option.map (fun x => x.add at2) sa) n (cap - at2))).run Try.prog u = .ok (.string (strB ((bs.drop at2).take n))) u ∧ (u.cell? ⟨w1.heap.size, 2, none⟩ = some (.string ⟨#[]⟩) ∧ u.frozen? ⟨w1.heap.size, 2, none⟩ = false)) 17 (by kernel_rfl) ⟨z2, z3, hcv, g2, gf 2⟩ (fun hS0 => ?_)
      refine anyU_take (i := 0) (v := ?_) rfl (by kernel_rfl) (by kernel_rfl) (by kernel_rfl) (by kernel_rfl) (fun _ _ _ h => h) (Or.inl ⟨by rfl, ?_⟩) hS0 ?_
      rotate_left
      · intro u hSu; obtain ⟨q0, q1, q2, q3⟩ := hSu; go_simp <;> with_reducible rfl
      simp only [Act.put, List.getElem_toArray, List.getElem_cons_zero, List.setIfInBounds_toArray, List.set_cons_zero, List.set_cons_succ]
      refine anyU_take (i := 1) (v := ?_) rfl (by kernel_rfl) (by kernel_rfl) (by kernel_rfl) (by kernel_rfl) (fun _ _ _ h => h) (Or.inl ⟨by rfl, ?_⟩) hS0 ?_
      rotate_left
      · intro u hSu; obtain ⟨q0, q1, q2, q3⟩ := hSu; go_simp <;> with_reducible rfl
      simp only [Act.put, List.getElem_toArray, List.getElem_cons_zero, List.getElem_cons_succ, List.setIfInBounds_toArray, List.set_cons_zero, List.set_cons_succ]
      refine anyU_take (i := 2) (v := ?_) rfl (by kernel_rfl) (by kernel_rfl) (by kernel_rfl) (by kernel_rfl) (fun _ _ _ h => h) (Or.inl ⟨by rfl, ?_⟩) hS0 ?_
      rotate_left
      · intro u hSu; obtain ⟨q0, q1, q2, q3⟩ := hSu; go_simp <;> with_reducible rfl
      simp only [Act.put, List.getElem_toArray, List.getElem_cons_zero, List.getElem_cons_succ, List.setIfInBounds_toArray, List.set_cons_zero, List.set_cons_succ]
      refine anyU_take (i := 3) (v := ?_) rfl (by kernel_rfl) (by kernel_rfl) (by kernel_rfl) (by kernel_rfl) (fun _ _ _ h => h) (Or.inl ⟨by rfl, ?_⟩) hS0 ?_
      rotate_left
      · intro u hSu; obtain ⟨q0, q1, q2, q3⟩ := hSu; go_simp <;> with_reducible rfl
      simp only [Act.put, List.getElem_toArray, List.getElem_cons_zero, List.getElem_cons_succ, List.setIfInBounds_toArray, List.set_cons_zero, List.set_cons_succ]
      refine anyU_take (i := 4) (v := ?_) rfl (by kernel_rfl) (by kernel_rfl) (by kernel_rfl) (by kernel_rfl) (fun _ _ _ h => h) (Or.inl ⟨by rfl, ?_⟩) hS0 ?_
      rotate_left
      · intro u hSu; obtain ⟨q0, q1, q2, q3⟩ := hSu; go_simp <;> with_reducible rfl
      simp only [Act.put, List.getElem_toArray, List.getElem_cons_zero, List.getElem_cons_succ, List.setIfInBounds_toArray, List.set_cons_zero, List.set_cons_succ]
      refine anyU_take (i := 5) (v := ?_) rfl (by kernel_rfl) (by kernel_rfl) (by kernel_rfl) (by kernel_rfl) (fun _ _ _ h => h) (Or.inl ⟨by rfl, ?_⟩) hS0 ?_
      rotate_left
      · intro u hSu; obtain ⟨q0, q1, q2, q3⟩ := hSu; go_simp <;> with_reducible rfl
      simp only [Act.put, List.getElem_toArray, List.getElem_cons_zero, List.getElem_cons_succ, List.setIfInBounds_toArray, List.set_cons_zero, List.set_cons_succ]
      refine anyU_take (i := 6) (v := ?_) rfl (by kernel_rfl) (by kernel_rfl) (by kernel_rfl) (by kernel_rfl) (fun _ _ _ h => h) (Or.inl ⟨by rfl, ?_⟩) hS0 ?_
      rotate_left
      · intro u hSu; obtain ⟨q0, q1, q2, q3⟩ := hSu; go_simp <;> with_reducible rfl
      simp only [Act.put, List.getElem_toArray, List.getElem_cons_zero, List.getElem_cons_succ, List.setIfInBounds_toArray, List.set_cons_zero, List.set_cons_succ]
      refine anyU_take (i := 7) (v := ?_) rfl (by kernel_rfl) (by kernel_rfl) (by kernel_rfl) (by kernel_rfl) (fun _ _ _ h => h) (Or.inl ⟨by rfl, ?_⟩) hS0 ?_
      rotate_left
      · intro u hSu; obtain ⟨q0, q1, q2, q3⟩ := hSu; go_simp <;> with_reducible rfl
      simp only [Act.put, List.getElem_toArray, List.getElem_cons_zero, List.getElem_cons_succ, List.setIfInBounds_toArray, List.set_cons_zero, List.set_cons_succ]
      refine anyU_take (i := 8) (v := ?_) rfl (by kernel_rfl) (by kernel_rfl) (by kernel_rfl) (by kernel_rfl) (fun _ _ _ h => h) (Or.inl ⟨by rfl, ?_⟩) hS0 ?_
      rotate_left
      · intro u hSu; obtain ⟨q0, q1, q2, q3⟩ := hSu; go_simp <;> with_reducible rfl
      simp only [Act.put, List.getElem_toArray, List.getElem_cons_zero, List.getElem_cons_succ, List.setIfInBounds_toArray, List.set_cons_zero, List.set_cons_succ]
      refine anyU_take (i := 9) (v := ?_) rfl (by kernel_rfl) (by kernel_rfl) (by kernel_rfl) (by kernel_rfl) (fun _ _ _ h => h) (Or.inl ⟨by rfl, ?_⟩) hS0 ?_
      rotate_left
      · intro u hSu; obtain ⟨q0, q1, q2, q3⟩ := hSu; go_simp <;> with_reducible rfl
      simp only [Act.put, List.getElem_toArray, List.getElem_cons_zero, List.getElem_cons_succ, List.setIfInBounds_toArray, List.set_cons_zero, List.set_cons_succ]
      refine anyU_take (i := 10) (v := ?_) rfl (by kernel_rfl) (by kernel_rfl) (by kernel_rfl) (by kernel_rfl) (fun _ _ _ h => h) (Or.inl ⟨by rfl, ?_⟩) hS0 ?_
      rotate_left
      · intro u hSu; obtain ⟨q0, q1, q2, q3⟩ := hSu; go_simp <;> with_reducible rfl
      simp only [Act.put, List.getElem_toArray, List.getElem_cons_zero, List.getElem_cons_succ, List.setIfInBounds_toArray, List.set_cons_zero, List.set_cons_succ]
      refine anyU_take (i := 11) (v := ?_) rfl (by kernel_rfl) (by kernel_rfl) (by kernel_rfl) (by kernel_rfl) (fun _ _ _ h => h) (Or.inl ⟨by rfl, ?_⟩) hS0 ?_
      rotate_left
      · intro u hSu; obtain ⟨q0, q1, q2, q3⟩ := hSu; go_simp <;> with_reducible rfl
      simp only [Act.put, List.getElem_toArray, List.getElem_cons_zero, List.getElem_cons_succ, List.setIfInBounds_toArray, List.set_cons_zero, List.set_cons_succ]
      refine anyU_take (i := 12) (v := ?_) rfl (by kernel_rfl) (by kernel_rfl) (by kernel_rfl) (by kernel_rfl) (fun _ _ _ h => h) (Or.inl ⟨by rfl, ?_⟩) hS0 ?_
      rotate_left
      · intro u hSu; obtain ⟨q0, q1, q2, q3⟩ := hSu; go_simp <;> with_reducible rfl
      simp only [Act.put, List.getElem_toArray, List.getElem_cons_zero, List.getElem_cons_succ, List.setIfInBounds_toArray, List.set_cons_zero, List.set_cons_succ]
      refine anyU_take (i := 13) (v := ?_) rfl (by kernel_rfl) (by kernel_rfl) (by kernel_rfl) (by kernel_rfl) (fun _ _ _ h => h) (Or.inl ⟨by rfl, ?_⟩) hS0 ?_
      rotate_left
      · intro u hSu; obtain ⟨q0, q1, q2, q3⟩ := hSu; go_simp <;> with_reducible rfl
      simp only [Act.put, List.getElem_toArray, List.getElem_cons_zero, List.getElem_cons_succ, List.setIfInBounds_toArray, List.set_cons_zero, List.set_cons_succ]
      refine anyU_take (i := 14) (v := ?_) rfl (by kernel_rfl) (by kernel_rfl) (by kernel_rfl) (by kernel_rfl) (fun _ _ _ h => h) (Or.inl ⟨by rfl, ?_⟩) hS0 ?_
      rotate_left
      · intro u hSu; obtain ⟨q0, q1, q2, q3⟩ := hSu; go_simp <;> with_reducible rfl
      simp only [Act.put, List.getElem_toArray, List.getElem_cons_zero, List.getElem_cons_succ, List.setIfInBounds_toArray, List.set_cons_zero, List.set_cons_succ]
      refine anyU_take (i := 15) (v := ?_) rfl (by kernel_rfl) (by kernel_rfl) (by kernel_rfl) (by kernel_rfl) (fun _ _ _ h => h) (Or.inl ⟨by rfl, ?_⟩) hS0 ?_
      rotate_left
      · intro u hSu; obtain ⟨q0, q1, q2, q3⟩ := hSu; go_simp <;> with_reducible rfl
      simp only [Act.put, List.getElem_toArray, List.getElem_cons_zero, List.getElem_cons_succ, List.setIfInBounds_toArray, List.set_cons_zero, List.set_cons_succ]
      refine anyU_take (i := 16) (v := ?_) rfl (by kernel_rfl) (by kernel_rfl) (by kernel_rfl) (by kernel_rfl) (fun _ _ _ h => h) (Or.inl ⟨by rfl, ?_⟩) hS0 ?_
      rotate_left
      · intro u hSu; obtain ⟨q0, q1, q2, q3⟩ := hSu; go_simp <;> with_reducible rfl
      simp only [Act.put, List.getElem_toArray, List.getElem_cons_zero, List.getElem_cons_succ, List.setIfInBounds_toArray, List.set_cons_zero, List.set_cons_succ]
      refine anyU_last (by kernel_rfl) rfl (by kernel_rfl) (fun K hK => ?_)
      obtain ⟨q0, q1, q2, q3, q4⟩ := hS0
      go_simp
      refine hK.out _ _ ?_
      clear hK
      go_wp2
      obtain ⟨hKX, hRX⟩ := kset hlt (show w.heap.size ≤ w1.heap.size by omega) 2 (.string (strB ((bs.drop at2).take n))) ⟨(kk ((kk ((Kept.refl _ w).alloc _) hK1).alloc _) hK2).drewN (nq + 1), hR2.drewN (nq + 1)⟩
      obtain ⟨hKF, hRF⟩ := sfin4 hlt (hKX.set (a := ⟨b, 1, none⟩) (fun _ => rfl) (.int .i64 ((at2 : Int) + (n : Int)))) (hRX.setAt (z := ((at2 : Int) + (n : Int))) (n := at2 + n) (by omega) (by omega)) (.int .i64 3) (.int .i64 0) (.string (strB ((bs.drop at2).take n))) (.int .i64 0)
      have hrl : Hid (SRel (sVal (bs.drop at_)) bad (⟨3, 0, (strB ((bs.drop at2).take n)), 0⟩ : GV) (bs.drop (at2 + n)) bad2) := (((SInv.start (sVal (bs.drop at_)) bad).comp (G' := (sSmall (bs.drop at1)).bind fun x => if x.1 ≤ x.2.length then some (⟨3, 0, strB (x.2.take x.1), 0⟩, x.2.drop x.1) else none) hrel.out (fun h => by rw [sval1 h]; rfl) (fun h => sval0 h)).comp (G' := some (⟨3, 0, (strB ((bs.drop at2).take n)), 0⟩, bs.drop (at2 + n))) hrel2.out (fun h => by
        rw [h, Option.bind_some]
        refine (if_pos ?_).trans ?_
        · rw [List.length_drop]; omega
        · (try rw [List.drop_drop]); (try rfl)) (fun h => by rw [h]; rfl)).rel rfl
      refine bodyPost_ret (v := (GV.mk 3 0 (strB ((bs.drop at2).take n)) 0).val) (by simp [results, Try.results84, go_sem, b0, b1, b2, b3]) rfl ?_
      exact ⟨hKF, ⟨3, 0, (strB ((bs.drop at2).take n)), 0⟩, at2 + n, bad2, rfl, text_ok (by rw [strB_sizeR, List.length_take]; omega), hRF, by omega, hrl⟩
  · obtain ⟨hKX, hRX⟩ := kset hlt (show w.heap.size ≤ w1.heap.size by omega) 3 (.int .i64 (n : Int)) ⟨kk ((kk ((Kept.refl _ w).alloc _) hK1).alloc _) hK2, hR2⟩
    obtain ⟨hKF, hRF⟩ := sfin4 hlt hKX hRX (.int .i64 4) (.int .i64 0) (.string ⟨#[]⟩) (.int .i64 (n : Int))
    have hrl : Hid (SRel (sVal (bs.drop at_)) bad (⟨4, 0, ⟨#[]⟩, (n : Int)⟩ : GV) (bs.drop at2) bad2) := (((SInv.start (sVal (bs.drop at_)) bad).comp (G' := (sSmall (bs.drop at1)).map fun x => (⟨4, 0, ⟨#[]⟩, (x.1 : Int)⟩, x.2)) hrel.out (fun h => by rw [sval1 h]; rfl) (fun h => sval0 h)).comp (G' := some (⟨4, 0, ⟨#[]⟩, (n : Int)⟩, bs.drop at2)) hrel2.out (fun h => by rw [h]; rfl) (fun h => by rw [h]; rfl)).rel rfl
    refine bodyPost_ret (v := (GV.mk 4 0 ⟨#[]⟩ (n : Int)).val) (by simp [results, Try.results84, go_sem, b0, b1, b2, b3]) rfl ?_
    exact ⟨hKF, ⟨4, 0, ⟨#[]⟩, (n : Int)⟩, at2, bad2, rfl, zero_ok (n := 4) (by omega) 0 (small_i64 (by omega)) _ (Nat.zero_le _) _ (small_i64 (by omega)), hRF, by omega, hrl⟩
  · have hk1 : k ≠ 1 ∧ k ≠ 2 ∧ k ≠ 3 ∧ k ≠ 4 := by
      refine ⟨?_, ?_, ?_, ?_⟩ <;> (intro e; subst e; simp at n1 n2 n3 n4)
    obtain ⟨_, f0, f1, f2, f3, _⟩ := (hF1.set4 ⟨(k : Int), 0, ⟨#[]⟩, 0⟩).alloc (.cells #[.int .i64 (k : Int), .int .i64 0, .string ⟨#[]⟩, .int .i64 0] 30)
    obtain ⟨hKF, hRF⟩ := sfin4 hlt (kk ((Kept.refl _ w).alloc _) hK1) hR1 (.int .i64 (k : Int)) (.int .i64 0) (.string ⟨#[]⟩) (.int .i64 0)
    have hrl : Hid (SRel (sVal (bs.drop at_)) bad (⟨(k : Int), 0, ⟨#[]⟩, 0⟩ : GV) (bs.drop at1) bad1) := ((SInv.start (sVal (bs.drop at_)) bad).comp (G' := some (⟨(k : Int), 0, ⟨#[]⟩, 0⟩, bs.drop at1)) hrel.out (fun h => by rw [sval1 h, sVal, if_neg hk1.1, if_neg hk1.2.1, if_neg hk1.2.2.1, if_neg hk1.2.2.2]) (fun h => sval0 h)).rel rfl
    refine bodyPost_ret (v := (GV.mk (k : Int) 0 ⟨#[]⟩ 0).val) (by simp [results, Try.results84, go_sem, f0, f1, f2, f3]) rfl ?_
    exact ⟨hKF.alloc _, ⟨(k : Int), 0, ⟨#[]⟩, 0⟩, at1, bad1, rfl, kind_ok hk, hRF.grow (gal (gre _) _), hat1, hrl⟩

end Go.Proofs.Ythjddpkegooobab

/-
  SPL: the specification's reader, plain. Own work.
-/
namespace Go.Proofs.Ythjddpkegooobab
open Go.RowKit

def sVals : Nat → List Nat → Option (List GV × List Nat)
  | 0, r => some ([], r)
  | k + 1, r => (sVal r).bind fun x => (sVals k x.2).map fun y => (x.1 :: y.1, y.2)
def sNode (r : List Nat) : Option (GN × List Nat) :=
  (sSmall r).bind fun t => (sSmall t.2).bind fun m => (sVals m.1 m.2).map fun y => (⟨(t.1 : Int), y.1⟩, y.2)
def sNodes : Nat → List Nat → Option (List GN × List Nat)
  | 0, r => some ([], r)
  | k + 1, r => (sNode r).bind fun x => (sNodes k x.2).map fun y => (x.1 :: y.1, y.2)
def sGraph (r : List Nat) : Option (GG × List Nat) :=
  (sSmall r).bind fun n => (sVal n.2).bind fun x => (sNodes n.1 x.2).map fun y => (⟨x.1, y.1⟩, y.2)

theorem sNum_back : ∀ (k m n i : Nat) (r : List Nat), (numB m).length ≤ k → n < 2 ^ (7 * i) → n + m * 2 ^ (7 * i) < 18446744073709551616 → 7 * i ≤ 64 → sNum k n i (numB m ++ r) = some (n + m * 2 ^ (7 * i), r)
  | 0, m, _, _, _, h, _, _, _ => by
    by_cases hm : m < 128
    · rw [numB_small hm] at h; simp at h
    · rw [numB_great hm] at h; simp at h
  | k + 1, m, n, i, r, hk, hn, hb, hs => by
    by_cases h : m < 128
    · rw [numB_small h]
      show (if m < 128 then _ else _) = _
      rw [if_pos h, Nat.mod_eq_of_lt h, orU_join hn hb hs]
      rfl
    · rw [numB_great h] at hk ⊢
      show (if m % 128 + 128 < 128 then _ else _) = _
      have e1 : (m % 128 + 128) % 128 = m % 128 := by omega
      have hpow : 2 ^ (7 * (i + 1)) = 2 ^ (7 * i) * 128 := by rw [show 7 * (i + 1) = 7 * i + 7 by omega, Nat.pow_add]
      have h2s : 0 < 2 ^ (7 * i) := Nat.pow_pos (by omega)
      have hm : m = m % 128 + m / 128 * 128 := by omega
      have hsum : n + m * 2 ^ (7 * i) = n + m % 128 * 2 ^ (7 * i) + m / 128 * 2 ^ (7 * (i + 1)) := by
        rw [hpow]
        conv => lhs; rw [hm]
        rw [Nat.add_mul, Nat.mul_assoc, Nat.mul_comm 128 (2 ^ (7 * i)), Nat.add_assoc]
      have hs7 : 7 * (i + 1) ≤ 64 := by
        have h1 : 2 ^ (7 * (i + 1)) ≤ m / 128 * 2 ^ (7 * (i + 1)) := Nat.le_mul_of_pos_left _ (by omega)
        have h2 : 2 ^ (7 * (i + 1)) < 2 ^ 64 := by omega
        have := (Nat.pow_lt_pow_iff_right (a := 2) (by omega)).1 h2
        omega
      rw [if_neg (by omega), e1, orU_join hn (by omega) hs]
      have h3 : n + m % 128 * 2 ^ (7 * i) < 2 ^ (7 * (i + 1)) := by
        rw [hpow]
        have h4 : (m % 128 + 1) * 2 ^ (7 * i) ≤ 128 * 2 ^ (7 * i) := Nat.mul_le_mul_right _ (by omega)
        rw [Nat.add_mul] at h4
        rw [Nat.mul_comm (2 ^ (7 * i)) 128]
        omega
      rw [hsum]
      simp only [List.length_cons] at hk
      exact sNum_back k (m / 128) _ (i + 1) r (by omega) h3 (by omega) hs7
theorem sNum_num {m : Nat} (h : m < 18446744073709551616) (r : List Nat) : sNum 10 0 0 (numB m ++ r) = some (m, r) := by
  have h1 := sNum_back 10 m 0 0 r (numB_ten h) (by simp) (by simpa using h) (by omega)
  simpa using h1
theorem sSmall_num {m : Nat} (h : m ≤ 5000) (r : List Nat) : sSmall (numB m ++ r) = some (m, r) := by
  unfold sSmall
  rw [sNum_num (by omega)]
  exact if_pos h
theorem sLow_word {n : Int} (h : I64 n) (r : List Nat) : (sLow 8 0 0 (lowB 8 (u64n n) ++ r)).map (fun x => ((⟨2, wrap64 (x.1 : Int), ⟨#[]⟩, 0⟩ : GV), x.2)) = some (⟨2, n, ⟨#[]⟩, 0⟩, r) := by
  have h1 := sLow_back 8 0 0 (u64n n) r (by omega) (by simp)
  have e1 : u64n n % 2 ^ (8 * 8) = u64n n := Nat.mod_eq_of_lt (u64n_lt n)
  have e2 : 0 + u64n n % 2 ^ (8 * 8) * 2 ^ (8 * 0) = u64n n := by rw [e1]; simp
  rw [h1, e2]
  show some ((⟨2, wrap64 (u64n n : Int), ⟨#[]⟩, 0⟩ : GV), r) = _
  unfold I64 at h
  have e3 : wrap64 (u64n n : Int) = n := by unfold wrap64 u64n; omega
  rw [e3]
theorem bs_take (t : ByteArray) (r : List Nat) : strB ((bsOf t ++ r).take t.size) = t ∧ (bsOf t ++ r).drop t.size = r := by
  have h := bsOf_length t
  constructor
  · rw [← h, List.take_left, strB_bs]
  · rw [← h, List.drop_left]
theorem sVal_back {n : Nat} {v : GV} (hn : n ≤ 300) (ho : v.Ok) (h : okV n v = true) (r : List Nat) : sVal (valB v ++ r) = some (v, r) := by
  rcases okV_cases h with rfl | ⟨m, rfl⟩ | ⟨m, rfl⟩ | ⟨t, ht, rfl⟩ | ⟨k, hk, rfl⟩
  · rfl
  · show sVal (1 :: (numB (zig m) ++ r)) = _
    simp [sVal, sNum_num (zig_lt ho.num), zag_zig]
  · show sVal (2 :: (lowB 8 (u64n m) ++ r)) = _
    exact sLow_word ho.num r
  · show sVal (3 :: (numB t.size ++ bsOf t ++ r)) = _
    obtain ⟨e1, e2⟩ := bs_take t r
    show (sSmall (numB t.size ++ bsOf t ++ r)).bind _ = _
    rw [List.append_assoc, sSmall_num (by omega), Option.bind_some]
    dsimp only
    rw [if_pos (by rw [List.length_append, bsOf_length]; omega), e1, e2]
  · show sVal (4 :: (numB k ++ r)) = _
    simp [sVal, sSmall_num (m := k) (by omega)]
theorem sVals_back {n : Nat} (hn : n ≤ 300) : ∀ (l : List GV) (r : List Nat), (∀ v, v ∈ l → v.Ok) → (∀ v, v ∈ l → okV n v = true) → sVals l.length (valsB l ++ r) = some (l, r)
  | [], r, _, _ => rfl
  | v :: l, r, ho, h => by
    show sVals (l.length + 1) (valB v ++ valsB l ++ r) = _
    rw [sVals, List.append_assoc, sVal_back hn (ho v (List.mem_cons_self ..)) (h v (List.mem_cons_self ..)), Option.bind_some, sVals_back hn l r (fun x hx => ho x (List.mem_cons_of_mem _ hx)) (fun x hx => h x (List.mem_cons_of_mem _ hx))]
    rfl
theorem sNode_back {n : Nat} (hn : n ≤ 300) {x : GN} (ho : x.Ok) (h : okN n x = true) (r : List Nat) : sNode (nodeB x ++ r) = some (x, r) := by
  obtain ⟨h1, h2⟩ := okN_parts h
  have h3 := okN_tag' h
  unfold sNode nodeB
  rw [List.append_assoc, List.append_assoc, sSmall_num (m := x.tag.toNat) (by omega), Option.bind_some]
  dsimp only
  rw [sSmall_num (m := x.vals.length) (by omega), Option.bind_some]
  dsimp only
  rw [sVals_back hn x.vals r ho.vals h2]
  show some ((⟨((x.tag.toNat : Nat) : Int), x.vals⟩ : GN), r) = _
  rw [show ((x.tag.toNat : Nat) : Int) = x.tag by omega]
theorem sNodes_back {n : Nat} (hn : n ≤ 300) : ∀ (l : List GN) (r : List Nat), (∀ v, v ∈ l → v.Ok) → (∀ v, v ∈ l → okN n v = true) → sNodes l.length (nodesB l ++ r) = some (l, r)
  | [], r, _, _ => rfl
  | v :: l, r, ho, h => by
    show sNodes (l.length + 1) (nodeB v ++ nodesB l ++ r) = _
    rw [sNodes, List.append_assoc, sNode_back hn (ho v (List.mem_cons_self ..)) (h v (List.mem_cons_self ..)), Option.bind_some, sNodes_back hn l r (fun x hx => ho x (List.mem_cons_of_mem _ hx)) (fun x hx => h x (List.mem_cons_of_mem _ hx))]
    rfl
theorem sGraph_back {g : GG} (ho : g.Ok) (hok : okG g = true) (r : List Nat) : sGraph ((graphB g ++ r).drop 2) = some (g, r) := by
  obtain ⟨hn, hroot, hnodes⟩ := okG_parts hok
  have e : (graphB g ++ r).drop 2 = numB g.nodes.length ++ (valB g.root ++ (nodesB g.nodes ++ r)) := by unfold graphB; simp only [List.append_assoc]; rfl
  rw [e]
  unfold sGraph
  rw [sSmall_num (m := g.nodes.length) (by omega), Option.bind_some]
  dsimp only
  rw [sVal_back hn ho.root hroot, Option.bind_some]
  dsimp only
  rw [sNodes_back hn g.nodes r ho.nodes hnodes]
  rfl

/-- what the specification's Unpack answers -/
def sUnB (bs : List Nat) : Bool × GG :=
  if 4096 < bs.length then (false, zeroG)
  else match sGraph (bs.drop 2) with
    | some (g, _) => if okG g = true ∧ imageB g = bs then (true, g) else (false, zeroG)
    | none => (false, zeroG)

theorem sUnB_eq (bs : List Nat) (hgs : ∀ g q, sGraph (bs.drop 2) = some (g, q) → bs.length ≤ 4096 → g.Ok) : sUnB bs = unB bs := by
  -- both are right where these bytes are an image, and wrong elsewhere
  by_cases h : ∃ g, g.Ok ∧ okG g = true ∧ imageB g = bs ∧ bs.length ≤ 4096
  · obtain ⟨g, ho, hok, him, hl⟩ := h
    have hcok := canon_okG hok
    have hcO := canon_ok ho hok
    have e0 : bs = graphB (canon g) ++ lowB 8 (sumN (graphB (canon g))) := him.symm
    have hr := rdGraph_back hcO hcok (lowB 8 (sumN (graphB (canon g))))
    have hs := sGraph_back hcO hcok (lowB 8 (sumN (graphB (canon g))))
    rw [← e0] at hr hs
    unfold sUnB unB
    rw [if_neg (by omega), hs, hr]
    dsimp only
    by_cases hc : imageB (canon g) = bs
    · rw [if_pos ⟨hcok, hc⟩, if_pos]
      unfold packB
      rw [if_pos ⟨hcok, by rw [hc]; exact hl⟩]
      exact hc
    · rw [if_neg (fun h => hc h.2), if_neg]
      unfold packB
      split
      · exact hc
      · intro h
        rw [← h] at hr
        cases hr
  · have h1 : sUnB bs = (false, zeroG) := by
      unfold sUnB
      split
      · rfl
      · split
        · rename_i hl _ g q hq
          exact if_neg (fun hh => h ⟨g, hgs g q hq (by omega), hh.1, hh.2, by omega⟩)
        · rfl
    have h2 : unB bs = (false, zeroG) := by
      unfold unB
      split
      · rename_i g q hq
        refine if_neg (fun hh => ?_)
        by_cases hp : okG g = true ∧ (imageB g).length ≤ 4096
        · unfold packB at hh
          rw [if_pos hp] at hh
          exact h ⟨g, rdGraph_ok hq, hp.1, hh, by rw [← hh]; exact hp.2⟩
        · unfold packB at hh
          rw [if_neg hp] at hh
          rw [← hh] at hq
          cases hq
      · rfl
    rw [h1, h2]

end Go.Proofs.Ythjddpkegooobab
