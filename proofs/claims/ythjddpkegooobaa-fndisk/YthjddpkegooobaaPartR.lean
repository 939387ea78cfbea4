import Derived.WalkLawsBesides
import Derived.Deep.QuietTactic
import Derived.Test.YthjddpkegooobaaPartQ

/-
  SUN: the specification's reader. Own work.
-/
namespace Go.Proofs.Ythjddpkegooobaa
open Go.RowKit

/-- the specification's number -/
def sNum : Nat → Nat → Nat → List Nat → Option (Nat × List Nat)
  | 0, _, _, _ => none
  | _ + 1, _, _, [] => none
  | k + 1, n, i, x :: r => if x < 128 then some (orU n (x % 128) (7 * i), r) else sNum k (orU n (x % 128) (7 * i)) (i + 1) r
def sSmall (r : List Nat) : Option (Nat × List Nat) :=
  match sNum 10 0 0 r with
  | some (n, r') => if n ≤ 5000 then some (n, r') else none
  | none => none
def sLow : Nat → Nat → Nat → List Nat → Option (Nat × List Nat)
  | 0, _, n, r => some (n, r)
  | _ + 1, _, _, [] => none
  | k + 1, i, n, x :: r => sLow k (i + 1) (orU n x (8 * i)) r

/-- a reader's three cells -/
structure SR (w : World) (b : Nat) (sa : Option Addr) (cap : Nat) (bs : List Nat) (at_ : Nat) (bad : Bool) : Prop where
  lt : b < w.heap.size
  c0 : w.cell? ⟨b, 0, none⟩ = some (.slice sa bs.length cap)
  c1 : w.cell? ⟨b, 1, none⟩ = some (.int .i64 (at_ : Int))
  c2 : w.cell? ⟨b, 2, none⟩ = some (.bool bad)
  f : ∀ o, w.frozen? ⟨b, o, none⟩ = false
  low : BytesLow b w sa bs
  cap : bs.length ≤ cap
  len : bs.length ≤ 4096
  byte : ∀ x, x ∈ bs → x < 256
  atl : at_ ≤ bs.length + 2

theorem SR.kept {p : Nat → Prop} {w w' : World} {b : Nat} {sa : Option Addr} {cap : Nat} {bs : List Nat} {at_ : Nat} {bad : Bool} (h : SR w b sa cap bs at_ bad) (k : Kept p w w') (hp : ∀ k, k ≤ b → ¬ p k) : SR w' b sa cap bs at_ bad := by
  have e := k.block b h.lt (hp b (Nat.le_refl _))
  exact ⟨Nat.lt_of_lt_of_le h.lt k.size, (World.cell?_of_block (w := w) e).trans h.c0, (World.cell?_of_block (w := w) e).trans h.c1, (World.cell?_of_block (w := w) e).trans h.c2, fun o => (World.frozen?_of_block (w := w) e).trans (h.f o), h.low.below (k.below (by have := h.lt; omega) (fun k hk => hp k (by omega))), h.cap, h.len, h.byte, h.atl⟩
theorem SR.grow {w w' : World} {b : Nat} {sa : Option Addr} {cap : Nat} {bs : List Nat} {at_ : Nat} {bad : Bool} (h : SR w b sa cap bs at_ bad) (k : Below w.heap.size w w') : SR w' b sa cap bs at_ bad := h.kept (Kept.of_below k (fun _ => False)) (fun _ _ e => e)
theorem SR.drewN {w : World} {b : Nat} {sa : Option Addr} {cap : Nat} {bs : List Nat} {at_ : Nat} {bad : Bool} (h : SR w b sa cap bs at_ bad) (k : Nat) : SR (w.drewN k) b sa cap bs at_ bad := ⟨h.lt, h.c0, h.c1, h.c2, h.f, h.low, h.cap, h.len, h.byte, h.atl⟩
theorem SR.setBad {w : World} {b : Nat} {sa : Option Addr} {cap : Nat} {bs : List Nat} {at_ : Nat} {bad : Bool} (h : SR w b sa cap bs at_ bad) : SR (w.setCell ⟨b, 2, none⟩ (.bool true)) b sa cap bs at_ true := by
  refine ⟨by have := h.lt; simpa [World.setCell] using this, ?_, ?_, World.cell?_setCell_same _ _ _ h.c2, fun o => ?_, h.low.below ((Kept.refl (fun k => k = b) w).set (a := ⟨b, 2, none⟩) (fun _ => rfl) _ |>.below (by have := h.lt; omega) (fun k hk e => by omega)), h.cap, h.len, h.byte, h.atl⟩
  · rw [World.cell?_setCell_other _ _ _ _ (by simp)]; exact h.c0
  · rw [World.cell?_setCell_other _ _ _ _ (by simp)]; exact h.c1
  · rw [World.frozen?_setCell]; exact h.f o
theorem SR.setAt {w : World} {b : Nat} {sa : Option Addr} {cap : Nat} {bs : List Nat} {at_ : Nat} {bad : Bool} (h : SR w b sa cap bs at_ bad) {z : Int} {n : Nat} (hz : z = (n : Int)) (hn : n ≤ bs.length + 2) : SR (w.setCell ⟨b, 1, none⟩ (.int .i64 z)) b sa cap bs n bad := by
  subst hz
  refine ⟨by have := h.lt; simpa [World.setCell] using this, ?_, World.cell?_setCell_same _ _ _ h.c1, ?_, fun o => ?_, h.low.below ((Kept.refl (fun k => k = b) w).set (a := ⟨b, 1, none⟩) (fun _ => rfl) _ |>.below (by have := h.lt; omega) (fun k hk e => by omega)), h.cap, h.len, h.byte, hn⟩
  · rw [World.cell?_setCell_other _ _ _ _ (by simp)]; exact h.c0
  · rw [World.cell?_setCell_other _ _ _ _ (by simp)]; exact h.c2
  · rw [World.frozen?_setCell]; exact h.f o

/-- how what was read stands to what was to be read -/
def SRel {α : Type} (f : Option (α × List Nat)) (bad : Bool) (x : α) (r' : List Nat) (bad' : Bool) : Prop :=
  (bad = true → bad' = true) ∧ (bad = false → (bad' = false ∧ f = some (x, r')) ∨ (bad' = true ∧ f = none))
/-- what a reader's call leaves -/
def SPost {α : Type} (f : Option (α × List Nat)) (enc : α → Value) (ok : α → Prop) (b : Nat) (sa : Option Addr) (cap : Nat) (bs : List Nat) (at_ : Nat) (bad : Bool) (w : World) (e : Ending) (w' : World) : Prop :=
  Kept (fun k => k = b) w w' ∧ ∃ x at' bad', e = .returned (enc x) ∧ ok x ∧ SR w' b sa cap bs at' bad' ∧ (at' ≤ bs.length ∨ at' = at_) ∧ Hid (SRel f bad x (bs.drop at') bad')

theorem drop_zero_of {bs : List Nat} {k : Nat} (h : bs.length ≤ k) : bs.drop k = [] := List.drop_of_length_le h

set_option maxRecDepth 100000 in
theorem sByte_any (b : Nat) (sa : Option Addr) (cap : Nat) (bs : List Nat) (at_ : Nat) (bad : Bool) (w : World) (hR : SR w b sa cap bs at_ bad) :
    Calls Try.prog 125 #[.pointer (some ⟨b, 0, none⟩)] w (SPost (rdByte (bs.drop at_)) (fun x => .int .u8 (x : Int)) (fun x => x < 256) b sa cap bs at_ bad w) := by
  have hatl := hR.atl
  have hlen := hR.len
  obtain ⟨hlt, c0, c1, c2, hf, hlow, hcap, _, hbyte, _⟩ := id hR
  by_cases h : at_ < bs.length
  · have hd : ¬ ((bs.length : Int) ≤ (at_ : Int)) := by omega
    obtain ⟨x, hx⟩ := hidx bs[at_]!
    have hxm : x < 256 := by rw [hx.out]; exact hbyte _ (mem_at h)
    have e1 : Hid (rdByte (bs.drop at_) = some (x, bs.drop (at_ + 1))) := by show _ = _; rw [drop_cons h, hx.out]; rfl
    obtain ⟨ba, off, rfl, hba, hcell⟩ := hlow at_ h
    rw [← hx.out] at hcell
    have hne : ba ≠ b := by omega
    go_enter Try.func125, Try.ntmps125
    go_wp2_with (go_quiet (fail))
    go_ret
    refine ⟨(((Kept.refl (fun k => k = b) w).drewN _).set (fun _ => rfl) _).drewN _, x, at_ + 1, bad, rfl, hxm, ?_, Or.inl (by omega), ⟨fun h => h, fun _ => ?_⟩⟩
    · exact ((hR.drewN _).setAt (by omega) (by omega)).drewN _
    · cases bad
      · exact Or.inl ⟨rfl, e1.out⟩
      · rename_i hc; cases hc
  · have hd : ((bs.length : Int) ≤ (at_ : Int)) := by omega
    have e1 : Hid (rdByte (bs.drop at_) = none) := by show _ = _; rw [drop_zero_of (by omega)]; rfl
    go_enter Try.func125, Try.ntmps125
    go_wp2_with (go_quiet (fail))
    go_ret
    exact ⟨((Kept.refl (fun k => k = b) w).drewN _).set (fun _ => rfl) _, 0, at_, true, rfl, by omega, (hR.drewN _).setBad, Or.inr rfl, ⟨fun _ => rfl, fun _ => Or.inr ⟨rfl, e1.out⟩⟩⟩

theorem byte_cons {r r' : List Nat} {x : Nat} (h : rdByte r = some (x, r')) : r = x :: r' := by
  cases r with
  | nil => cases h
  | cons y t =>
    have e : y = x ∧ t = r' := by simpa [rdByte] using h
    rw [e.1, e.2]
theorem byte_nil {r : List Nat} (h : rdByte r = none) : r = [] := by
  cases r with
  | nil => rfl
  | cons y t => cases h

/-- where a loop of reading stands -/
def SInv {α : Type} (f g : Option (α × List Nat)) (bad0 bad : Bool) : Prop := (bad0 = true → bad = true) ∧ (bad0 = false → bad = false → f = g) ∧ (bad0 = false → bad = true → f = none)

theorem SInv.start {α : Type} (f : Option (α × List Nat)) (bad : Bool) : SInv f f bad bad := ⟨fun h => h, fun _ _ => rfl, fun h h' => by rw [h] at h'; cases h'⟩
theorem SInv.comp {α β : Type} {F G G' : Option (β × List Nat)} {f1 : Option (α × List Nat)} {bad bad1 bad2 : Bool} {x : α} {r2 : List Nat} (h : SInv F G bad bad1) (hr : SRel f1 bad1 x r2 bad2) (h1 : f1 = some (x, r2) → G = G') (h0 : f1 = none → G = none) : SInv F G' bad bad2 := by
  refine ⟨fun hb => hr.1 (h.1 hb), fun hb hb2 => ?_, fun hb hb2 => ?_⟩
  · cases hb1 : bad1 with
    | true => rw [hr.1 hb1] at hb2; cases hb2
    | false =>
      rcases hr.2 hb1 with ⟨_, e⟩ | ⟨e, _⟩
      · exact (h.2.1 hb hb1).trans (h1 e)
      · rw [e] at hb2; cases hb2
  · cases hb1 : bad1 with
    | true => exact h.2.2 hb hb1
    | false =>
      rcases hr.2 hb1 with ⟨e, _⟩ | ⟨_, e⟩
      · rw [e] at hb2; cases hb2
      · exact (h.2.1 hb hb1).trans (h0 e)
theorem SInv.rel {α : Type} {F G : Option (α × List Nat)} {bad bad1 : Bool} {y : α} {r : List Nat} (h : SInv F G bad bad1) (hG : G = some (y, r)) : SRel F bad y r bad1 := by
  refine ⟨h.1, fun hb => ?_⟩
  cases hb1 : bad1 with
  | true => exact Or.inr ⟨rfl, h.2.2 hb hb1⟩
  | false => exact Or.inl ⟨rfl, (h.2.1 hb hb1).trans hG⟩
theorem SInv.bad {α : Type} {F G : Option (α × List Nat)} {bad bad1 : Bool} {y : α} {r : List Nat} (h : SInv F G bad bad1) (hG : G = none) : SRel F bad y r true := by
  refine ⟨fun _ => rfl, fun hb => Or.inr ⟨rfl, ?_⟩⟩
  cases hb1 : bad1 with
  | true => exact h.2.2 hb hb1
  | false => exact (h.2.1 hb hb1).trans hG
theorem sOr_form {n x s : Nat} (hn : n < 18446744073709551616) (_hx : x < 18446744073709551616) (hs : s ≤ 64) : bits .or .u64 (n : Int) (IntKind.u64.wrap ((x : Int) * 2 ^ s)) = ((orU n x s : Nat) : Int) := by
  have e3 : ((x : Int) * 2 ^ s) = ((x * 2 ^ s : Nat) : Int) := by push_cast; rfl
  have e4 : IntKind.u64.wrap ((x * 2 ^ s : Nat) : Int) = ((x * 2 ^ s % 18446744073709551616 : Nat) : Int) := by rw [IntKind.wrap_u64]; generalize x * 2 ^ s = y; omega
  rw [e3, e4, u64_or_nat n _ hn (Nat.mod_lt _ (by omega))]
  unfold orU
  rw [Nat.min_eq_left hs]
theorem and127 {x : Nat} (hx : x < 256) : IntKind.u64.wrap (bits .and .u8 (x : Int) 127) = ((x % 128 : Nat) : Int) := by
  have e1 : bits .and .u8 (x : Int) 127 = ((x % 128 : Nat) : Int) := by
    rw [u8_and _ _ (by omega) (by omega) (by omega) (by omega)]
    have h1 : (127 : Int).toNat = 127 := rfl
    rw [h1, Int.toNat_natCast, nat_mask7]
  rw [e1, IntKind.wrap_u64]; omega

set_option maxRecDepth 100000 in
theorem sEight_any (b : Nat) (sa : Option Addr) (cap : Nat) (bs : List Nat) (at_ : Nat) (bad : Bool) (w : World) (hR : SR w b sa cap bs at_ bad) :
    Calls Try.prog 126 #[.pointer (some ⟨b, 0, none⟩)] w (SPost (sLow 8 0 0 (bs.drop at_)) (fun x => .int .u64 (x : Int)) (fun x => x < 18446744073709551616) b sa cap bs at_ bad w) := by
  go_enter Try.func126, Try.ntmps126
  go_wp2
  go_loopw [3, 4] (fun a c ws => ∃ (n i at1 : Nat) (bad1 : Bool), a = .int .u64 n ∧ c = .int .i64 i ∧ n < 18446744073709551616 ∧ i ≤ 8 ∧ Hid (SInv (sLow 8 0 0 (bs.drop at_)) (sLow (8 - i) i n (bs.drop at1)) bad bad1) ∧ SR ws b sa cap bs at1 bad1 ∧ (at1 ≤ bs.length ∨ at1 = at_) ∧ Kept (fun k => k = b) w ws) (fun _ c _ => 8 - (intOf c).toNat)
  case atStart => exact ⟨0, 0, at_, bad, rfl, rfl, by omega, by omega, SInv.start _ _, hR, Or.inr rfl, Kept.refl _ _⟩
  case round =>
    obtain ⟨n, i, at1, bad1, rfl, rfl, hn, hi, hinv, hR1, hat1, hK⟩ := hrel
    by_cases hlt : i < 8
    · have hd : (i : Int) < 8 := by omega
      go_wp2_with (go_at_call 125; refine (sByte_any b sa cap bs at1 bad1 _ hR1).mono ?_; rintro e w1 ⟨hK1, x, at2, bad2, rfl, hx, hR2, hat2, hrel⟩)
      have e6 : IntKind.u64.wrap (x : Int) = (x : Int) := by rw [IntKind.wrap_u64]; omega
      refine ⟨⟨orU n x (8 * i), i + 1, at2, bad2, congrArg (Value.int .u64) (by first | exact sOr_form hn (by omega) (by omega) | (rw [e6]; exact sOr_form hn (by omega) (by omega))), by go_num, orU_lt hn, by omega, ?_, hR2, by omega, kk hK hK1⟩, by simp [intOf]; omega⟩
      refine hinv.out.comp hrel.out (fun h => ?_) (fun h => ?_)
      · rw [byte_cons h, show 8 - i = (8 - (i + 1)) + 1 by omega, sLow]
      · rw [byte_nil h, show 8 - i = (7 - i) + 1 by omega, sLow]
    · obtain rfl : i = 8 := by omega
      go_wp2
      go_ret
      exact ⟨hK, n, at1, bad1, rfl, hn, hR1, hat1, hinv.out.rel rfl⟩

end Go.Proofs.Ythjddpkegooobaa

/-
  SLOW: words are read back. Own work.
-/
namespace Go.Proofs.Ythjddpkegooobaa
open Go.RowKit

theorem sLow_back : ∀ (k i a m : Nat) (r : List Nat), i + k = 8 → a < 2 ^ (8 * i) → sLow k i a (lowB k m ++ r) = some (a + m % 2 ^ (8 * k) * 2 ^ (8 * i), r)
  | 0, i, a, m, r, _, _ => by
    show some (_, r) = _
    simp [Nat.mod_one]
  | k + 1, i, a, m, r, hk, ha => by
    show sLow k (i + 1) (orU a (m % 256) (8 * i)) (lowB k (m / 256) ++ r) = _
    have hp : 2 ^ (8 * (i + 1)) = 2 ^ (8 * i) * 256 := by rw [show 8 * (i + 1) = 8 * i + 8 by omega, Nat.pow_add]
    have hlt : a + m % 256 * 2 ^ (8 * i) < 2 ^ (8 * (i + 1)) := by
      have h1 : (m % 256 + 1) * 2 ^ (8 * i) ≤ 256 * 2 ^ (8 * i) := Nat.mul_le_mul_right _ (by omega)
      rw [Nat.add_mul] at h1
      rw [hp, Nat.mul_comm (2 ^ (8 * i)) 256]
      omega
    have h64 : 2 ^ (8 * (i + 1)) ≤ 2 ^ 64 := Nat.pow_le_pow_right (by omega) (by omega)
    rw [orU_join ha (by omega) (by omega), sLow_back k (i + 1) _ (m / 256) r (by omega) hlt]
    congr 2
    have e1 : m % 2 ^ (8 * (k + 1)) = m % 256 + m / 256 % 2 ^ (8 * k) * 256 := by
      rw [show 2 ^ (8 * (k + 1)) = 256 * 2 ^ (8 * k) by rw [show 8 * (k + 1) = 8 + 8 * k by omega, Nat.pow_add], Nat.mod_mul]
      omega
    rw [e1, hp, Nat.add_mul, Nat.mul_assoc, Nat.mul_comm 256 (2 ^ (8 * i)), Nat.add_assoc]

end Go.Proofs.Ythjddpkegooobaa

/-
  SEQUAL: the specification's comparing of bytes. Own work.
-/
namespace Go.Proofs.Ythjddpkegooobaa
open Go.RowKit


set_option maxRecDepth 100000 in
theorem l2equal_any (a a' : Option Addr) (xs ys : List Nat) (c c' : Nat) (w : World) (hl : xs.length ≤ maxLen) (_hl' : ys.length ≤ maxLen) (ha : BytesAt w a xs) (ha' : BytesAt w a' ys) :
    Calls Try.prog 73 #[.slice a xs.length c, .slice a' ys.length c'] w fun e w' => e = .returned (.bool (decide (xs = ys))) ∧ Below w.heap.size w w' := by
  unfold maxLen at hl
  by_cases hne : xs.length = ys.length
  · have hd : ((xs.length : Int) != (ys.length : Int)) = false := by rw [hne]; simp
    have hne' : Hid _ := hne
    clear hne
    go_enter Try.func73, Try.ntmps73
    go_wp2
    go_loopw [13] (fun i ws => ∃ (k : Nat), i = .int .i64 k ∧ k ≤ xs.length ∧ Hid (∀ j, j < k → xs[j]! = ys[j]!) ∧ Below w.heap.size w ws) (fun i _ => xs.length - (intOf i).toNat)
    case atStart => exact ⟨0, rfl, Nat.zero_le _, fun j hj => absurd hj (Nat.not_lt_zero _), gre _⟩
    case round =>
      obtain ⟨k, rfl, hk, hall, hb⟩ := hrel
      by_cases hlt : k < xs.length
      · obtain ⟨x, b, off, hxk, hxm, rfl, hc⟩ := (ha.grow hb).get hlt
        obtain ⟨y, b', off', hyk, hym, rfl, hc'⟩ := (ha'.grow hb).get (k := k) (by rw [← hne'.out]; exact hlt)
        have hlt' : k < ys.length := by rw [← hne'.out]; exact hlt
        by_cases hxy : x = y
        · subst hxy
          have hn2 : ((x : Int) != (x : Int)) = false := by simp
          go_wp2_with (go_quiet (fail))
          go_roundw
          case rel =>
            refine ⟨k + 1, by go_num, by omega, fun j hj => ?_, hb.trans ⟨rfl, rfl, rfl, Nat.le_refl _, fun _ _ => rfl⟩⟩
            by_cases e : j = k
            · rw [e, ← hxk.out, ← hyk.out]
            · exact hall.out j (by omega)
          case measure => simp [intOf]; omega
        · have hn2 : ((x : Int) != (y : Int)) = true := by simp; omega
          have hdec : Hid (decide (xs = ys) = false) := decide_eq_false (fun e => hxy (by rw [hxk.out, hyk.out, e]))
          go_wp2_with (go_quiet (fail))
          go_ret
          exact ⟨by rw [hdec.out]; rfl, hb.trans ⟨rfl, rfl, rfl, Nat.le_refl _, fun _ _ => rfl⟩⟩
      · have hdec : Hid (decide (xs = ys) = true) := decide_eq_true (List.ext_getElem hne'.out (fun i h1 h2 => by
          have := hall.out i (by omega)
          rwa [getElem!_pos xs i h1, getElem!_pos ys i h2] at this))
        go_wp2
        go_ret
        exact ⟨by rw [hdec.out]; rfl, hb⟩
  · have hd : ((xs.length : Int) != (ys.length : Int)) = true := by simp; omega
    have hdec : Hid (decide (xs = ys) = false) := decide_eq_false (fun e => hne (by rw [e]))
    go_enter Try.func73, Try.ntmps73
    go_wp2
    go_ret
    exact ⟨by rw [hdec.out]; rfl, gre _⟩

end Go.Proofs.Ythjddpkegooobaa

/-
  SRD: the specification's reading of blocks. Own work.
-/
namespace Go.Proofs.Ythjddpkegooobaa
open Go.RowKit

/-- bytes that are handed back -/
def BPost (ys : List Nat) (w : World) (e : Ending) (w' : World) : Prop := ∃ oa c, e = .returned (.slice oa ys.length c) ∧ BytesAt w' oa ys ∧ Below w.heap.size w w'

/-- bytes that are handed back, in memory of their own -/
def OPost (ys : List Nat) (w : World) (e : Ending) (w' : World) : Prop := ∃ oa c, e = .returned (.slice oa ys.length c) ∧ w'.ownsRow w.heap.size 5 1 (.slice oa ys.length c) ys.length (bcells ys) ∧ Below w.heap.size w w'

set_option maxRecDepth 100000 in
theorem l3read_own (d : DD) (l : DL) (m : Nat) (w : World) (hd : d.Fit) (ha : DAt w l d) (hm : m < 130) : Calls Try.prog 167 #[d.val l, .int .i64 (m : Int)] w (OPost (readN d.blocks d.waiting (m : Int) d.waiting.length) w) := by
  obtain ⟨ys, hys⟩ := hid_ex (readN d.blocks d.waiting (m : Int) d.waiting.length)
  rw [← hys.out]
  have hA := gal (gre w) (.cells #[.slice l.ba d.blocks.length l.bc, .slice l.wa d.waiting.length l.wc] 44)
  have hX0 := DBox.new w d l 44
  have hwl := hd.wl
  go_enter Try.func167, Try.ntmps167
  go_wp2
  generalize w.alloc (.cells #[.slice l.ba d.blocks.length l.bc, .slice l.wa d.waiting.length l.wc] 44) = wA at hA hX0 ⊢
  go_loopw [5] (fun i wr => ∃ j : Nat, j ≤ d.waiting.length ∧ i = .int .i64 ((j : Int) - 1) ∧ Hid (ys = readN d.blocks d.waiting (m : Int) j) ∧ Below wA.heap.size wA wr) (fun i _ => (intOf i + 1).toNat)
  case atStart => exact ⟨d.waiting.length, Nat.le_refl _, by go_num, hys, gre _⟩
  case round =>
    obtain ⟨j, hj, rfl, hr, hb⟩ := hrel
    have hX := hX0.grow hb
    have x0 := hX.c0
    have x1 := hX.c1
    have hB := gca hA hb
    cases j with
    | zero =>
      have hlt : m < d.blocks.length := by rw [hd.bl]; exact hm
      obtain ⟨n, b, off, av, cv, hvk, hvm, hba, c0, hva⟩ := (ha.b.grow hB).get hlt
      rw [hba] at x0
      have hn64 := hd.bb n hvm
      have hyn : Hid (ys = n) := by show _ = _; rw [hr.out, hvk.out]; simp [readN]
      have i0 : (0 : Int) ≤ (m : Int) := by omega
      have i1 : (m : Int) < (d.blocks.length : Int) := by omega
      have hn64' : Hid _ := hn64
      clear hn64
      rw [show ((0 : Nat) : Int) - 1 = -1 by rfl]
      go_wp2_with (go_at_call 85; refine (l2copy_any av n cv _ (by rw [hn64'.out]; decide) hva).mono ?_; rintro e w2 ⟨oa, oc, rfl, hown, hb2⟩)
      go_ret
      exact ⟨oa, oc, by rw [hyn.out]; rfl, by rw [hyn.out]; exact owns_le hown hB.size, gca hB hb2⟩
    | succ k =>
      have hlt : k < d.waiting.length := by omega
      obtain ⟨n, b, off, av, cv, hvk, hvm, hba, c0, c1, hva⟩ := (ha.w.grow hB).get hlt
      rw [hba] at x1
      have hn64 := (hd.wb n hvm).2.2
      have i0 : (0 : Int) ≤ (k : Int) := by omega
      have i1 : (k : Int) < (d.waiting.length : Int) := by omega
      have i2 : ((k : Int) ≥ 0) := by omega
      have hn64' : Hid _ := hn64
      clear hn64
      rw [show ((k + 1 : Nat) : Int) - 1 = (k : Int) by omega]
      by_cases heq : n.block = (m : Int)
      · have t1 : (n.block == (m : Int)) = true := by simp [heq]
        have hyn : Hid (ys = n.bytes) := by show _ = _; rw [hr.out]; simp only [readN]; rw [← hvk.out, if_pos heq]
        have heq' : Hid _ := heq
        clear heq
        go_wp2_with (go_at_call 85; refine (l2copy_any av n.bytes cv _ (by rw [hn64'.out]; decide) hva).mono ?_; rintro e w2 ⟨oa, oc, rfl, hown, hb2⟩)
        go_ret
        exact ⟨oa, oc, by rw [hyn.out]; rfl, by rw [hyn.out]; exact owns_le hown hB.size, gca hB hb2⟩
      · have t1 : (n.block == (m : Int)) = false := by simpa using heq
        have hst : Hid (ys = readN d.blocks d.waiting (m : Int) k) := by show _ = _; rw [hr.out]; simp only [readN]; rw [← hvk.out, if_neg heq]
        clear heq
        go_wp2
        go_roundw
        case rel => exact ⟨k, by omega, by go_num, hst, hb⟩
        case measure => first | (simp [intOf]; done) | (simp [intOf]; omega)

theorem l3read_any (d : DD) (l : DL) (m : Nat) (w : World) (hd : d.Fit) (ha : DAt w l d) (hm : m < 130) : Calls Try.prog 167 #[d.val l, .int .i64 (m : Int)] w (BPost (readN d.blocks d.waiting (m : Int) d.waiting.length) w) :=
  (l3read_own d l m w hd ha hm).mono fun _ _ ⟨oa, c, h1, h2, h3⟩ => ⟨oa, c, h1, owns_bytes h2, h3⟩

theorem read_no1 {d : DD} {b : Int} (h : d.ok = false) : d.read b = [] := by simp [DD.read, h]
theorem read_no2 {d : DD} {b : Int} (h : (decide (0 ≤ b) && decide (b < 130)) = false) : d.read b = [] := by simp only [DD.read, h, Bool.and_false]; rfl
theorem read_yes {d : DD} {m : Nat} (h : d.ok = true) (hm : m < 130) : d.read (m : Int) = readN d.blocks d.waiting (m : Int) d.waiting.length := by
  have h2 : (decide (0 ≤ (m : Int)) && decide ((m : Int) < 130)) = true := by simp; omega
  simp only [DD.read, h, h2, Bool.and_self, if_true]

end Go.Proofs.Ythjddpkegooobaa
