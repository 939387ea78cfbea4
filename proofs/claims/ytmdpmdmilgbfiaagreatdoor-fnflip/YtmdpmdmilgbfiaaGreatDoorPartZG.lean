import Derived.WalkLawsBesides
import Derived.Deep.QuietTactic
import Derived.Test.YtmdpmdmilgbfiaaGreatDoorPartS
import Derived.Test.YtmdpmdmilgbfiaaGreatDoorPartZA

/-
  L6: drawing from bytes. Own work.
-/
namespace Go.Proofs.YtmdpmdmilgbfiaaGreatDoor
open Go.RowKit

/-- a drawing cursor's three cells, and the bytes that it draws from -/
structure DC (w : World) (b : Nat) (sa : Option Addr) (bs : List Nat) (cap at_ : Nat) : Prop where
  lt : b < w.heap.size
  c0 : w.cell? ⟨b, 0, none⟩ = some (.slice sa bs.length cap)
  c1 : w.cell? ⟨b, 1, none⟩ = some (.int .i64 (at_ : Int))
  c2 : ∃ s : Nat, s < 18446744073709551616 ∧ w.cell? ⟨b, 2, none⟩ = some (.int .u64 (s : Int))
  f : ∀ o, w.frozen? ⟨b, o, none⟩ = false
  at8 : BytesAt w sa bs
  ne : ∀ g off, sa = some ⟨g, off, none⟩ → g ≠ b
  u8 : ∀ x, x ∈ bs → x < 256
  len : bs.length ≤ maxLen
  sl : ∀ g off, sa = some ⟨g, off, none⟩ → g < w.heap.size

/-- what a draw leaves -/
structure DK (w w' : World) (b : Nat) (sa : Option Addr) (bs : List Nat) (cap at_ : Nat) : Prop where
  dc : DC w' b sa bs cap at_
  kept : Kept (fun k => k = b) w w'

theorem BytesAt.kept {p : Nat → Prop} {w w' : World} {a : Option Addr} {bs : List Nat} (h : BytesAt w a bs) (k : Kept p w w') (hn : ∀ g off, a = some ⟨g, off, none⟩ → ¬ p g) : BytesAt w' a bs := fun i hi => by
  obtain ⟨b, off, ha, hc⟩ := h i hi
  exact ⟨b, off, ha, k.cell hc (hn b off ha)⟩
theorem DC.kept {p : Nat → Prop} {w w' : World} {b : Nat} {sa : Option Addr} {bs : List Nat} {cap at_ : Nat} (h : DC w b sa bs cap at_) (k : Kept p w w') (hn : ¬ p b) (hs : ∀ g off, sa = some ⟨g, off, none⟩ → ¬ p g) : DC w' b sa bs cap at_ := by
  have e := k.block b h.lt hn
  obtain ⟨s, hs2, hc2⟩ := h.c2
  exact ⟨Nat.lt_of_lt_of_le h.lt k.size, (World.cell?_of_block (w := w) e).trans h.c0, (World.cell?_of_block (w := w) e).trans h.c1, ⟨s, hs2, (World.cell?_of_block (w := w) e).trans hc2⟩, fun o => (World.frozen?_of_block (w := w) e).trans (h.f o), h.at8.kept k hs, h.ne, h.u8, h.len, fun g off e => Nat.lt_of_lt_of_le (h.sl g off e) k.size⟩
theorem DC.drewN {w : World} {b : Nat} {sa : Option Addr} {bs : List Nat} {cap at_ : Nat} (h : DC w b sa bs cap at_) (k : Nat) : DC (w.drewN k) b sa bs cap at_ := ⟨h.lt, h.c0, h.c1, h.c2, h.f, h.at8, h.ne, h.u8, h.len, h.sl⟩
theorem DC.setAt {w : World} {b : Nat} {sa : Option Addr} {bs : List Nat} {cap at_ : Nat} (h : DC w b sa bs cap at_) {z : Int} {n : Nat} (hz : z = (n : Int)) : DC (w.setCell ⟨b, 1, none⟩ (.int .i64 z)) b sa bs cap n := by
  subst hz
  obtain ⟨s, hs2, hc2⟩ := h.c2
  refine ⟨by have := h.lt; simpa [World.setCell] using this, ?_, World.cell?_setCell_same _ _ _ h.c1, ⟨s, hs2, ?_⟩, fun o => ?_, ?_, h.ne, h.u8, h.len, fun g off e => by have := h.sl g off e; simpa [World.setCell] using this⟩
  · rw [World.cell?_setCell_other _ _ _ _ (by simp)]; exact h.c0
  · rw [World.cell?_setCell_other _ _ _ _ (by simp)]; exact hc2
  · rw [World.frozen?_setCell]; exact h.f o
  · exact h.at8.kept ((Kept.refl (fun k => k = b) w).set (fun _ => rfl) _) h.ne
theorem DC.setSeed {w : World} {b : Nat} {sa : Option Addr} {bs : List Nat} {cap at_ : Nat} (h : DC w b sa bs cap at_) (z : Int) : DC (w.setCell ⟨b, 2, none⟩ (.int .u64 (IntKind.u64.wrap z))) b sa bs cap at_ := by
  obtain ⟨s, hs2, hc2⟩ := h.c2
  refine ⟨by have := h.lt; simpa [World.setCell] using this, ?_, ?_, ⟨(z % 18446744073709551616).toNat, by omega, ?_⟩, fun o => ?_, ?_, h.ne, h.u8, h.len, fun g off e => by have := h.sl g off e; simpa [World.setCell] using this⟩
  · rw [World.cell?_setCell_other _ _ _ _ (by simp)]; exact h.c0
  · rw [World.cell?_setCell_other _ _ _ _ (by simp)]; exact h.c1
  · rw [World.cell?_setCell_same _ _ _ hc2, IntKind.wrap_u64, Int.toNat_of_nonneg (by omega)]
  · rw [World.frozen?_setCell]; exact h.f o
  · exact h.at8.kept ((Kept.refl (fun k => k = b) w).set (fun _ => rfl) _) h.ne
theorem DK.trans {w w' w'' : World} {b : Nat} {sa : Option Addr} {bs : List Nat} {cap at_ at' : Nat} (h : DK w w' b sa bs cap at_) (k : DK w' w'' b sa bs cap at') : DK w w'' b sa bs cap at' := ⟨k.dc, h.kept.trans k.kept (fun _ _ e => e)⟩
theorem KeptD.drewN {p : Nat → Prop} {w w' : World} (h : Kept p w w') (k : Nat) : Kept p w (w'.drewN k) := ⟨h.os, h.tape, h.output, h.size, h.block⟩

theorem low8 (z : Int) : ∃ x : Nat, x < 256 ∧ wrap64 (bits .and .u64 (IntKind.u64.wrap z / 1099511627776) 255) = (x : Int) := by
  rw [IntKind.wrap_u64]
  generalize hy : z % 18446744073709551616 / 1099511627776 = y
  obtain ⟨n, rfl⟩ : ∃ n : Nat, y = (n : Int) := ⟨y.toNat, by omega⟩
  have h := u64_and_nat n 255 (by omega) (by omega)
  have h2 : n &&& 255 ≤ 255 := Nat.and_le_right
  refine ⟨n &&& 255, by omega, ?_⟩
  have h3 : bits .and .u64 (n : Int) 255 = ((n &&& 255 : Nat) : Int) := h
  rw [h3]
  generalize n &&& 255 = m at h2
  unfold wrap64
  omega

def NextD (w : World) (b : Nat) (sa : Option Addr) (bs : List Nat) (cap at_ : Nat) (e : Ending) (w' : World) : Prop :=
  ∃ x : Nat, x < 256 ∧ e = .returned (.int .i64 (x : Int)) ∧ DK w w' b sa bs cap (at_ + 1)

set_option maxRecDepth 100000 in
theorem l6next_any (b : Nat) (sa : Option Addr) (bs : List Nat) (cap at_ : Nat) (w : World) (hc : DC w b sa bs cap at_) (hat : at_ < 4611686018427387904) :
    Calls Tryz.prog 77 #[.pointer (some ⟨b, 0, none⟩)] w (NextD w b sa bs cap at_) := by
  obtain ⟨hlt, c0, c1, ⟨s, hs, c2⟩, hf, hb, hne, hx, hlm, _⟩ := id hc
  unfold maxLen at hlm
  by_cases hl : at_ < bs.length
  · obtain ⟨x, g, off, hxk, hxm, rfl, hcx⟩ := hb.get hl
    have hx0 := hx x hxm
    have hgb := hne g off rfl
    have e0 : IntKind.u64.wrap (x : Int) = (x : Int) := by rw [IntKind.wrap_u64]; omega
    go_enter Tryz.func77, Tryz.ntmps77
    go_wp2_with (go_quiet (fail))
    go_ret
    refine ⟨x, hx0, rfl, ?_, ?_⟩
    · exact ((hc.drewN _).setAt (n := at_ + 1) (by omega)).setSeed _
    · exact ((KeptD.drewN (Kept.refl (fun k => k = b) w) _).set (fun _ => rfl) _).set (fun _ => rfl) _
  · obtain ⟨x, hx0, e1⟩ := low8 (IntKind.u64.wrap ((s : Int) * 6364136223846793005) + 1442695040888963407)
    go_enter Tryz.func77, Tryz.ntmps77
    go_wp2_with (go_quiet (fail))
    go_ret
    refine ⟨x, hx0, by rw [e1]; rfl, ?_, ?_⟩
    · exact ((hc.drewN _).setSeed _).setAt (n := at_ + 1) (by omega)
    · exact ((KeptD.drewN (Kept.refl (fun k => k = b) w) _).set (fun _ => rfl) _).set (fun _ => rfl) _

/-- a choice among n -/
def PickD (w : World) (b : Nat) (sa : Option Addr) (bs : List Nat) (cap at_ n : Nat) (e : Ending) (w' : World) : Prop :=
  ∃ x at' : Nat, x < n ∧ at' ≤ at_ + 2 ∧ e = .returned (.int .i64 (x : Int)) ∧ DK w w' b sa bs cap at'

set_option maxRecDepth 100000 in
theorem l6pick_any (b : Nat) (sa : Option Addr) (bs : List Nat) (cap at_ n : Nat) (w : World) (hc : DC w b sa bs cap at_) (hat : at_ + 2 < 4611686018427387904) (hn : 1 ≤ n) (hn2 : n < 4611686018427387904) :
    Calls Tryz.prog 37 #[.pointer (some ⟨b, 0, none⟩), .int .i64 (n : Int)] w (PickD w b sa bs cap at_ n) := by
  by_cases h1 : n ≤ 1
  · go_enter Tryz.func37, Tryz.ntmps37
    go_wp2
    go_ret
    exact ⟨0, at_, by omega, by omega, rfl, hc, Kept.refl _ w⟩
  · have h1' : ¬ ((n : Int) ≤ 1) := by omega
    by_cases h2 : 200 < n
    · have h2' : (200 : Int) < (n : Int) := by omega
      go_enter Tryz.func37, Tryz.ntmps37
      go_wp2_with (go_at_call 77; refine (l6next_any b sa bs cap at_ w hc (by omega)).mono ?_; rintro e w1 ⟨x, hx, rfl, hk⟩)
      go_wp2_with (go_at_call 77; refine (l6next_any b sa bs cap (at_ + 1) w1 hk.dc (by omega)).mono ?_; rintro e w2 ⟨y, hy, rfl, hk2⟩)
      go_wp2
      go_ret
      have e : (((x * 256 + y) % n : Nat) : Int) = ((x : Int) * 256 + (y : Int)) % (n : Int) := by simp
      exact ⟨(x * 256 + y) % n, at_ + 1 + 1, Nat.mod_lt _ (by omega), by omega, by rw [e]; rfl, hk.trans hk2⟩
    · have h2' : ¬ (200 : Int) < (n : Int) := by omega
      go_enter Tryz.func37, Tryz.ntmps37
      go_wp2_with (go_at_call 77; refine (l6next_any b sa bs cap at_ w hc (by omega)).mono ?_; rintro e w1 ⟨x, hx, rfl, hk⟩)
      go_wp2
      go_ret
      have e : ((x % n : Nat) : Int) = (x : Int) % (n : Int) := by simp
      exact ⟨x % n, at_ + 1, Nat.mod_lt _ (by omega), by omega, by rw [e]; rfl, hk⟩

theorem l6pick_of (b : Nat) (sa : Option Addr) (bs : List Nat) (cap at_ n : Nat) (m : Int) (w : World) (hm : m = (n : Int)) (hc : DC w b sa bs cap at_) (hat : at_ + 2 < 4611686018427387904) (hn : 1 ≤ n) (hn2 : n < 4611686018427387904) :
    Calls Tryz.prog 37 #[.pointer (some ⟨b, 0, none⟩), .int .i64 m] w (PickD w b sa bs cap at_ n) := by
  subst hm; exact l6pick_any b sa bs cap at_ n w hc hat hn hn2

end Go.Proofs.YtmdpmdmilgbfiaaGreatDoor

/-
  L6B: numbers and texts, drawn. Own work.
-/
namespace Go.Proofs.YtmdpmdmilgbfiaaGreatDoor
open Go.RowKit

/-- a drawn number -/
def WholeD (w : World) (b : Nat) (sa : Option Addr) (bs : List Nat) (cap at_ : Nat) (e : Ending) (w' : World) : Prop :=
  ∃ (z : Int) (at' : Nat), I64 z ∧ at' ≤ at_ + 4 ∧ e = .returned (.int .i64 z) ∧ DK w w' b sa bs cap at'

set_option maxRecDepth 100000 in
theorem l6whole_any (b : Nat) (sa : Option Addr) (bs : List Nat) (cap at_ : Nat) (w : World) (hc : DC w b sa bs cap at_) (hat : at_ + 4 < 4611686018427387904) :
    Calls Tryz.prog 122 #[.pointer (some ⟨b, 0, none⟩)] w (WholeD w b sa bs cap at_) := by
  go_enter Tryz.func122, Tryz.ntmps122
  go_wp2_with (go_at_call_of 37 ((6 : Int)); refine (l6pick_of b sa bs cap at_ 6 6 w rfl hc (by omega) (by omega) (by omega)).mono ?_; rintro e w1 ⟨x, at1, hx, ha1, rfl, hk⟩; obtain rfl | rfl | rfl | h3 : x = 0 ∨ x = 1 ∨ x = 2 ∨ 3 ≤ x := by omega)
  · refine (l6pick_of b sa bs cap at1 3 3 w1 rfl hk.dc (by omega) (by omega) (by omega)).mono ?_
    rintro e w2 ⟨y, at2, hy, ha2, rfl, hk2⟩
    have ey : wrap64 (y : Int) = (y : Int) := by unfold wrap64; omega
    go_wp2
    go_ret
    exact ⟨9223372036854775807 - (y : Int), at2, by unfold I64; omega, by omega, rfl, hk.trans hk2⟩
  · refine (l6pick_of b sa bs cap at1 3 3 w1 rfl hk.dc (by omega) (by omega) (by omega)).mono ?_
    rintro e w2 ⟨y, at2, hy, ha2, rfl, hk2⟩
    have ey : wrap64 (y : Int) = (y : Int) := by unfold wrap64; omega
    go_wp2
    go_ret
    exact ⟨-9223372036854775808 + (y : Int), at2, by unfold I64; omega, by omega, rfl, hk.trans hk2⟩
  · refine (l6pick_of b sa bs cap at1 70000 70000 w1 rfl hk.dc (by omega) (by omega) (by omega)).mono ?_
    rintro e w2 ⟨y, at2, hy, ha2, rfl, hk2⟩
    have ey : wrap64 (y : Int) = (y : Int) := by unfold wrap64; omega
    go_wp2
    go_ret
    exact ⟨(y : Int) - 35000, at2, by unfold I64; omega, by omega, rfl, hk.trans hk2⟩
  · refine (l6pick_of b sa bs cap at1 12 12 w1 rfl hk.dc (by omega) (by omega) (by omega)).mono ?_
    rintro e w2 ⟨y, at2, hy, ha2, rfl, hk2⟩
    have ey : wrap64 (y : Int) = (y : Int) := by unfold wrap64; omega
    go_wp2
    go_ret
    exact ⟨(y : Int) - 3, at2, by unfold I64; omega, by omega, rfl, hk.trans hk2⟩

end Go.Proofs.YtmdpmdmilgbfiaaGreatDoor

/-
  L6T: texts, drawn. Own work.
-/
namespace Go.Proofs.YtmdpmdmilgbfiaaGreatDoor
open Go.RowKit

theorem strB_size (ys : List Nat) : (strB ys).size = ys.length := by
  unfold strB strOfNums
  simp [ByteArray.size]

theorem owns_bytesD {w : World} {base n c : Nat} {a : Option Addr} {zs : List Nat} (h : w.ownsRow base 5 1 (.slice a n c) zs.length (bcells zs)) : BytesAt w a zs := fun i hi => by
  obtain ⟨g, rfl, _, _, hc⟩ := owns_cell h (bcells_get hi)
  exact ⟨g, 0, rfl, by simpa using hc⟩

/-- a drawn text -/
def TextD (w : World) (b : Nat) (sa : Option Addr) (bs : List Nat) (cap at_ : Nat) (e : Ending) (w' : World) : Prop :=
  ∃ (t : ByteArray) (at' : Nat), t.size ≤ 1000 ∧ at' ≤ at_ + 10 ∧ e = .returned (.string t) ∧ DK w w' b sa bs cap at'

def strSize : Value → Nat
  | .string t => t.size
  | _ => 0

set_option maxRecDepth 100000 in
theorem l6text_any (b : Nat) (sa : Option Addr) (bs : List Nat) (cap at_ : Nat) (w : World) (hc : DC w b sa bs cap at_) (hat : at_ + 10 < 4611686018427387904) :
    Calls Tryz.prog 123 #[.pointer (some ⟨b, 0, none⟩)] w (TextD w b sa bs cap at_) := by
  obtain ⟨i0, hi, hz0, hz1, hz2⟩ := info_parts info_u8
  go_enter Tryz.func123, Tryz.ntmps123
  go_wp2_with (go_at_call_of 37 ((30 : Int)); refine (l6pick_of b sa bs cap at_ 30 30 w rfl hc (by omega) (by omega) (by omega)).mono ?_; rintro e w1 ⟨x, at1, hx, ha1, rfl, hk⟩; obtain rfl | h3 : x = 0 ∨ 1 ≤ x := by omega)
  · go_loopw [3] (fun s ws => ∃ t : ByteArray, s = .string t ∧ 10 ≤ t.size ∧ t.size ≤ 1999 ∧ DK w ws b sa bs cap at1) (fun s _ => 2000 - strSize s)
    case atStart => exact ⟨_, rfl, by decide, by decide, hk⟩
    case round =>
      obtain ⟨t, rfl, h10, h20, hk0⟩ := hrel
      by_cases hlt : t.size < 1000
      · have hd : (t.size : Int) < 1000 := by omega
        go_wp2
        go_roundw
        case rel => exact ⟨_, rfl, by simp [ByteArray.size_append]; omega, by simp [ByteArray.size_append]; omega, hk0⟩
        case measure => simp [strSize, ByteArray.size_append]; omega
      · have hd : ¬ (t.size : Int) < 1000 := by omega
        go_wp2_with (go_at_call_of 37 ((2 : Int)); refine (l6pick_of b sa bs cap at1 2 2 _ rfl hk0.dc (by omega) (by omega) (by omega)).mono ?_; rintro e w2 ⟨y, at2, hy, ha2, rfl, hk2⟩)
        go_ret
        exact ⟨t.extract 0 (1000 - y), at2, by simp [ByteArray.size_extract]; omega, by omega, rfl, hk0.trans hk2⟩
  · refine (l6pick_of b sa bs cap at1 6 6 w1 rfl hk.dc (by omega) (by omega) (by omega)).mono ?_
    rintro e w2 ⟨y, at2, hy, ha2, rfl, hk2⟩
    have hbw := hc.lt
    have hkk := hk.trans hk2
    go_wp2
    go_loopw [4, 5] (fun o i ws => ∃ (n at3 : Nat) (zs : List Nat) (oa1 : Option Addr) (cap1 : Nat), o = .slice oa1 zs.length cap1 ∧ i = .int .i64 n ∧ n + zs.length ≤ 5 ∧ at3 + n ≤ at_ + 10 ∧ ws.ownsRow w.heap.size 5 1 (.slice oa1 zs.length cap1) zs.length (bcells zs) ∧ DK w ws b sa bs cap at3) (fun _ i _ => (intOf i).toNat)
    case atStart => exact ⟨y, at2, [], none, 0, rfl, rfl, by simp; omega, by omega, World.ownsRow_nil _ _ _ _, hkk⟩
    case round =>
      obtain ⟨n, at3, zs, oa1, cap1, rfl, rfl, hnz, hn3, hO, hD⟩ := hrel
      by_cases hlt : 0 < n
      · have hd : (0 : Int) < (n : Int) := by omega
        go_wp2_with (first
          | (go_at_call 77; refine (l6next_any b sa bs cap at3 wr hD.dc (by omega)).mono ?_; rintro e w3 ⟨z, hz, rfl, hk3⟩)
          | (have hO3 := hk3.kept.owns hO (fun k hk e => by have := (hO.lt k hk).1; omega); have hs3 := hk3.kept.size; have hsD := hD.kept.size; at_builtin; refine wpList_append_lies _ rfl (.tmp 26) (.tmp 30) 22 rfl w.heap.size 5 i0 (.int .u8 0) 1 1 Tryz.underlying22 hi hz0 hz1 hz2 rfl (by decide) _ _ _ rfl (hO3.alloc _) ⟨w3.heap.size, 0, none⟩ 1 1 [.int .u8 (z : Int)] rfl rfl (World.news_of_block (cs := #[.int .u8 (z : Int)]) (t := 5) (fr := (0, 0)) (blk_new_at _ _ _ (by simp))) (by simp [Value.oneCell']) (by decide) (by unfold maxLen; omega) (by omega) (by simp; omega) (w3.heap.size + 1) (by simp) ?_; intro g cap2 w4 hown1 hgrow hat4 hlt2))
        have hG := Kept.of_grown hgrow
        have hA : Kept (fun _ => False) w3 (w3.alloc (.cells #[.int .u8 (z : Int)] 5)) := (Kept.refl _ w3).alloc _
        have hob : ∀ k, (Value.slice oa1 zs.length cap1).ownBlock = some k → w.heap.size ≤ k := fun k hk => (hO.lt k hk).1
        go_roundw
        case rel =>
          refine ⟨n - 1, at3 + 1, zs ++ [z], some ⟨g, 0, none⟩, cap2, by simp, congrArg (Value.int .i64) (by omega), by simp; omega, by omega, ?_, ?_⟩
          · simpa [bcells_snoc] using hown1
          · refine ⟨((hk3.dc.kept hA (fun e => e) (fun _ _ _ e => e)).kept hG (fun e => by have := hob _ e; omega) (fun g off e h => ?_)), ((hD.kept.trans hk3.kept (fun _ _ e => e)).trans hA (fun _ _ e => e.elim)).trans hG (fun k hk e => by have := hob _ e; omega)⟩
            have := hob _ h
            have h9 := hc.sl g off e
            omega
        case measure => simp [intOf]; omega
      · obtain rfl : n = 0 := by omega
        have hcv := conv_text (c := cap1) (owns_bytesD hO) rfl
        go_wp2
        go_ret
        exact ⟨strB zs, at3, by rw [strB_size]; omega, by omega, rfl, hD⟩

end Go.Proofs.YtmdpmdmilgbfiaaGreatDoor

/-
  L6V: values, drawn. Own work.
-/
namespace Go.Proofs.YtmdpmdmilgbfiaaGreatDoor
open Go.RowKit

/-- a drawn value -/
def ValD (w : World) (b : Nat) (sa : Option Addr) (bs : List Nat) (cap at_ n : Nat) (e : Ending) (w' : World) : Prop :=
  ∃ (v : GV) (at' : Nat), v.Ok ∧ okV n v = true ∧ at' ≤ at_ + 12 ∧ e = .returned v.val ∧ DK w w' b sa bs cap at'

/-- the answer's cells are written -/
theorem DK.puts {w wk : World} {b : Nat} {sa : Option Addr} {bs : List Nat} {cap at_ : Nat} (h : DK w wk b sa bs cap at_) {B : Nat} (hB : w.heap.size ≤ B) (hb : b < w.heap.size) (hs : ∀ g off, sa = some ⟨g, off, none⟩ → g < w.heap.size) (x0 x1 x2 x3 : Value) : DK w ((((wk.setCell ⟨B, 0, none⟩ x0).setCell ⟨B, 1, none⟩ x1).setCell ⟨B, 2, none⟩ x2).setCell ⟨B, 3, none⟩ x3) b sa bs cap at_ := by
  have hK := ((((Kept.refl (fun k => k = B) wk).set (a := ⟨B, 0, none⟩) (fun _ => rfl) x0).set (a := ⟨B, 1, none⟩) (fun _ => rfl) x1).set (a := ⟨B, 2, none⟩) (fun _ => rfl) x2).set (a := ⟨B, 3, none⟩) (fun _ => rfl) x3
  exact ⟨h.dc.kept hK (by omega) (fun g off e => by have := hs g off e; omega), h.kept.trans hK (fun k hk e => by omega)⟩

set_option maxRecDepth 100000 in
theorem l6val_any (b : Nat) (sa : Option Addr) (bs : List Nat) (cap at_ n : Nat) (w : World) (hc : DC w b sa bs cap at_) (hat : at_ + 12 < 4611686018427387904) (hn : n ≤ 300) :
    Calls Tryz.prog 78 #[.pointer (some ⟨b, 0, none⟩), .int .i64 (n : Int)] w (ValD w b sa bs cap at_ n) := by
  have hs0 := hc.lt
  obtain ⟨wA, hwA⟩ : ∃ wA, Hid (wA = w.alloc (.cells #[.int .i64 0, .int .i64 0, .string ⟨#[]⟩, .int .i64 0] 29)) := ⟨_, rfl⟩
  have hFA : Four wA w.heap.size ⟨0, 0, ⟨#[]⟩, 0⟩ := by rw [hwA.out]; exact Four.new w ⟨0, 0, ⟨#[]⟩, 0⟩ 29
  have hKA : Kept (fun _ => False) w wA := by rw [hwA.out]; exact (Kept.refl _ w).alloc _
  have hcA : DC wA b sa bs cap at_ := hc.kept hKA (fun e => e) (fun _ _ _ e => e)
  have hKw : DK w wA b sa bs cap at_ := ⟨hcA, hKA.mono (fun _ _ e => e.elim)⟩
  go_enter Tryz.func78, Tryz.ntmps78
  go_wp2_with (go_at_call_of 37 ((8 : Int)); rw [← hwA.out]; refine (l6pick_of b sa bs cap at_ 8 8 wA rfl hcA (by omega) (by omega) (by omega)).mono ?_; rintro e w1 ⟨x, at1, hx, ha1, rfl, hk⟩; have hF1 := hFA.kept hk.kept (by omega); obtain ⟨fz, f0, f1, f2, f3, ff⟩ := id hF1; obtain rfl | rfl | rfl | rfl | rfl | h3 : x = 0 ∨ x = 1 ∨ x = 2 ∨ x = 3 ∨ x = 4 ∨ 5 ≤ x := by omega)
  · have hF9 := hF1.set4 (GV.mk 0 0 ⟨#[]⟩ 0)
    have hK9 := (hKw.trans hk).puts (B := w.heap.size) (Nat.le_refl _) hs0 hc.sl (.int .i64 (GV.mk 0 0 ⟨#[]⟩ 0).kind) (.int .i64 (GV.mk 0 0 ⟨#[]⟩ 0).num) (.string (GV.mk 0 0 ⟨#[]⟩ 0).text) (.int .i64 (GV.mk 0 0 ⟨#[]⟩ 0).node)
    dsimp only at hF9 hK9
    generalize World.setCell _ ⟨w.heap.size, 3, none⟩ _ = w9 at hF9 hK9 ⊢
    obtain ⟨_, r0, r1, r2, r3, _⟩ := hF9
    exact bodyPost_ret (v := (GV.mk 0 0 ⟨#[]⟩ 0).val) (by simp [results, Tryz.results78, go_sem, r0, r1, r2, r3]) rfl ⟨GV.mk 0 0 ⟨#[]⟩ 0, at1, ⟨by unfold I64; dsimp only; omega, by unfold I64; dsimp only; omega, by unfold maxLen; dsimp only; (first | omega | decide), by unfold I64; dsimp only; omega⟩, by simp [okV], by omega, rfl, hK9⟩
  · refine (l6whole_any b sa bs cap at1 w1 hk.dc (by omega)).mono ?_
    rintro e w2 ⟨z, at2, hz, ha2, rfl, hk2⟩
    have hF2 := hF1.kept hk2.kept (by omega)
    obtain ⟨gz, g0, g1, g2, g3, gf⟩ := id hF2
    unfold I64 at hz
    go_wp2
    have hF9 := hF2.set4 (GV.mk 1 z ⟨#[]⟩ 0)
    have hK9 := (hKw.trans (hk.trans hk2)).puts (B := w.heap.size) (Nat.le_refl _) hs0 hc.sl (.int .i64 (GV.mk 1 z ⟨#[]⟩ 0).kind) (.int .i64 (GV.mk 1 z ⟨#[]⟩ 0).num) (.string (GV.mk 1 z ⟨#[]⟩ 0).text) (.int .i64 (GV.mk 1 z ⟨#[]⟩ 0).node)
    dsimp only at hF9 hK9
    generalize World.setCell _ ⟨w.heap.size, 3, none⟩ _ = w9 at hF9 hK9 ⊢
    obtain ⟨_, r0, r1, r2, r3, _⟩ := hF9
    exact bodyPost_ret (v := (GV.mk 1 z ⟨#[]⟩ 0).val) (by simp [results, Tryz.results78, go_sem, r0, r1, r2, r3]) rfl ⟨GV.mk 1 z ⟨#[]⟩ 0, at2, ⟨by unfold I64; dsimp only; omega, by unfold I64; dsimp only; omega, by unfold maxLen; dsimp only; (first | omega | decide), by unfold I64; dsimp only; omega⟩, by simp [okV], by omega, rfl, hK9⟩
  · refine (l6whole_any b sa bs cap at1 w1 hk.dc (by omega)).mono ?_
    rintro e w2 ⟨z, at2, hz, ha2, rfl, hk2⟩
    have hF2 := hF1.kept hk2.kept (by omega)
    obtain ⟨gz, g0, g1, g2, g3, gf⟩ := id hF2
    unfold I64 at hz
    go_wp2
    have hF9 := hF2.set4 (GV.mk 1 z ⟨#[]⟩ 0)
    have hK9 := (hKw.trans (hk.trans hk2)).puts (B := w.heap.size) (Nat.le_refl _) hs0 hc.sl (.int .i64 (GV.mk 1 z ⟨#[]⟩ 0).kind) (.int .i64 (GV.mk 1 z ⟨#[]⟩ 0).num) (.string (GV.mk 1 z ⟨#[]⟩ 0).text) (.int .i64 (GV.mk 1 z ⟨#[]⟩ 0).node)
    dsimp only at hF9 hK9
    generalize World.setCell _ ⟨w.heap.size, 3, none⟩ _ = w9 at hF9 hK9 ⊢
    obtain ⟨_, r0, r1, r2, r3, _⟩ := hF9
    exact bodyPost_ret (v := (GV.mk 1 z ⟨#[]⟩ 0).val) (by simp [results, Tryz.results78, go_sem, r0, r1, r2, r3]) rfl ⟨GV.mk 1 z ⟨#[]⟩ 0, at2, ⟨by unfold I64; dsimp only; omega, by unfold I64; dsimp only; omega, by unfold maxLen; dsimp only; (first | omega | decide), by unfold I64; dsimp only; omega⟩, by simp [okV], by omega, rfl, hK9⟩
  · refine (l6whole_any b sa bs cap at1 w1 hk.dc (by omega)).mono ?_
    rintro e w2 ⟨z, at2, hz, ha2, rfl, hk2⟩
    have hF2 := hF1.kept hk2.kept (by omega)
    obtain ⟨gz, g0, g1, g2, g3, gf⟩ := id hF2
    unfold I64 at hz
    go_wp2
    have hF9 := hF2.set4 (GV.mk 2 z ⟨#[]⟩ 0)
    have hK9 := (hKw.trans (hk.trans hk2)).puts (B := w.heap.size) (Nat.le_refl _) hs0 hc.sl (.int .i64 (GV.mk 2 z ⟨#[]⟩ 0).kind) (.int .i64 (GV.mk 2 z ⟨#[]⟩ 0).num) (.string (GV.mk 2 z ⟨#[]⟩ 0).text) (.int .i64 (GV.mk 2 z ⟨#[]⟩ 0).node)
    dsimp only at hF9 hK9
    generalize World.setCell _ ⟨w.heap.size, 3, none⟩ _ = w9 at hF9 hK9 ⊢
    obtain ⟨_, r0, r1, r2, r3, _⟩ := hF9
    exact bodyPost_ret (v := (GV.mk 2 z ⟨#[]⟩ 0).val) (by simp [results, Tryz.results78, go_sem, r0, r1, r2, r3]) rfl ⟨GV.mk 2 z ⟨#[]⟩ 0, at2, ⟨by unfold I64; dsimp only; omega, by unfold I64; dsimp only; omega, by unfold maxLen; dsimp only; (first | omega | decide), by unfold I64; dsimp only; omega⟩, by simp [okV], by omega, rfl, hK9⟩
  · refine (l6text_any b sa bs cap at1 w1 hk.dc (by omega)).mono ?_
    rintro e w2 ⟨t, at2, ht, ha2, rfl, hk2⟩
    have hF2 := hF1.kept hk2.kept (by omega)
    obtain ⟨gz, g0, g1, g2, g3, gf⟩ := id hF2
    go_wp2
    have hF9 := hF2.set4 (GV.mk 3 0 t 0)
    have hK9 := (hKw.trans (hk.trans hk2)).puts (B := w.heap.size) (Nat.le_refl _) hs0 hc.sl (.int .i64 (GV.mk 3 0 t 0).kind) (.int .i64 (GV.mk 3 0 t 0).num) (.string (GV.mk 3 0 t 0).text) (.int .i64 (GV.mk 3 0 t 0).node)
    dsimp only at hF9 hK9
    generalize World.setCell _ ⟨w.heap.size, 3, none⟩ _ = w9 at hF9 hK9 ⊢
    obtain ⟨_, r0, r1, r2, r3, _⟩ := hF9
    exact bodyPost_ret (v := (GV.mk 3 0 t 0).val) (by simp [results, Tryz.results78, go_sem, r0, r1, r2, r3]) rfl ⟨GV.mk 3 0 t 0, at2, ⟨by unfold I64; dsimp only; omega, by unfold I64; dsimp only; omega, by unfold maxLen; dsimp only; (first | omega | decide), by unfold I64; dsimp only; omega⟩, by simp [okV, ht], by omega, rfl, hK9⟩
  · have hF9 := hF1.set4 (GV.mk 1 5 ⟨#[]⟩ 0)
    have hK9 := (hKw.trans hk).puts (B := w.heap.size) (Nat.le_refl _) hs0 hc.sl (.int .i64 (GV.mk 1 5 ⟨#[]⟩ 0).kind) (.int .i64 (GV.mk 1 5 ⟨#[]⟩ 0).num) (.string (GV.mk 1 5 ⟨#[]⟩ 0).text) (.int .i64 (GV.mk 1 5 ⟨#[]⟩ 0).node)
    dsimp only at hF9 hK9
    generalize World.setCell _ ⟨w.heap.size, 3, none⟩ _ = w9 at hF9 hK9 ⊢
    obtain ⟨_, r0, r1, r2, r3, _⟩ := hF9
    exact bodyPost_ret (v := (GV.mk 1 5 ⟨#[]⟩ 0).val) (by simp [results, Tryz.results78, go_sem, r0, r1, r2, r3]) rfl ⟨GV.mk 1 5 ⟨#[]⟩ 0, at1, ⟨by unfold I64; dsimp only; omega, by unfold I64; dsimp only; omega, by unfold maxLen; dsimp only; (first | omega | decide), by unfold I64; dsimp only; omega⟩, by simp [okV], by omega, rfl, hK9⟩
  · have hn1 : 1 ≤ n := by
      rcases Nat.eq_zero_or_pos n with rfl | h
      · simp_all
      · exact h
    refine (l6pick_any b sa bs cap at1 n w1 hk.dc (by omega) hn1 (by omega)).mono ?_
    rintro e w2 ⟨y, at2, hy, ha2, rfl, hk2⟩
    have hF2 := hF1.kept hk2.kept (by omega)
    obtain ⟨gz, g0, g1, g2, g3, gf⟩ := id hF2
    go_wp2
    have hF9 := hF2.set4 (GV.mk 4 0 ⟨#[]⟩ (y : Int))
    have hK9 := (hKw.trans (hk.trans hk2)).puts (B := w.heap.size) (Nat.le_refl _) hs0 hc.sl (.int .i64 (GV.mk 4 0 ⟨#[]⟩ (y : Int)).kind) (.int .i64 (GV.mk 4 0 ⟨#[]⟩ (y : Int)).num) (.string (GV.mk 4 0 ⟨#[]⟩ (y : Int)).text) (.int .i64 (GV.mk 4 0 ⟨#[]⟩ (y : Int)).node)
    dsimp only at hF9 hK9
    generalize World.setCell _ ⟨w.heap.size, 3, none⟩ _ = w9 at hF9 hK9 ⊢
    obtain ⟨_, r0, r1, r2, r3, _⟩ := hF9
    exact bodyPost_ret (v := (GV.mk 4 0 ⟨#[]⟩ (y : Int)).val) (by simp [results, Tryz.results78, go_sem, r0, r1, r2, r3]) rfl ⟨GV.mk 4 0 ⟨#[]⟩ (y : Int), at2, ⟨by unfold I64; dsimp only; omega, by unfold I64; dsimp only; omega, by unfold maxLen; dsimp only; (first | omega | decide), by unfold I64; dsimp only; omega⟩, by simp [okV]; omega, by omega, rfl, hK9⟩

end Go.Proofs.YtmdpmdmilgbfiaaGreatDoor

/-
  L6G: graphs, drawn: where it stands. Own work.
-/
namespace Go.Proofs.YtmdpmdmilgbfiaaGreatDoor
open Go.RowKit

/-- what stands at the head of the round -/
structure DGS (w : World) (R b : Nat) (sa : Option Addr) (bs : List Nat) (cap : Nat) (rv : GV) (G : Nat) (ws : World) (at_ : Nat) (na : Option Addr) (nc : Nat) (nl : List NL) : Prop where
  kept : Kept (fun k => k = b) w ws
  blk : b < w.heap.size ∧ w.heap.size ≤ R ∧ R < G ∧ G < ws.heap.size
  low : ∀ g off, sa = some ⟨g, off, none⟩ → g < w.heap.size
  res : Five ws R ⟨0, 0, ⟨#[]⟩, 0⟩ (.slice none 0 0)
  out : Five ws G rv (.slice na nl.length nc)
  rd : DC ws b sa bs cap at_
  own : OwnG ws (G + 1) na nc nl

theorem DGS.step {w : World} {R b : Nat} {sa : Option Addr} {bs : List Nat} {cap : Nat} {rv : GV} {G : Nat} {ws : World} {at_ : Nat} {na : Option Addr} {nc : Nat} {nl : List NL} (h : DGS w R b sa bs cap rv G ws at_ na nc nl) {n : GN} {w1 w3 : World} {at1 : Nat} {va : Option Addr} {vc : Nat} {gg cc : Nat} {o : Obj}
    (hR1 : DC w1 b sa bs cap at1) (hK1 : Kept (fun k => k = b) ws w1) (hv1 : w1.ownsRow ws.heap.size 29 4 (.slice va n.vals.length vc) n.vals.length (valCells n.vals))
    (hown : w3.ownsRow (G + 1) 37 2 (.slice (some ⟨gg, 0, none⟩) (nl.length + 1) cc) (nl.length + 1) (nodeCells nl ++ [.int .i64 n.tag, .slice va n.vals.length vc]))
    (hgrow : (w1.alloc o).grownBy w3 (Value.slice na nl.length nc).ownBlock) (hat : (Value.slice na nl.length nc).ownBlock = some gg ∨ gg = w1.heap.size + 1) :
    DGS w R b sa bs cap rv G (w3.setCell ⟨G, 4, none⟩ (.slice (some ⟨gg, 0, none⟩) (nl.length + 1) cc)) at1 (some ⟨gg, 0, none⟩) cc (nl ++ [⟨n, va, vc⟩]) := by
  obtain ⟨b0, b1, b2, b3⟩ := h.blk
  have hs1 := hK1.size
  have hA : Kept (fun _ => False) w1 (w1.alloc o) := (Kept.refl _ w1).alloc _
  have hG := Kept.of_grown hgrow
  have hs3 : w1.heap.size + 1 ≤ w3.heap.size := by have := hgrow.size; simpa using this
  have hC := (Kept.refl (fun k => k = G) w3).set (a := ⟨G, 4, none⟩) (fun _ => rfl) (.slice (some ⟨gg, 0, none⟩) (nl.length + 1) cc)
  have hnb : ∀ k, (Value.slice na nl.length nc).ownBlock = some k → G + 1 ≤ k ∧ k < ws.heap.size ∧ na = some ⟨k, 0, none⟩ := fun k hk => ⟨(h.own.nodes.lt k hk).1, (h.own.nodes.lt k hk).2, owns_addr h.own.nodes hk⟩
  have hvab : ∀ k, va = some ⟨k, 0, none⟩ → ws.heap.size ≤ k ∧ k < w1.heap.size := fun k hk => hv1.lt k (by rw [hk]; rfl)
  have hxb : ∀ x, x ∈ nl → ∀ k, x.a = some ⟨k, 0, none⟩ → G + 1 ≤ k ∧ k < ws.heap.size := fun x hx k hk => (h.own.vals x hx).lt k (by rw [hk]; rfl)
  have hggb : G + 1 ≤ gg ∧ (na = some ⟨gg, 0, none⟩ ∨ w1.heap.size < gg) := ⟨(hown.lt gg rfl).1, hat.imp (fun e => (hnb gg e).2.2) (fun e => by omega)⟩
  have hsz := h.kept.size
  exact {
    kept := (((h.kept.trans hK1 (fun _ _ e => e)).trans hA (fun _ _ e => e.elim)).trans hG (fun k hk hp => by have := hnb k hp; omega)).trans hC (fun k hk hp => by omega)
    blk := ⟨b0, b1, b2, by have := hC.size; omega⟩
    low := h.low
    res := (((h.res.kept hK1 (by omega)).kept hA (fun e => e)).kept hG (fun hp => by have := hnb _ hp; omega)).kept hC (by omega)
    out := by
      have h1 := ((h.out.kept hK1 (by omega)).kept hA (fun e => e)).kept hG (fun hp => by have := hnb _ hp; omega)
      simpa using h1.set (s' := .slice (some ⟨gg, 0, none⟩) (nl.length + 1) cc)
    rd := ((hR1.kept hA (fun e => e) (fun _ _ _ e => e)).kept hG (fun hp => by have := hnb _ hp; omega) (fun g off e hp => by have := hnb _ hp; have := h.low g off e; omega)).kept hC (by omega) (fun g off e hp => by have := h.low g off e; omega)
    own := by
      refine ⟨?_, fun x hx => ?_, fun x hx => ?_, fun i j hij hj => ?_⟩
      · have h1 := hC.owns hown (fun k hk hp => by have := (hown.lt k hk).1; omega)
        simpa [nodeCells_snoc] using h1
      · rcases List.mem_append.1 hx with hx | hx
        · have h1 := h.own.vals x hx
          refine hC.owns (hG.owns (hA.owns (hK1.owns h1 (fun k hk hp => ?_)) (fun _ _ e => e)) (fun k hk hp => h.own.apn x hx k (owns_addr h1 hk) (hnb k hp).2.2)) (fun k hk hp => ?_)
          · have := (h1.lt k hk).1; omega
          · have := (h1.lt k hk).1; omega
        · simp at hx
          subst hx
          refine hC.owns (hG.owns (hA.owns (owns_le hv1 (by omega)) (fun _ _ e => e)) (fun k hk hp => ?_)) (fun k hk hp => ?_)
          · have h2 := hvab k (owns_addr hv1 hk); have h3 := hnb k hp; omega
          · have h2 := hvab k (owns_addr hv1 hk); omega
      · intro k hk hx2
        have e := some_addr hx2
        subst e
        rcases List.mem_append.1 hx with hx | hx
        · rcases hggb.2 with e3 | e3
          · exact h.own.apn x hx gg hk e3
          · have := hxb x hx gg hk; omega
        · simp at hx
          subst hx
          have h2 := hvab gg hk
          rcases hggb.2 with e3 | e3
          · have h4 := h.own.nodes.lt gg (by rw [e3]; rfl); omega
          · omega
      · have hj' : j < nl.length + 1 := by simpa using hj
        have hi' : i < nl.length := by omega
        have ei : (nl ++ [(⟨n, va, vc⟩ : NL)])[i]! = nl[i]! := by rw [getElem!_pos _ i (by simp; omega), getElem!_pos nl i hi', List.getElem_append_left hi']
        rw [ei]
        by_cases ej : j < nl.length
        · have ej2 : (nl ++ [(⟨n, va, vc⟩ : NL)])[j]! = nl[j]! := by rw [getElem!_pos _ j hj, getElem!_pos nl j ej, List.getElem_append_left ej]
          rw [ej2]
          exact h.own.apv i j hij ej
        · have ej2 : (nl ++ [(⟨n, va, vc⟩ : NL)])[j]! = ⟨n, va, vc⟩ := by
            have e : j = nl.length := by omega
            subst e
            rw [getElem!_pos (nl ++ [(⟨n, va, vc⟩ : NL)]) nl.length hj]; simp
          rw [ej2]
          intro k hk hx2
          have h2 := hvab k hx2
          have h3 := hxb _ (mem_at hi') k hk
          omega }

/-- what stands at the head of the round -/
structure DVS (w : World) (b : Nat) (sa : Option Addr) (bs : List Nat) (cap : Nat) (tag : Int) (X : Nat) (ws : World) (at_ : Nat) (va : Option Addr) (vc : Nat) (vs : List GV) : Prop where
  kept : Kept (fun k => k = b) w ws
  blk : b < w.heap.size ∧ w.heap.size ≤ X ∧ X < ws.heap.size
  low : ∀ g off, sa = some ⟨g, off, none⟩ → g < w.heap.size
  x : Two ws X tag (.slice va vs.length vc)
  rd : DC ws b sa bs cap at_
  vals : ws.ownsRow (X + 1) 29 4 (.slice va vs.length vc) vs.length (valCells vs)

theorem DVS.step {w : World} {b : Nat} {sa : Option Addr} {bs : List Nat} {cap : Nat} {tag : Int} {X : Nat} {ws : World} {at_ : Nat} {va : Option Addr} {vc : Nat} {vs : List GV} (h : DVS w b sa bs cap tag X ws at_ va vc vs) {v : GV} {w1 w3 : World} {at1 : Nat} {gg cc : Nat} {o : Obj}
    (hR1 : DC w1 b sa bs cap at1) (hK1 : Kept (fun k => k = b) ws w1)
    (hown : w3.ownsRow (X + 1) 29 4 (.slice (some ⟨gg, 0, none⟩) (vs.length + 1) cc) (vs.length + 1) (valCells vs ++ v.four))
    (hgrow : (w1.alloc o).grownBy w3 (Value.slice va vs.length vc).ownBlock) :
    DVS w b sa bs cap tag X (w3.setCell ⟨X, 1, none⟩ (.slice (some ⟨gg, 0, none⟩) (vs.length + 1) cc)) at1 (some ⟨gg, 0, none⟩) cc (vs ++ [v]) := by
  obtain ⟨b1, b2, b3⟩ := h.blk
  have hs1 := hK1.size
  have hA : Kept (fun _ => False) w1 (w1.alloc o) := (Kept.refl _ w1).alloc _
  have hG := Kept.of_grown hgrow
  have hs3 : w1.heap.size + 1 ≤ w3.heap.size := by have := hgrow.size; simpa using this
  have hC := (Kept.refl (fun k => k = X) w3).set (a := ⟨X, 1, none⟩) (fun _ => rfl) (.slice (some ⟨gg, 0, none⟩) (vs.length + 1) cc)
  have hvb : ∀ k, (Value.slice va vs.length vc).ownBlock = some k → X + 1 ≤ k ∧ k < ws.heap.size := fun k hk => h.vals.lt k hk
  have hsz := h.kept.size
  exact {
    kept := (((h.kept.trans hK1 (fun _ _ e => e)).trans hA (fun _ _ e => e.elim)).trans hG (fun k hk hp => by have := hvb k hp; omega)).trans hC (fun k hk hp => by omega)
    blk := ⟨b1, b2, by have := hC.size; omega⟩
    low := h.low
    x := by
      have h1 := ((h.x.kept hK1 (by omega)).kept hA (fun e => e)).kept hG (fun hp => by have := hvb _ hp; omega)
      simpa using h1.set (s' := .slice (some ⟨gg, 0, none⟩) (vs.length + 1) cc)
    rd := ((hR1.kept hA (fun e => e) (fun _ _ _ e => e)).kept hG (fun hp => by have := hvb _ hp; omega) (fun g off e hp => by have := hvb _ hp; have := h.low g off e; omega)).kept hC (by omega) (fun g off e hp => by have := h.low g off e; omega)
    vals := by
      have h1 := hC.owns hown (fun k hk hp => by have := (hown.lt k hk).1; omega)
      simpa [valCells_snoc, GV.four] using h1 }



end Go.Proofs.YtmdpmdmilgbfiaaGreatDoor
