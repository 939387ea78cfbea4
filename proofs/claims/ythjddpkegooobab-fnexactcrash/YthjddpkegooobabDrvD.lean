/-
  DRVD: a disk becomes a drive. Own work.
-/
import Derived.Test.YthjddpkegooobabDrvC
import Derived.Deep.RegionHeld
import Derived.Deep.Cut
namespace Go.Proofs.Ythjddpkegooobab
open Go.RowKit

abbrev driveZ : List Value := zeros 8320 ++ [Value.slice none 0 0, Value.nilFunc]
theorem zeros_get {n i : Nat} (h : i < n) : (zeros n)[i]? = some (.int .u8 0) := by simp [zeros, h]
theorem rep_get {n i : Nat} (x : List Nat) (h : i < n) : (List.replicate n x)[i]! = x := by
  rw [getElem!_pos _ i (by simpa using h)]; simp
theorem Drv.new (w : World) : Drv (w.alloc (.cells driveZ.toArray 126)) w.heap.size blankD.blocks (.slice none 0 0) .nilFunc := by
  have hz : (zeros 8320).length = 8320 := List.length_replicate
  have hr := range_new w driveZ 126
  have ht := there_new w driveZ 126
  have hlen : driveZ.length = 8322 := by rw [List.length_append, hz]; rfl
  refine ⟨by simp, by simp [blankD], fun i hi => by rw [blankD, rep_get _ hi]; simp, fun i hi => ?_, by rw [hlen] at ht; exact ht, ?_, ?_⟩
  · rw [blankD, rep_get _ hi]
    intro j v hj
    have hj64 : j < 64 := by have := (List.getElem?_eq_some_iff.1 hj).1; simpa [bcells] using this
    have := hr (i * 64 + j) (.int .u8 0) (by rw [List.getElem?_append_left (by omega)]; exact zeros_get (by omega))
    rw [Nat.zero_add] at this
    rw [this]
    simp only [bcells, List.map_replicate, List.getElem?_replicate, hj64, if_true] at hj
    simpa using hj
  · have := hr 8320 _ (by rw [List.getElem?_append_right (by omega), hz]; rfl)
    rwa [Nat.zero_add] at this
  · have := hr 8321 _ (by rw [List.getElem?_append_right (by omega), hz]; rfl)
    rwa [Nat.zero_add] at this

theorem owns_none (w : World) (base t size : Nat) : w.ownsRow base t size (.slice none 0 0) 0 [] := ⟨by simp, Or.inl ⟨rfl, rfl⟩⟩

theorem Kept.range {p : Nat → Prop} {w w' : World} {b o : Nat} {cs : List Value} (k : Kept p w w') (h : w.rangeAt b o cs) (hn : ¬ p b) : w'.rangeAt b o cs := fun j v hj => k.cell (h j v hj) hn

theorem range_grow {w w' : World} {b o : Nat} {cs : List Value} (h : w.rangeAt b o cs) (hb : Below w.heap.size w w') : w'.rangeAt b o cs := fun j v hj => cell_later hb (h j v hj)

set_option maxRecDepth 100000 in
theorem driveOf_any (d : DD) (l : DL) (w : World) (hd : d.Fit) (ha : DAt w l d) :
    Calls Try.prog 104 #[d.val l] w fun e w' => ∃ p pa pc, e = .returned (.pointer (some ⟨p, 0, none⟩)) ∧ w.heap.size ≤ p ∧ Dr w' p d.blocks pa pc d.waiting .nilFunc ∧ Below w.heap.size w w' := by
  obtain ⟨Z, hZ⟩ := hid_ex driveZ.toArray
  have hz : ∀ u, (zeroValue 126).run Try.prog u = .ok (.agg Z) u := by rw [hZ.out]; exact (zero_of_info zero_drive).1
  have hAt := run_arrayAt
  have hA := gal (gre w) (.cells #[.slice l.ba d.blocks.length l.bc, .slice l.wa d.waiting.length l.wc] 50)
  have hX := DBox.new w d l 50
  have hsz : (w.alloc (.cells #[.slice l.ba d.blocks.length l.bc, .slice l.wa d.waiting.length l.wc] 50)).heap.size = w.heap.size + 1 := by simp
  go_enter Try.func104, Try.ntmps104
  go_upto_region 2 with (refine wpList_alloc_big rfl 126 rfl Z hz ?_)
  have hN0 := Drv.new (w.alloc (.cells #[.slice l.ba d.blocks.length l.bc, .slice l.wa d.waiting.length l.wc] 50))
  rw [← hZ.out, hsz] at hN0
  have hA2 := gal hA (.cells Z 126)
  have hX2 := hX.grow (gal (gre _) (.cells Z 126))
  have hD0 : Dr _ (w.heap.size + 1) blankD.blocks none 0 [] .nilFunc := ⟨hN0, owns_none _ _ _ _, fun x hx => by cases hx⟩
  generalize (w.alloc (.cells #[.slice l.ba d.blocks.length l.bc, .slice l.wa d.waiting.length l.wc] 50)).alloc (.cells Z 126) = wA at hN0 hA2 hX2 hD0 ⊢
  clear hN0 hA hX hsz hz hZ
  obtain ⟨x, x0, x1⟩ := id hX2
  have hp : Hid (w.heap.size ≤ w.heap.size + 1) := Nat.le_succ _
  obtain ⟨p, hpe⟩ := hid_ex (w.heap.size + 1)
  rw [← hpe.out] at hD0 ⊢
  have hbl : Hid _ := hd.bl
  go_wp2
  go_loopw [12] (fun i wr => ∃ (k : Nat) (bl : List (List Nat)), k ≤ d.blocks.length ∧ i = .int .i64 k ∧ Dr wr p bl none 0 [] .nilFunc ∧ (∀ j, j < k → bl[j]! = d.blocks[j]!) ∧ Kept (fun b => b = p) wA wr) (fun i _ => d.blocks.length - (intOf i).toNat)
  case atStart => exact ⟨0, _, Nat.zero_le _, rfl, hD0, fun j hj => absurd hj (Nat.not_lt_zero _), Kept.refl _ _⟩
  case round =>
    obtain ⟨k, bl, hk, rfl, hD, hin, hK⟩ := hrel
    have hKb : Below w.heap.size wA wr := hK.below (by have := hX2.lt; omega) (fun z hz e => by have := hpe.out; omega)
    by_cases hlt : k < d.blocks.length
    · obtain ⟨n, b, off, av, cv, hvk, hvm, hba, c0, hva⟩ := ha.b.get hlt
      rw [hba]
      have hn64 := hd.bb n hvm
      obtain ⟨sb, so, rfl, hs0⟩ := hva 0 (by omega)
      have hsb : sb < p := by have := World.block_lt_of_cell? _ _ hs0; have := hpe.out; simp at *; omega
      have hB := hA2.trans hKb
      have hR : wr.rangeAt sb so (bcells n) := range_grow (range_bytes hva) hB
      have c0 := cell_later hB c0
      rw [hn64] at c0
      have hth := there_part hD.d.th (Nat.zero_le (k * 64)) (n' := 64) (by have := hbl.out; omega)
      have hlen : (bcells n).length = 64 := by rw [bcells_length, hn64]
      have hone := cells_u8 (bs := n)
      have hu := Try.underlying121
      have hi : (Try.prog.info? 121).map (·.size) = some (bcells n).length := by rw [size_content, hlen]
      have i0 : (0 : Int) ≤ (k : Int) := by omega
      have i1 : (k : Int) < (d.blocks.length : Int) := by omega
      have i2 : (k : Int) < 130 := by have := hbl.out; omega
      have hn64' : Hid _ := hn64
      clear hn64 hva hs0
      go_wp2
      go_region_held (fun w' => w'.rangeAt sb so (bcells n) ∧ w'.there p (k * 64) 64) (go_keep_ranges) (fail)
      go_wp2
      have hD2 := (hD.d.grow (gdr (gre wr))).setB (x := ⟨(k : Int), n⟩) (by show (0 : Int) ≤ (k : Int); omega) (by show (k : Int) < 130; omega) hn64'.out
      go_roundw
      case rel =>
        refine ⟨k + 1, setB bl ⟨(k : Int), n⟩, by omega, by go_num, ⟨hD2, owns_none _ _ _ _, fun x hx => by cases hx⟩, fun j hj => ?_, ?_⟩
        · rw [setB_get (by have := hD.d.len; have := hbl.out; omega)]
          show (if j = (k : Int).toNat then n else bl[j]!) = _
          rw [Int.toNat_natCast]
          split
          · rename_i e; rw [e, hvk.out]
          · exact hin j (by omega)
        · exact Kept.setCells _ _ hK.drew (fun _ => rfl)
      case measure => simp [intOf]; omega
    · obtain rfl : k = d.blocks.length := by omega
      have hble : bl = d.blocks := by
        have h1 := hD.d.len
        have h2 := hbl.out
        apply List.ext_getElem (by omega)
        intro i hi1 hi2
        have := hin i hi2
        rwa [getElem!_pos bl i hi1, getElem!_pos d.blocks i hi2] at this
      subst hble
      have hX3 := hX2.kept hK (fun e => by have := hpe.out; omega)
      have y0 := hX3.c0
      have y1 := hX3.c1
      have hB := hA2.trans hKb
      rename World => wB
      clear hK hKb hin hX2 x x0 x1 hD0 hX3
      go_wp2
      go_loopw [29] (fun i wr => ∃ (k : Nat) (pa : Option Addr) (pc : Nat), k ≤ d.waiting.length ∧ i = .int .i64 k ∧ Dr wr p d.blocks pa pc (d.waiting.take k) .nilFunc ∧ Below w.heap.size w wr) (fun i _ => d.waiting.length - (intOf i).toNat)
      case atStart => exact ⟨0, none, 0, Nat.zero_le _, rfl, hD, hB⟩
      case round =>
        obtain ⟨k, pa, pc, hk2, rfl, hD2, hB2⟩ := hrel
        by_cases hlt2 : k < d.waiting.length
        · obtain ⟨n, b, off, av, cv, hvk, hvm, hba, c0, c1, hva⟩ := ha.w.get hlt2
          rw [hba]
          have i0 : (0 : Int) ≤ (k : Int) := by omega
          have i1 : (k : Int) < (d.waiting.length : Int) := by omega
          have hn64 : Hid _ := (hd.wb n hvm).2.2
          have hwl := hd.wl
          have hfar : ∀ b off, av = some ⟨b, off, none⟩ → b < p := fun b off e => by
            subst e
            obtain ⟨b', off', e', hc'⟩ := hva 0 (by have := hn64.out; omega)
            have h1 := World.block_lt_of_cell? _ _ hc'
            have h2 := congrArg (fun q => q.map Addr.block) e'
            simp at h1 h2
            have := hpe.out
            omega
          have c0 := cell_later hB2 c0
          have c1 := cell_later hB2 c1
          have hva2 := hva.grow hB2
          have hDA := hD2.grow (gal (gre wr) (.cells #[.int .i64 n.block, .slice av n.bytes.length cv] 133))
          have hvA := hva2.grow (gal (gre wr) (.cells #[.int .i64 n.block, .slice av n.bytes.length cv] 133))
          have hwl2 : (d.waiting.take k).length ≤ 200 := by rw [List.length_take]; omega
          go_wp2_with (go_at_call 155; refine (take_any n av cv p d.blocks pa pc (d.waiting.take k) .nilFunc _ hn64.out hwl2 hvA hfar hDA).mono ?_; rintro e w2 ⟨rfl, pa2, pc2, hD3, hK3⟩)
          go_roundw
          case rel => exact ⟨k + 1, pa2, pc2, by omega, by go_num, by rw [take_snoc _ _ hlt2, ← hvk.out]; exact hD3, (gal hB2 _).trans (hK3.below (by have := hB2.size; simp; omega) (fun z hz e => by have := hpe.out; omega))⟩
          case measure => simp [intOf]; omega
        · obtain rfl : k = d.waiting.length := by omega
          rw [List.take_length] at hD2
          go_wp2
          go_ret
          exact ⟨p, pa, pc, rfl, by have := hpe.out; omega, hD2, hB2⟩

end Go.Proofs.Ythjddpkegooobab
