/-
  IREAD: the program's Read. Own work.
-/
import Derived.Test.YtkefmpegkgpbnabSRead
import Derived.Test.YtkefmpegkgpbnabDRead
namespace Go.Proofs.Ytkefmpegkgpbnab
open Go.RowKit

/-- bytes that open a row of any type -/
def TRow (w : World) (t a n : Nat) (xs : List Nat) : Prop := ∃ f, w.rowIs a t n f ∧ xs.length ≤ n ∧ ∀ i, i < xs.length → f i = .int .u8 ((xs[i]! : Nat) : Int)
theorem TRow.at_ {w : World} {t a n : Nat} {xs : List Nat} (h : TRow w t a n xs) : BytesAt w (some ⟨a, 0, none⟩) xs := fun i hi => by
  obtain ⟨f, hr, hl, hf⟩ := h
  exact ⟨a, 0, rfl, by rw [Nat.zero_add, ← hf i hi]; exact hr.cell (by omega)⟩
theorem TRow.lt {w : World} {t a n : Nat} {xs : List Nat} (h : TRow w t a n xs) : a < w.heap.size := by obtain ⟨f, hr, _⟩ := h; exact hr.lt
theorem TRow.kept {p : Nat → Prop} {w w' : World} {t a n : Nat} {xs : List Nat} (h : TRow w t a n xs) (k : Kept p w w') (hn : ¬ p a) : TRow w' t a n xs := by
  obtain ⟨f, hr, r⟩ := h
  exact ⟨f, k.rowIs hr hn, r⟩
/-- bytes that are handed back, in memory of their own -/
def MT (w : World) (lo hi : Nat) (oa : Option Addr) (ys : List Nat) : Prop := ys = [] ∨ ∃ q, oa = some ⟨q, 0, none⟩ ∧ lo ≤ q ∧ q < hi ∧ TRow w 117 q 64 ys
theorem MT.at_ {w : World} {lo hi : Nat} {oa : Option Addr} {ys : List Nat} (h : MT w lo hi oa ys) : BytesAt w oa ys := by
  rcases h with rfl | ⟨q, rfl, _, _, h⟩
  · exact fun i hi => absurd hi (Nat.not_lt_zero _)
  · exact h.at_
theorem MT.kept {p : Nat → Prop} {w w' : World} {lo hi : Nat} {oa : Option Addr} {ys : List Nat} (h : MT w lo hi oa ys) (k : Kept p w w') (hn : ∀ b, lo ≤ b → b < hi → ¬ p b) : MT w' lo hi oa ys := by
  rcases h with h | ⟨q, h1, h2, h3, h4⟩
  · exact Or.inl h
  · exact Or.inr ⟨q, h1, h2, h3, h4.kept k (hn q h2 h3)⟩
theorem MT.grow {w w' : World} {lo hi : Nat} {oa : Option Addr} {ys : List Nat} (h : MT w lo hi oa ys) (hb : Below w.heap.size w w') : MT w' lo hi oa ys := h.kept (Kept.of_below hb (fun _ => False)) (fun _ _ _ e => e)
def TPost (ys : List Nat) (w : World) (e : Ending) (w' : World) : Prop := ∃ oa c, e = .returned (.slice oa ys.length c) ∧ MT w' w.heap.size w'.heap.size oa ys ∧ Below w.heap.size w w'

theorem row_new (w : World) (ys : List Nat) (t : TypeId) : TRow (w.alloc (.cells (bcells ys).toArray t)) t w.heap.size ys.length ys := by
  refine ⟨fun i => .int .u8 ((ys[i]! : Nat) : Int), ⟨_, heap_alloc_last w _, by simp [bcells], fun i hi => ?_⟩, Nat.le_refl _, fun i hi => rfl⟩
  rw [List.getElem?_toArray, bcells_get hi]

set_option maxHeartbeats 1000000 in
set_option maxRecDepth 100000 in
theorem implRead_any (d : DD) (l : DL) (b : Int) (w : World) (hd : d.Ok) (ha : DAt w l d) (hb : I64 b) : Calls Try.prog 43 #[d.val l, .int .i64 b] w (TPost (d.read b) w) := by
  have hA := gal (gre w) (.cells #[.slice l.ba d.blocks.length l.bc, .slice l.wa d.waiting.length l.wc] 50)
  have hX0 := DBox.new w d l 50
  have hz64 := (zero_of_info zero_content).1
  have hSl := run_slice_content
  cases hok : d.ok with
  | false =>
    have hok' : Hid _ := hok
    clear hok
    rw [read_no1 hok'.out]
    go_enter Try.func43, Try.ntmps43
    go_wp2_with (go_at_call 37; refine (implDiskOk_any d l _ hd (ha.grow hA)).mono ?_; rintro e w2 ⟨rfl, hb2⟩; rw [hok'.out])
    go_ret
    exact ⟨none, 0, rfl, Or.inl rfl, gca hA hb2⟩
  | true =>
    have hok' : Hid _ := hok
    clear hok
    have hfit := DD.fit hok'.out
    cases hbk : (decide (0 ≤ b) && decide (b < 130)) with
    | false =>
      have hbk' : Hid _ := hbk
      clear hbk
      rw [read_no2 hbk'.out]
      go_enter Try.func43, Try.ntmps43
      go_wp2_with (first
        | (go_at_call 37; refine (implDiskOk_any d l _ hd (ha.grow hA)).mono ?_; rintro e w2 ⟨rfl, hb2⟩; rw [hok'.out])
        | (go_at_call 107; refine (hasBlock_any b _ hb).mono ?_; rintro e w3 ⟨rfl, hb3⟩; rw [hbk'.out]))
      go_ret
      exact ⟨none, 0, rfl, Or.inl rfl, gca (gca hA hb2) hb3⟩
    | true =>
      have hbk' : Hid _ := hbk
      have hb2' : 0 ≤ b ∧ b < 130 := by simpa using hbk
      obtain ⟨m, rfl⟩ : ∃ m : Nat, b = (m : Int) := ⟨b.toNat, by omega⟩
      have hm : m < 130 := by omega
      clear hbk
      rw [read_yes hok'.out hm]
      obtain ⟨ys, hys⟩ := hid_ex (readN d.blocks d.waiting (m : Int) d.waiting.length)
      have hy64 : ys.length = 64 := by
        rw [hys.out]
        exact readN_mem (p := fun x => x.length = 64) hfit.bb (fun x hx => (hfit.wb x hx).2.2) (by rw [hfit.bl]; simpa using hm) _ (Nat.le_refl _)
      have hyl : (bcells ys).length = 64 := by rw [bcells_length, hy64]
      rw [← hys.out]
      go_enter Try.func43, Try.ntmps43
      go_upto_region 4 with (first
        | (go_at_call 37; refine (implDiskOk_any d l _ hd (ha.grow hA)).mono ?_; rintro e w2 ⟨rfl, hb2⟩; rw [hok'.out])
        | (go_at_call 107; refine (hasBlock_any _ _ hb).mono ?_; rintro e w3 ⟨rfl, hb3⟩; rw [hbk'.out]; obtain ⟨_, x0, x1⟩ := (hX0.grow hb2).grow hb3)
        | (go_at_call 100; refine (driveOf_any d l _ hfit (ha.grow (gca (gca hA hb2) hb3))).mono ?_; rintro e w4 ⟨p, pa, pc, rfl, hp4, hDr, hb4⟩)
        | (go_at_call 108; refine (read_any p d.blocks pa pc d.waiting .nilFunc (m : Int) _ (by omega) (by omega) (by have := hfit.wl; omega) hDr).mono ?_; rw [← hys.out]; rintro e w5 ⟨rfl, hb5⟩)
        | (refine wpList_alloc_big rfl 117 rfl _ hz64 ?_)
        | (refine wpList_store_new rfl 117 _ _ rfl _ (bcells ys).toArray rfl rfl (by rw [size_content]; simp [hyl]) (by simp [zeros, hyl]) (all_oneCell_toArray cells_u8) ?_))
      have hr := row_new w5 ys 117
      have hbA := gal (gca (gca (gca (gca hA hb2) hb3) hb4) hb5) (.cells (bcells ys).toArray 117)
      have hs5 := (gca (gca (gca (gca hA hb2) hb3) hb4) hb5).size
      rw [hy64] at hr
      have hy64' : Hid _ := hy64
      clear hy64
      go_wp2
      go_ret
      exact ⟨some ⟨w5.heap.size, 0, none⟩, 64, by rw [hy64'.out]; rfl, Or.inr ⟨w5.heap.size, rfl, hs5, by simp, hr⟩, hbA⟩

set_option maxRecDepth 100000 in
theorem markByteT_any (oa : Option Addr) (bs : List Nat) (cap k lo hi : Nat) (w : World) (hl : bs.length ≤ 1048576) (hk : k ≤ 1099511627776) (hM : MT w lo hi oa bs) :
    Calls Try.prog 21 #[.slice oa bs.length cap, .int .i64 k] w fun e w' => e = .returned (.int .i64 ((k + bs.length : Nat) : Int)) ∧ MT w' lo hi oa (marksB k bs.length) ∧ Kept (fun b => lo ≤ b ∧ b < hi) w w' := by
  rcases hM with rfl | ⟨G, rfl, hG, hGh, f0, hr0, hln, hf0⟩
  · go_enter Try.func21, Try.ntmps21
    go_wp2
    go_loopw [1, 5] (fun c i wr => c = .int .i64 k ∧ i = .int .i64 0 ∧ wr = w) (fun _ _ _ => 0)
    case atStart => exact ⟨rfl, rfl, rfl⟩
    case round =>
      obtain ⟨rfl, rfl, rfl⟩ := hrel
      go_wp2
      go_ret
      exact ⟨rfl, Or.inl rfl, Kept.refl _ _⟩
  · go_enter Try.func21, Try.ntmps21
    go_wp2
    go_loopw [1, 5] (fun c i wr => ∃ (m : Nat) (f : Nat → Value), m ≤ bs.length ∧ c = .int .i64 ((k + m : Nat) : Int) ∧ i = .int .i64 m ∧ wr.rowIs G 117 64 f ∧ (∀ j, j < m → f j = .int .u8 (((k + j) % 256 : Nat) : Int)) ∧ Kept (fun b => b = G) w wr) (fun _ i _ => bs.length - (intOf i).toNat)
    case atStart => exact ⟨0, f0, Nat.zero_le _, rfl, rfl, hr0, fun j hj => absurd hj (Nat.not_lt_zero _), Kept.refl _ _⟩
    case round =>
      obtain ⟨m, f, hm, rfl, rfl, hrow, hin, hK⟩ := hrel
      obtain ⟨q, hq⟩ := hid_ex (k + m)
      rw [← hq.out]
      have hq1 : q ≤ 2199023255552 := by rw [hq.out]; omega
      by_cases hlt : m < bs.length
      · have d0 := hrow.cell (i := m) (by omega)
        have fz := hrow.frozen
        obtain ⟨x, hx⟩ := hid_ex (q % 256)
        have e2 : IntKind.u8.wrap (q : Int) = (x : Int) := by rw [hx.out, IntKind.wrap_u8']; omega
        go_wp2
        go_roundw
        case rel =>
          refine ⟨m + 1, _, by omega, ?_, by go_num, hrow.set _ _, fun j hj => ?_, hK.set (fun _ => rfl) _⟩
          · have : q + 1 = k + (m + 1) := by rw [hq.out]; omega
            rw [← this]; go_num
          · show (if j = m then _ else _) = _
            split
            · rename_i e; rw [e, hx.out, hq.out]
            · exact hin j (by omega)
        case measure => simp [intOf]; omega
      · obtain rfl : m = bs.length := by omega
        go_wp2
        go_ret
        refine ⟨by rw [← hq.out]; rfl, Or.inr ⟨G, rfl, hG, hGh, f, hrow, by rw [marksB_length]; exact hln, fun i hi => ?_⟩, hK.mono (fun b _ e => by subst e; exact ⟨hG, hGh⟩)⟩
        rw [marksB_length] at hi
        rw [marksB_get hi]; exact hin i hi

end Go.Proofs.Ytkefmpegkgpbnab
