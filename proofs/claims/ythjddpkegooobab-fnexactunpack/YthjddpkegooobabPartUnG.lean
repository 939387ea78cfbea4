import Derived.Test.YthjddpkegooobabPartUnF

/-
  BEQUAL: the library's comparing of bytes. Own work.
-/
namespace Go.Proofs.Ythjddpkegooobab
open Go.RowKit

theorem bs_strB {xs : List Nat} (h : ∀ x, x ∈ xs → x < 256) : bsOf (strB xs) = xs := by
  unfold bsOf strB strOfNums
  show ((xs.map _).map _).map _ = xs
  rw [List.map_map, List.map_map]
  conv => rhs; rw [← List.map_id xs]
  apply List.map_congr_left
  intro x hx
  show (UInt8.ofNat ((x : Int)).toNat).toNat = x
  have := h x hx
  simp []
  omega
theorem strB_eq {xs ys : List Nat} (hx : ∀ x, x ∈ xs → x < 256) (hy : ∀ x, x ∈ ys → x < 256) : ((strB xs).toList == (strB ys).toList) = decide (xs = ys) := by
  by_cases h : xs = ys
  · subst h; simp
  · rw [decide_eq_false h, beq_eq_false_iff_ne]
    intro e
    apply h
    have e2 : strB xs = strB ys := by
      apply ByteArray.ext
      apply Array.ext'
      rw [← ByteArray.toList_eq, ← ByteArray.toList_eq]; exact e
    rw [← bs_strB hx, e2, bs_strB hy]

set_option maxRecDepth 100000 in
theorem bytesEqual_any (a a' : Option Addr) (xs ys : List Nat) (c c' : Nat) (w : World) (hx : ∀ x, x ∈ xs → x < 256) (hy : ∀ x, x ∈ ys → x < 256) (ha : BytesAt w a xs) (ha' : BytesAt w a' ys) :
    Calls Try.prog 88 #[.slice a xs.length c, .slice a' ys.length c'] w fun e w' => e = .returned (.bool (decide (xs = ys))) ∧ Below w.heap.size w w' := by
  have h1 := conv_text (n := xs.length) (c := c) ha rfl
  have h2 := conv_text (n := ys.length) (c := c') ha' rfl
  have h3 := strB_eq hx hy
  go_enter Try.func88, Try.ntmps88
  go_wp2
  go_ret
  exact ⟨by first | rfl | rw [← h3]; rfl, gre _⟩

end Go.Proofs.Ythjddpkegooobab

/-
  RD: the program's reader. Own work.
-/
namespace Go.Proofs.Ythjddpkegooobab
open Go.RowKit

set_option maxRecDepth 100000 in
theorem readText_any (b : Nat) (sa : Option Addr) (cap : Nat) (bs r : List Nat) (n : Nat) (z : Int) (w : World) (hR : Rd w b sa cap bs r) (hz : z = (n : Int)) (hn : n ≤ 1048576) :
    Calls Try.prog 145 #[.pointer (some ⟨b, 0, none⟩), .int .i64 z] w (RPost (rdText n r) (fun x => .string x) b sa cap bs w) := by
  subst hz
  obtain ⟨⟨k, hC, hk, hr⟩, hlow, hcap, hlen, hbyte⟩ := hR
  have hrl : r.length = bs.length - k := by rw [hr, List.length_drop]
  by_cases hlt : k + n ≤ bs.length
  · have e1 : Hid (rdText n r = some (strB (r.take n), r.drop n)) := if_pos (by omega)
    go_enter Try.func145, Try.ntmps145
    go_wp2_with (go_at_call 158; refine (next_fits b _ bs.length cap k n _ hC hcap (by unfold maxLen; omega) hlt).mono ?_; rintro e w1 ⟨p, c, rfl, hp, hC1, hK1⟩; have hlow1 := hlow.below (hK1.below (show b ≤ w.heap.size by have := hC.lt; omega) (fun k hk e => by omega)); have hbt := take_bytes (n := n) hlow1 hlt hp; rw [← hr] at hbt; have hcv := conv_text (n := n) (c := c) hbt (by rw [List.length_take]; omega))
    go_ret
    exact ⟨hK1, Or.inl ⟨_, _, e1, by rw [hr]; rfl, ⟨⟨k + n, hC1, hlt, by rw [hr, List.drop_drop]⟩, hlow1, hcap, hlen, hbyte⟩⟩⟩
  · have e1 : Hid (rdText n r = none) := if_neg (by omega)
    go_enter Try.func145, Try.ntmps145
    go_wp2_with (go_at_call 158; refine (next_not b _ bs.length cap k n _ hC (by unfold maxLen; omega) hk (by omega)).mono ?_; rintro e w1 ⟨rfl, hb⟩)
    exact ⟨rfl, Kept.of_below hb _, Or.inr ⟨e1, rfl⟩⟩

set_option maxRecDepth 100000 in
theorem readNumber_any (b : Nat) (sa : Option Addr) (cap : Nat) (bs r : List Nat) (w : World) (hR : Rd w b sa cap bs r) :
    Calls Try.prog 173 #[.pointer (some ⟨b, 0, none⟩)] w (RPost (rdNum 0 0 r) (fun x => .int .u64 (x : Int)) b sa cap bs w) := by
  go_enter Try.func173, Try.ntmps173
  go_wp2
  go_loopw [3, 4] (fun a c ws => ∃ (n s : Nat) (q : List Nat), a = .int .u64 n ∧ c = .int .i64 s ∧ n < 18446744073709551616 ∧ s + 7 * q.length ≤ 7 * bs.length ∧ Hid (rdNum 0 0 r = rdNum n s q) ∧ Rd ws b sa cap bs q ∧ Kept (fun k => k = b) w ws) (fun _ c _ => 7 * bs.length + 7 - (intOf c).toNat)
  case atStart =>
    refine ⟨0, 0, r, rfl, rfl, by omega, ?_, rfl, hR, Kept.refl _ _⟩
    obtain ⟨k, _, _, hr⟩ := hR.ex
    rw [hr, List.length_drop]; omega
  case round =>
    obtain ⟨n, s, q, rfl, rfl, hn, hs, hq, hRq, hK⟩ := hrel
    have hlen := hRq.len
    go_wp2_with (go_at_call 174; refine (readByte_any b sa cap bs q _ hRq).mono ?_; rintro e w1 ⟨hK1, ⟨x, r', hx, rfl, hR1⟩ | ⟨hno, rfl⟩⟩)
    · rename_i hlt
      obtain ⟨hx256, hqx⟩ := hRq.head hx.out
      have e5 : Hid (rdNum 0 0 r = some (orU n (x % 128) s, r')) := by show _ = _; rw [hq.out, hqx, rdNum, if_pos (by omega)]
      go_ret
      exact ⟨hK.trans hK1 (fun _ _ h => h), Or.inl ⟨_, r', e5, ret_int (or_form hn hx256), hR1⟩⟩
    · rename_i hlt
      obtain ⟨hx256, hqx⟩ := hRq.head hx.out
      have e5 : Hid (rdNum 0 0 r = rdNum (orU n (x % 128) s) (s + 7) r') := by show _ = _; rw [hq.out, hqx, rdNum, if_neg (by omega)]
      have hl2 : q.length = r'.length + 1 := by rw [hqx]; rfl
      refine ⟨⟨orU n (x % 128) s, s + 7, r', congrArg (Value.int .u64) (or_form hn hx256), by go_num, orU_lt hn, by omega, e5, hR1, hK.trans hK1 (fun _ _ h => h)⟩, ?_⟩
      simp [intOf]; omega
    · have e5 : Hid (rdNum 0 0 r = none) := by
        show _ = _
        rw [hq.out]
        cases q with
        | nil => rfl
        | cons y t => cases hno.out
      exact ⟨rfl, hK.trans hK1 (fun _ _ h => h), Or.inr ⟨e5, rfl⟩⟩

set_option maxRecDepth 100000 in
theorem readCount_any (b : Nat) (sa : Option Addr) (cap : Nat) (bs r : List Nat) (most : Nat) (z : Int) (w : World) (hR : Rd w b sa cap bs r) (hz : z = (most : Int)) (hm : most ≤ 1048576) :
    Calls Try.prog 146 #[.pointer (some ⟨b, 0, none⟩), .int .i64 z] w (RPost (rdCount most r) (fun x => .int .i64 (x : Int)) b sa cap bs w) := by
  subst hz
  have e6 : IntKind.u64.wrap (most : Int) = (most : Int) := by rw [IntKind.wrap_u64]; omega
  go_enter Try.func146, Try.ntmps146
  go_wp2_with (go_at_call 173; refine (readNumber_any b sa cap bs r _ hR).mono ?_; rintro e w1 ⟨hK1, ⟨x, r', hx, rfl, hR1⟩ | ⟨hno, rfl⟩⟩)
  · rename_i hgt
    have e5 : Hid (rdCount most r = none) := by show _ = _; unfold rdCount; rw [hx.out]; exact if_neg (by omega)
    exact ⟨rfl, hK1, Or.inr ⟨e5, rfl⟩⟩
  · rename_i hle
    have e5 : Hid (rdCount most r = some (x, r')) := by show _ = _; unfold rdCount; rw [hx.out]; exact if_pos (by omega)
    go_ret
    exact ⟨hK1, Or.inl ⟨x, r', e5, rfl, hR1⟩⟩
  · have e5 : Hid (rdCount most r = none) := by show _ = _; unfold rdCount; rw [hno.out]
    exact ⟨rfl, hK1, Or.inr ⟨e5, rfl⟩⟩

end Go.Proofs.Ythjddpkegooobab

/-
  RD2: the program's reader: words, values. Own work.
-/
namespace Go.Proofs.Ythjddpkegooobab
open Go.RowKit

set_option maxRecDepth 100000 in
theorem signed_any (n : Nat) (w : World) (hn : n < 18446744073709551616) :
    Calls Try.prog 175 #[.int .u64 (n : Int)] w fun e w' => e = .returned (.int .i64 (zag n)) ∧ Below w.heap.size w w' := by
  go_enter Try.func175, Try.ntmps175
  go_wp2
  go_ret
  exact ⟨ret_int (zag_form hn), gre _⟩

end Go.Proofs.Ythjddpkegooobab

/-
  RDV1: the program's reader: values. Own work.
-/
namespace Go.Proofs.Ythjddpkegooobab
open Go.RowKit

set_option maxHeartbeats 1000000 in
set_option maxRecDepth 100000 in
theorem readVal_nil (b : Nat) (sa : Option Addr) (cap : Nat) (bs t : List Nat)  (w : World) (hR : Rd w b sa cap bs (0 :: t))  :
    Calls Try.prog 147 #[.pointer (some ⟨b, 0, none⟩)] w (RVPost b sa cap bs (0 :: t) w) := by
  have hlt := hR.lt
  have hF0 := Four.new w ⟨0, 0, ⟨#[]⟩, 0⟩ 30
  go_enter Try.func147, Try.ntmps147
  go_wp2_with (go_at_call 174; refine (readByte_any b sa cap bs (0 :: t) _ (hR.grow (gal (gre _) _))).mono ?_; rintro e w1 h1; obtain ⟨rfl, hR1, hK1⟩ := RPost.ok h1; have hF1 := hF0.kept hK1 (by omega); obtain ⟨az, a0, a1, a2, a3, af⟩ := id hF1; have hG := Four.new w1 ⟨0, 0, ⟨#[]⟩, 0⟩ 30; have hs1 := hK1.size; simp only [World.size_alloc] at hs1)
  obtain ⟨_, f0, f1, f2, f3, _⟩ := (hF1.set4 ⟨0, 0, ⟨#[]⟩, 0⟩).alloc (.cells #[.int .i64 0, .int .i64 0, .string ⟨#[]⟩, .int .i64 0] 30)
  obtain ⟨hKF, hRF⟩ := fin4 hlt (kk ((Kept.refl _ w).alloc _) hK1) hR1 (.int .i64 0) (.int .i64 0) (.string ⟨#[]⟩) (.int .i64 0)
  refine bodyPost_ret (v := (GV.mk 0 0 ⟨#[]⟩ 0).val) (by simp [results, Try.results147, go_sem, f0, f1, f2, f3]) rfl ?_
  exact ⟨hKF.alloc _, Or.inl ⟨_, _, rfl, rfl, hRF.grow (gal (gre _) _)⟩⟩

set_option maxHeartbeats 1000000 in
set_option maxRecDepth 100000 in
theorem readVal_num (b : Nat) (sa : Option Addr) (cap : Nat) (bs t : List Nat) (n : Nat) (q : List Nat) (w : World) (hR : Rd w b sa cap bs (1 :: t)) (hq : Hid (rdNum 0 0 t = some (n, q))) :
    Calls Try.prog 147 #[.pointer (some ⟨b, 0, none⟩)] w (RVPost b sa cap bs (1 :: t) w) := by
  have hlt := hR.lt
  have hF0 := Four.new w ⟨0, 0, ⟨#[]⟩, 0⟩ 30
  have hn := rdNum_lt 0 0 t n q (by omega) hq.out
  go_enter Try.func147, Try.ntmps147
  go_wp2_with (first
    | (go_at_call 174; refine (readByte_any b sa cap bs (1 :: t) _ (hR.grow (gal (gre _) _))).mono ?_; rintro e w1 h1; obtain ⟨rfl, hR1, hK1⟩ := RPost.ok h1; have hF1 := hF0.kept hK1 (by omega); obtain ⟨az, a0, a1, a2, a3, af⟩ := id hF1; have hG := Four.new w1 ⟨1, 0, ⟨#[]⟩, 0⟩ 30; have hs1 := hK1.size; simp only [World.size_alloc] at hs1)
    | (go_at_call 173; refine (readNumber_any b sa cap bs t _ (hR1.grow (gal (gre _) _))).mono ?_; rintro e w2 h2; rw [hq.out] at h2; obtain ⟨rfl, hR2, hK2⟩ := RPost.ok h2; have hF2 := (hF1.alloc (.cells #[.int .i64 1, .int .i64 0, .string ⟨#[]⟩, .int .i64 0] 30)).kept hK2 (by omega); obtain ⟨bz, b0, b1, b2, b3, bf⟩ := id hF2; have hG2 := hG.kept hK2 (by omega); obtain ⟨gz, g0, g1, g2, g3, gf⟩ := id hG2; have hs2 := hK2.size; simp only [World.size_alloc] at hs2)
    | (go_at_call 175; refine (signed_any n _ hn).mono ?_; rintro e w3 ⟨rfl, hb3⟩; obtain ⟨iz, i0, i1, i2, i3, if_⟩ := hG2.kept (Kept.of_below hb3 (fun _ => False)) (fun e => e); obtain ⟨cz, c0, c1, c2, c3, cf⟩ := hF2.kept (Kept.of_below hb3 (fun _ => False)) (fun e => e)))
  have hKX := kk (kk ((kk ((Kept.refl _ w).alloc _) hK1).alloc (.cells #[.int .i64 1, .int .i64 0, .string ⟨#[]⟩, .int .i64 0] 30)) hK2) (Kept.of_below hb3 _)
  have hRX := (hR2.grow hb3).kept ((Kept.refl (fun k => k = w1.heap.size) w3).set (a := ⟨w1.heap.size, 1, none⟩) (fun _ => rfl) (.int .i64 (zag n))) (fun k hk e => by omega)
  obtain ⟨hKF, hRF⟩ := fin4 hlt (hKX.set (a := ⟨w1.heap.size, 1, none⟩) (fun h => absurd h (by show ¬ w1.heap.size < _; omega)) (.int .i64 (zag n))) hRX (.int .i64 1) (.int .i64 (zag n)) (.string ⟨#[]⟩) (.int .i64 0)
  refine bodyPost_ret (v := (GV.mk 1 (zag n) ⟨#[]⟩ 0).val) (by simp [results, Try.results147, go_sem, c0, c1, c2, c3]) rfl ?_
  exact ⟨hKF, Or.inl ⟨⟨1, (zag n), ⟨#[]⟩, 0⟩, q, by show rdVal (1 :: t) = _; simp [rdVal, hq.out], rfl, hRF⟩⟩

set_option maxHeartbeats 1000000 in
set_option maxRecDepth 100000 in
theorem readVal_num_no (b : Nat) (sa : Option Addr) (cap : Nat) (bs t : List Nat)  (w : World) (hR : Rd w b sa cap bs (1 :: t)) (hq : Hid (rdNum 0 0 t = none)) :
    Calls Try.prog 147 #[.pointer (some ⟨b, 0, none⟩)] w (RVPost b sa cap bs (1 :: t) w) := by
  have hlt := hR.lt
  have hF0 := Four.new w ⟨0, 0, ⟨#[]⟩, 0⟩ 30
  go_enter Try.func147, Try.ntmps147
  go_wp2_with (first
    | (go_at_call 174; refine (readByte_any b sa cap bs (1 :: t) _ (hR.grow (gal (gre _) _))).mono ?_; rintro e w1 h1; obtain ⟨rfl, hR1, hK1⟩ := RPost.ok h1; have hF1 := hF0.kept hK1 (by omega); obtain ⟨az, a0, a1, a2, a3, af⟩ := id hF1; have hG := Four.new w1 ⟨1, 0, ⟨#[]⟩, 0⟩ 30; have hs1 := hK1.size; simp only [World.size_alloc] at hs1)
    | (go_at_call 173; refine (readNumber_any b sa cap bs t _ (hR1.grow (gal (gre _) _))).mono ?_; rintro e w2 h2; rw [hq.out] at h2; obtain ⟨rfl, hK2⟩ := RPost.no h2))
  exact ⟨rfl, kk ((kk ((Kept.refl _ w).alloc _) hK1).alloc (.cells #[.int .i64 1, .int .i64 0, .string ⟨#[]⟩, .int .i64 0] 30)) hK2, Or.inr ⟨by show rdVal (1 :: t) = _; simp [rdVal, hq.out], rfl⟩⟩

end Go.Proofs.Ythjddpkegooobab

/-
  RDV2: the program's reader: values. Own work.
-/
namespace Go.Proofs.Ythjddpkegooobab
open Go.RowKit

set_option maxHeartbeats 1000000 in
set_option maxRecDepth 100000 in
theorem readVal_bits (b : Nat) (sa : Option Addr) (cap : Nat) (bs t : List Nat) (n : Int) (q : List Nat) (w : World) (hR : Rd w b sa cap bs (2 :: t)) (hq : Hid (rdLow 8 0 0 t = some (n, q))) :
    Calls Try.prog 147 #[.pointer (some ⟨b, 0, none⟩)] w (RVPost b sa cap bs (2 :: t) w) := by
  have hlt := hR.lt
  have hF0 := Four.new w ⟨0, 0, ⟨#[]⟩, 0⟩ 30
  go_enter Try.func147, Try.ntmps147
  go_wp2_with (first
    | (go_at_call 174; refine (readByte_any b sa cap bs (2 :: t) _ (hR.grow (gal (gre _) _))).mono ?_; rintro e w1 h1; obtain ⟨rfl, hR1, hK1⟩ := RPost.ok h1; have hF1 := hF0.kept hK1 (by omega); obtain ⟨az, a0, a1, a2, a3, af⟩ := id hF1; have hG := Four.new w1 ⟨2, 0, ⟨#[]⟩, 0⟩ 30; have hs1 := hK1.size; simp only [World.size_alloc] at hs1)
    | (go_at_call 157; refine (readWord_any b sa cap bs t _ (hR1.grow (gal (gre _) _))).mono ?_; rintro e w2 h2; rw [hq.out] at h2; obtain ⟨rfl, hR2, hK2⟩ := RPost.ok h2; have hF2 := (hF1.alloc (.cells #[.int .i64 2, .int .i64 0, .string ⟨#[]⟩, .int .i64 0] 30)).kept hK2 (by omega); obtain ⟨bz, b0, b1, b2, b3, bf⟩ := id hF2; have hG2 := hG.kept hK2 (by omega); obtain ⟨gz, g0, g1, g2, g3, gf⟩ := id hG2; have hs2 := hK2.size; simp only [World.size_alloc] at hs2))
  have hKX := kk ((kk ((Kept.refl _ w).alloc _) hK1).alloc (.cells #[.int .i64 2, .int .i64 0, .string ⟨#[]⟩, .int .i64 0] 30)) hK2
  have hRX := (hR2).kept ((Kept.refl (fun k => k = w1.heap.size) w2).set (a := ⟨w1.heap.size, 1, none⟩) (fun _ => rfl) (.int .i64 n)) (fun k hk e => by omega)
  obtain ⟨hKF, hRF⟩ := fin4 hlt (hKX.set (a := ⟨w1.heap.size, 1, none⟩) (fun h => absurd h (by show ¬ w1.heap.size < _; omega)) (.int .i64 n)) hRX (.int .i64 2) (.int .i64 n) (.string ⟨#[]⟩) (.int .i64 0)
  refine bodyPost_ret (v := (GV.mk 2 n ⟨#[]⟩ 0).val) (by simp [results, Try.results147, go_sem, b0, b1, b2, b3]) rfl ?_
  exact ⟨hKF, Or.inl ⟨⟨2, n, ⟨#[]⟩, 0⟩, q, by show rdVal (2 :: t) = _; simp [rdVal, hq.out], rfl, hRF⟩⟩

set_option maxHeartbeats 1000000 in
set_option maxRecDepth 100000 in
theorem readVal_bits_no (b : Nat) (sa : Option Addr) (cap : Nat) (bs t : List Nat)  (w : World) (hR : Rd w b sa cap bs (2 :: t)) (hq : Hid (rdLow 8 0 0 t = none)) :
    Calls Try.prog 147 #[.pointer (some ⟨b, 0, none⟩)] w (RVPost b sa cap bs (2 :: t) w) := by
  have hlt := hR.lt
  have hF0 := Four.new w ⟨0, 0, ⟨#[]⟩, 0⟩ 30
  go_enter Try.func147, Try.ntmps147
  go_wp2_with (first
    | (go_at_call 174; refine (readByte_any b sa cap bs (2 :: t) _ (hR.grow (gal (gre _) _))).mono ?_; rintro e w1 h1; obtain ⟨rfl, hR1, hK1⟩ := RPost.ok h1; have hF1 := hF0.kept hK1 (by omega); obtain ⟨az, a0, a1, a2, a3, af⟩ := id hF1; have hG := Four.new w1 ⟨2, 0, ⟨#[]⟩, 0⟩ 30; have hs1 := hK1.size; simp only [World.size_alloc] at hs1)
    | (go_at_call 157; refine (readWord_any b sa cap bs t _ (hR1.grow (gal (gre _) _))).mono ?_; rintro e w2 h2; rw [hq.out] at h2; obtain ⟨rfl, hK2⟩ := RPost.no h2))
  exact ⟨rfl, kk ((kk ((Kept.refl _ w).alloc _) hK1).alloc (.cells #[.int .i64 2, .int .i64 0, .string ⟨#[]⟩, .int .i64 0] 30)) hK2, Or.inr ⟨by show rdVal (2 :: t) = _; simp [rdVal, hq.out], rfl⟩⟩

set_option maxHeartbeats 1000000 in
set_option maxRecDepth 100000 in
theorem readVal_node (b : Nat) (sa : Option Addr) (cap : Nat) (bs t : List Nat) (n : Nat) (q : List Nat) (w : World) (hR : Rd w b sa cap bs (4 :: t)) (hq : Hid (rdCount 300 t = some (n, q))) :
    Calls Try.prog 147 #[.pointer (some ⟨b, 0, none⟩)] w (RVPost b sa cap bs (4 :: t) w) := by
  have hlt := hR.lt
  have hF0 := Four.new w ⟨0, 0, ⟨#[]⟩, 0⟩ 30
  go_enter Try.func147, Try.ntmps147
  go_wp2_with (first
    | (go_at_call 174; refine (readByte_any b sa cap bs (4 :: t) _ (hR.grow (gal (gre _) _))).mono ?_; rintro e w1 h1; obtain ⟨rfl, hR1, hK1⟩ := RPost.ok h1; have hF1 := hF0.kept hK1 (by omega); obtain ⟨az, a0, a1, a2, a3, af⟩ := id hF1; have hG := Four.new w1 ⟨4, 0, ⟨#[]⟩, 0⟩ 30; have hs1 := hK1.size; simp only [World.size_alloc] at hs1)
    | (go_at_call 146; refine (readCount_any b sa cap bs t 300 _ _ (hR1.grow (gal (gre _) _)) rfl (by omega)).mono ?_; rintro e w2 h2; rw [hq.out] at h2; obtain ⟨rfl, hR2, hK2⟩ := RPost.ok h2; have hF2 := (hF1.alloc (.cells #[.int .i64 4, .int .i64 0, .string ⟨#[]⟩, .int .i64 0] 30)).kept hK2 (by omega); obtain ⟨bz, b0, b1, b2, b3, bf⟩ := id hF2; have hG2 := hG.kept hK2 (by omega); obtain ⟨gz, g0, g1, g2, g3, gf⟩ := id hG2; have hs2 := hK2.size; simp only [World.size_alloc] at hs2))
  have hKX := kk ((kk ((Kept.refl _ w).alloc _) hK1).alloc (.cells #[.int .i64 4, .int .i64 0, .string ⟨#[]⟩, .int .i64 0] 30)) hK2
  have hRX := (hR2).kept ((Kept.refl (fun k => k = w1.heap.size) w2).set (a := ⟨w1.heap.size, 3, none⟩) (fun _ => rfl) (.int .i64 (n : Int))) (fun k hk e => by omega)
  obtain ⟨hKF, hRF⟩ := fin4 hlt (hKX.set (a := ⟨w1.heap.size, 3, none⟩) (fun h => absurd h (by show ¬ w1.heap.size < _; omega)) (.int .i64 (n : Int))) hRX (.int .i64 4) (.int .i64 0) (.string ⟨#[]⟩) (.int .i64 (n : Int))
  refine bodyPost_ret (v := (GV.mk 4 0 ⟨#[]⟩ (n : Int)).val) (by simp [results, Try.results147, go_sem, b0, b1, b2, b3]) rfl ?_
  exact ⟨hKF, Or.inl ⟨⟨4, 0, ⟨#[]⟩, (n : Int)⟩, q, by show rdVal (4 :: t) = _; simp [rdVal, hq.out], rfl, hRF⟩⟩

end Go.Proofs.Ythjddpkegooobab

/-
  RDV3: the program's reader: values. Own work.
-/
namespace Go.Proofs.Ythjddpkegooobab
open Go.RowKit

set_option maxHeartbeats 1000000 in
set_option maxRecDepth 100000 in
theorem readVal_node_no (b : Nat) (sa : Option Addr) (cap : Nat) (bs t : List Nat)  (w : World) (hR : Rd w b sa cap bs (4 :: t)) (hq : Hid (rdCount 300 t = none)) :
    Calls Try.prog 147 #[.pointer (some ⟨b, 0, none⟩)] w (RVPost b sa cap bs (4 :: t) w) := by
  have hlt := hR.lt
  have hF0 := Four.new w ⟨0, 0, ⟨#[]⟩, 0⟩ 30
  go_enter Try.func147, Try.ntmps147
  go_wp2_with (first
    | (go_at_call 174; refine (readByte_any b sa cap bs (4 :: t) _ (hR.grow (gal (gre _) _))).mono ?_; rintro e w1 h1; obtain ⟨rfl, hR1, hK1⟩ := RPost.ok h1; have hF1 := hF0.kept hK1 (by omega); obtain ⟨az, a0, a1, a2, a3, af⟩ := id hF1; have hG := Four.new w1 ⟨4, 0, ⟨#[]⟩, 0⟩ 30; have hs1 := hK1.size; simp only [World.size_alloc] at hs1)
    | (go_at_call 146; refine (readCount_any b sa cap bs t 300 _ _ (hR1.grow (gal (gre _) _)) rfl (by omega)).mono ?_; rintro e w2 h2; rw [hq.out] at h2; obtain ⟨rfl, hK2⟩ := RPost.no h2))
  exact ⟨rfl, kk ((kk ((Kept.refl _ w).alloc _) hK1).alloc (.cells #[.int .i64 4, .int .i64 0, .string ⟨#[]⟩, .int .i64 0] 30)) hK2, Or.inr ⟨by show rdVal (4 :: t) = _; simp [rdVal, hq.out], rfl⟩⟩

set_option maxHeartbeats 1000000 in
set_option maxRecDepth 100000 in
theorem readVal_text (b : Nat) (sa : Option Addr) (cap : Nat) (bs t : List Nat) (n : Nat) (q : List Nat) (s : ByteArray) (q2 : List Nat) (w : World) (hR : Rd w b sa cap bs (3 :: t)) (hq : Hid (rdCount 1000 t = some (n, q))) (hn : n ≤ 1048576) (hq2 : Hid (rdText n q = some (s, q2))) :
    Calls Try.prog 147 #[.pointer (some ⟨b, 0, none⟩)] w (RVPost b sa cap bs (3 :: t) w) := by
  have hlt := hR.lt
  have hF0 := Four.new w ⟨0, 0, ⟨#[]⟩, 0⟩ 30
  go_enter Try.func147, Try.ntmps147
  go_wp2_with (first
    | (go_at_call 174; refine (readByte_any b sa cap bs (3 :: t) _ (hR.grow (gal (gre _) _))).mono ?_; rintro e w1 h1; obtain ⟨rfl, hR1, hK1⟩ := RPost.ok h1; have hF1 := hF0.kept hK1 (by omega); obtain ⟨az, a0, a1, a2, a3, af⟩ := id hF1; have hG := Four.new w1 ⟨3, 0, ⟨#[]⟩, 0⟩ 30; have hs1 := hK1.size; simp only [World.size_alloc] at hs1)
    | (go_at_call 146; refine (readCount_any b sa cap bs t 1000 _ _ (hR1.grow (gal (gre _) _)) rfl (by omega)).mono ?_; rintro e w2 h2; rw [hq.out] at h2; obtain ⟨rfl, hR2, hK2⟩ := RPost.ok h2; have hF2 := (hF1.alloc (.cells #[.int .i64 3, .int .i64 0, .string ⟨#[]⟩, .int .i64 0] 30)).kept hK2 (by omega); obtain ⟨bz, b0, b1, b2, b3, bf⟩ := id hF2; have hG2 := hG.kept hK2 (by omega); obtain ⟨gz, g0, g1, g2, g3, gf⟩ := id hG2; have hs2 := hK2.size; simp only [World.size_alloc] at hs2)
    | (go_at_call 145; refine (readText_any b sa cap bs q n _ _ hR2 rfl hn).mono ?_; rintro e w3 h3; rw [hq2.out] at h3; obtain ⟨rfl, hR3, hK3⟩ := RPost.ok h3; obtain ⟨iz, i0, i1, i2, i3, if_⟩ := hG2.kept hK3 (by omega); obtain ⟨cz, c0, c1, c2, c3, cf⟩ := hF2.kept hK3 (by omega); have hs3 := hK3.size))
  have hKX := kk (kk ((kk ((Kept.refl _ w).alloc _) hK1).alloc (.cells #[.int .i64 3, .int .i64 0, .string ⟨#[]⟩, .int .i64 0] 30)) hK2) hK3
  have hRX := (hR3).kept ((Kept.refl (fun k => k = w1.heap.size) w3).set (a := ⟨w1.heap.size, 2, none⟩) (fun _ => rfl) (.string s)) (fun k hk e => by omega)
  obtain ⟨hKF, hRF⟩ := fin4 hlt (hKX.set (a := ⟨w1.heap.size, 2, none⟩) (fun h => absurd h (by show ¬ w1.heap.size < _; omega)) (.string s)) hRX (.int .i64 3) (.int .i64 0) (.string s) (.int .i64 0)
  refine bodyPost_ret (v := (GV.mk 3 0 s 0).val) (by simp [results, Try.results147, go_sem, c0, c1, c2, c3]) rfl ?_
  exact ⟨hKF, Or.inl ⟨⟨3, 0, s, 0⟩, q2, by show rdVal (3 :: t) = _; simp [rdVal, hq.out, hq2.out], rfl, hRF⟩⟩

set_option maxHeartbeats 1000000 in
set_option maxRecDepth 100000 in
theorem readVal_text_no (b : Nat) (sa : Option Addr) (cap : Nat) (bs t : List Nat)  (w : World) (hR : Rd w b sa cap bs (3 :: t)) (hq : Hid (rdCount 1000 t = none)) :
    Calls Try.prog 147 #[.pointer (some ⟨b, 0, none⟩)] w (RVPost b sa cap bs (3 :: t) w) := by
  have hlt := hR.lt
  have hF0 := Four.new w ⟨0, 0, ⟨#[]⟩, 0⟩ 30
  go_enter Try.func147, Try.ntmps147
  go_wp2_with (first
    | (go_at_call 174; refine (readByte_any b sa cap bs (3 :: t) _ (hR.grow (gal (gre _) _))).mono ?_; rintro e w1 h1; obtain ⟨rfl, hR1, hK1⟩ := RPost.ok h1; have hF1 := hF0.kept hK1 (by omega); obtain ⟨az, a0, a1, a2, a3, af⟩ := id hF1; have hG := Four.new w1 ⟨3, 0, ⟨#[]⟩, 0⟩ 30; have hs1 := hK1.size; simp only [World.size_alloc] at hs1)
    | (go_at_call 146; refine (readCount_any b sa cap bs t 1000 _ _ (hR1.grow (gal (gre _) _)) rfl (by omega)).mono ?_; rintro e w2 h2; rw [hq.out] at h2; obtain ⟨rfl, hK2⟩ := RPost.no h2))
  exact ⟨rfl, kk ((kk ((Kept.refl _ w).alloc _) hK1).alloc (.cells #[.int .i64 3, .int .i64 0, .string ⟨#[]⟩, .int .i64 0] 30)) hK2, Or.inr ⟨by show rdVal (3 :: t) = _; simp [rdVal, hq.out], rfl⟩⟩

end Go.Proofs.Ythjddpkegooobab

/-
  RDV4: the program's reader: values. Own work.
-/
namespace Go.Proofs.Ythjddpkegooobab
open Go.RowKit

set_option maxHeartbeats 1000000 in
set_option maxRecDepth 100000 in
theorem readVal_text_no2 (b : Nat) (sa : Option Addr) (cap : Nat) (bs t : List Nat) (n : Nat) (q : List Nat) (w : World) (hR : Rd w b sa cap bs (3 :: t)) (hq : Hid (rdCount 1000 t = some (n, q))) (hn : n ≤ 1048576) (hq2 : Hid (rdText n q = none)) :
    Calls Try.prog 147 #[.pointer (some ⟨b, 0, none⟩)] w (RVPost b sa cap bs (3 :: t) w) := by
  have hlt := hR.lt
  have hF0 := Four.new w ⟨0, 0, ⟨#[]⟩, 0⟩ 30
  go_enter Try.func147, Try.ntmps147
  go_wp2_with (first
    | (go_at_call 174; refine (readByte_any b sa cap bs (3 :: t) _ (hR.grow (gal (gre _) _))).mono ?_; rintro e w1 h1; obtain ⟨rfl, hR1, hK1⟩ := RPost.ok h1; have hF1 := hF0.kept hK1 (by omega); obtain ⟨az, a0, a1, a2, a3, af⟩ := id hF1; have hG := Four.new w1 ⟨3, 0, ⟨#[]⟩, 0⟩ 30; have hs1 := hK1.size; simp only [World.size_alloc] at hs1)
    | (go_at_call 146; refine (readCount_any b sa cap bs t 1000 _ _ (hR1.grow (gal (gre _) _)) rfl (by omega)).mono ?_; rintro e w2 h2; rw [hq.out] at h2; obtain ⟨rfl, hR2, hK2⟩ := RPost.ok h2; have hF2 := (hF1.alloc (.cells #[.int .i64 3, .int .i64 0, .string ⟨#[]⟩, .int .i64 0] 30)).kept hK2 (by omega); obtain ⟨bz, b0, b1, b2, b3, bf⟩ := id hF2; have hG2 := hG.kept hK2 (by omega); obtain ⟨gz, g0, g1, g2, g3, gf⟩ := id hG2; have hs2 := hK2.size; simp only [World.size_alloc] at hs2)
    | (go_at_call 145; refine (readText_any b sa cap bs q n _ _ hR2 rfl hn).mono ?_; rintro e w3 h3; rw [hq2.out] at h3; obtain ⟨rfl, hK3⟩ := RPost.no h3))
  exact ⟨rfl, kk (kk ((kk ((Kept.refl _ w).alloc _) hK1).alloc (.cells #[.int .i64 3, .int .i64 0, .string ⟨#[]⟩, .int .i64 0] 30)) hK2) hK3, Or.inr ⟨by show rdVal (3 :: t) = _; simp [rdVal, hq.out, hq2.out], rfl⟩⟩

set_option maxHeartbeats 1000000 in
set_option maxRecDepth 100000 in
theorem readVal_other (b : Nat) (sa : Option Addr) (cap : Nat) (bs t : List Nat) (x : Nat) (w : World) (hR : Rd w b sa cap bs (x :: t)) (hx : 4 < x) :
    Calls Try.prog 147 #[.pointer (some ⟨b, 0, none⟩)] w (RVPost b sa cap bs (x :: t) w) := by
  have hlt := hR.lt
  have hx256 : x < 256 := (hR.head (x := x) (r' := t) rfl).1
  have hF0 := Four.new w ⟨0, 0, ⟨#[]⟩, 0⟩ 30
  have n0 : ((x : Int) == 0) = false := by simp; omega
  have n1 : ((x : Int) == 1) = false := by simp; omega
  have n2 : ((x : Int) == 2) = false := by simp; omega
  have n3 : ((x : Int) == 3) = false := by simp; omega
  have n4 : ((x : Int) == 4) = false := by simp; omega
  go_enter Try.func147, Try.ntmps147
  go_wp2_with (go_at_call 174; refine (readByte_any b sa cap bs (x :: t) _ (hR.grow (gal (gre _) _))).mono ?_; rintro e w1 h1; obtain ⟨rfl, hR1, hK1⟩ := RPost.ok h1)
  exact ⟨rfl, (kk ((Kept.refl _ w).alloc _) hK1).alloc _, Or.inr ⟨by show rdVal (x :: t) = _; unfold rdVal; dsimp only; rw [if_neg (by omega), if_neg (by omega), if_neg (by omega), if_neg (by omega), if_neg (by omega)], rfl⟩⟩

set_option maxRecDepth 100000 in
theorem readVal_none (b : Nat) (sa : Option Addr) (cap : Nat) (bs : List Nat) (w : World) (hR : Rd w b sa cap bs []) :
    Calls Try.prog 147 #[.pointer (some ⟨b, 0, none⟩)] w (RVPost b sa cap bs [] w) := by
  go_enter Try.func147, Try.ntmps147
  go_wp2_with (go_at_call 174; refine (readByte_any b sa cap bs [] _ (hR.grow (gal (gre _) _))).mono ?_; rintro e w1 h1; obtain ⟨rfl, hK1⟩ := RPost.no h1)
  exact ⟨rfl, kk ((Kept.refl _ w).alloc _) hK1, Or.inr ⟨rfl, rfl⟩⟩

end Go.Proofs.Ythjddpkegooobab

/-
  RDV: the program's reader: any value. Own work.
-/
namespace Go.Proofs.Ythjddpkegooobab
open Go.RowKit

theorem readVal_any (b : Nat) (sa : Option Addr) (cap : Nat) (bs r : List Nat) (w : World) (hR : Rd w b sa cap bs r) :
    Calls Try.prog 147 #[.pointer (some ⟨b, 0, none⟩)] w (RVPost b sa cap bs r w) := by
  cases r with
  | nil => exact readVal_none b sa cap bs w hR
  | cons x t =>
    by_cases h0 : x = 0
    · subst h0; exact readVal_nil b sa cap bs t w hR
    by_cases h1 : x = 1
    · subst h1
      cases hq : rdNum 0 0 t with
      | none => exact readVal_num_no b sa cap bs t w hR hq
      | some y => exact readVal_num b sa cap bs t y.1 y.2 w hR hq
    by_cases h2 : x = 2
    · subst h2
      cases hq : rdLow 8 0 0 t with
      | none => exact readVal_bits_no b sa cap bs t w hR hq
      | some y => exact readVal_bits b sa cap bs t y.1 y.2 w hR hq
    by_cases h3 : x = 3
    · subst h3
      cases hq : rdCount 1000 t with
      | none => exact readVal_text_no b sa cap bs t w hR hq
      | some y =>
        have hn : y.1 ≤ 1048576 := by have := rdCount_le (n := y.1) (q := y.2) hq; omega
        cases hq2 : rdText y.1 y.2 with
        | none => exact readVal_text_no2 b sa cap bs t y.1 y.2 w hR hq hn hq2
        | some z => exact readVal_text b sa cap bs t y.1 y.2 z.1 z.2 w hR hq hn hq2
    by_cases h4 : x = 4
    · subst h4
      cases hq : rdCount 300 t with
      | none => exact readVal_node_no b sa cap bs t w hR hq
      | some y => exact readVal_node b sa cap bs t y.1 y.2 w hR hq
    exact readVal_other b sa cap bs t x w hR (by omega)

end Go.Proofs.Ythjddpkegooobab

/-
  RDN: the program's reader: nodes. Own work.
-/
namespace Go.Proofs.Ythjddpkegooobab
open Go.RowKit

/-- what stands at the head of the round -/
structure NState (w : World) (b : Nat) (sa : Option Addr) (cap : Nat) (bs : List Nat) (tag : Int) (X : Nat) (ws : World) (q : List Nat) (va : Option Addr) (vc : Nat) (vs : List GV) : Prop where
  kept : Kept (fun k => k = b) w ws
  blk : b < w.heap.size ∧ w.heap.size < X ∧ X < ws.heap.size
  res : Two ws w.heap.size 0 (.slice none 0 0)
  x : Two ws X tag (.slice va vs.length vc)
  rd : Rd ws b sa cap bs q
  vals : ws.ownsRow (X + 1) 30 4 (.slice va vs.length vc) vs.length (valCells vs)

theorem NState.step {w : World} {b : Nat} {sa : Option Addr} {cap : Nat} {bs : List Nat} {tag : Int} {X : Nat} {ws : World} {q : List Nat} {va : Option Addr} {vc : Nat} {vs : List GV} (h : NState w b sa cap bs tag X ws q va vc vs) {v : GV} {w1 w3 : World} {q1 : List Nat} {gg cc : Nat} {o : Obj}
    (hR1 : Rd w1 b sa cap bs q1) (hK1 : Kept (fun k => k = b) ws w1)
    (hown : w3.ownsRow (X + 1) 30 4 (.slice (some ⟨gg, 0, none⟩) (vs.length + 1) cc) (vs.length + 1) (valCells vs ++ v.four))
    (hgrow : (w1.alloc o).grownBy w3 (Value.slice va vs.length vc).ownBlock) :
    NState w b sa cap bs tag X (w3.setCell ⟨X, 1, none⟩ (.slice (some ⟨gg, 0, none⟩) (vs.length + 1) cc)) q1 (some ⟨gg, 0, none⟩) cc (vs ++ [v]) := by
  obtain ⟨b1, b2, b3⟩ := h.blk
  have hs1 := hK1.size
  have hA : Kept (fun _ => False) w1 (w1.alloc o) := (Kept.refl _ w1).alloc _
  have hG := Kept.of_grown hgrow
  have hs3 : w1.heap.size + 1 ≤ w3.heap.size := by have := hgrow.size; simpa using this
  have hC := (Kept.refl (fun k => k = X) w3).set (a := ⟨X, 1, none⟩) (fun _ => rfl) (.slice (some ⟨gg, 0, none⟩) (vs.length + 1) cc)
  have hvb : ∀ k, (Value.slice va vs.length vc).ownBlock = some k → X + 1 ≤ k ∧ k < ws.heap.size := fun k hk => h.vals.lt k hk
  have hsz := h.kept.size
  exact {
    kept := (((h.kept.trans hK1 (fun _ _ e => e)).trans hA (fun _ _ e => e.elim)).trans hG (fun k hk hp => by have := hvb k hp; omega)).trans hC (fun k hk hp => by omega)
    blk := ⟨b1, b2, by have := hC.size; omega⟩
    res := (((h.res.kept hK1 (by omega)).kept hA (fun e => e)).kept hG (fun hp => by have := hvb _ hp; omega)).kept hC (by omega)
    x := by
      have h1 := ((h.x.kept hK1 (by omega)).kept hA (fun e => e)).kept hG (fun hp => by have := hvb _ hp; omega)
      simpa using h1.set (s' := .slice (some ⟨gg, 0, none⟩) (vs.length + 1) cc)
    rd := ((hR1.kept hA (fun _ _ e => e)).kept hG (fun k hk hp => by have := hvb k hp; omega)).kept hC (fun k hk hp => by omega)
    vals := by
      have h1 := hC.owns hown (fun k hk hp => by have := (hown.lt k hk).1; omega)
      simpa [valCells_snoc, GV.four] using h1 }

/-- so many values of m have been read -/
def RvInv (m : Nat) (r : List Nat) (j : Nat) (vs : List GV) (q : List Nat) : Prop := rdVals m r = (rdVals (m - j) q).map fun y => (vs ++ y.1, y.2)
theorem RvInv.start (m : Nat) (r : List Nat) : RvInv m r 0 [] r := by
  unfold RvInv
  rw [Nat.sub_zero]
  cases rdVals m r <;> simp
theorem RvInv.next {m j : Nat} {r q q1 : List Nat} {vs : List GV} {v : GV} (h : RvInv m r j vs q) (hj : j < m) (hv : rdVal q = some (v, q1)) : RvInv m r (j + 1) (vs ++ [v]) q1 := by
  unfold RvInv at h ⊢
  rw [h, show m - j = (m - (j + 1)) + 1 by omega, rdVals, hv]
  simp only [Option.bind_some, Option.map_map]
  congr 1
  funext y
  simp
theorem RvInv.none' {m j : Nat} {r q : List Nat} {vs : List GV} (h : RvInv m r j vs q) (hj : j < m) (hv : rdVal q = none) : rdVals m r = none := by
  unfold RvInv at h
  rw [h, show m - j = (m - (j + 1)) + 1 by omega, rdVals, hv]
  rfl
theorem RvInv.done {m : Nat} {r q : List Nat} {vs : List GV} (h : RvInv m r m vs q) : rdVals m r = some (vs, q) := by
  unfold RvInv at h
  rw [h, Nat.sub_self]
  simp [rdVals]

/-- what reading a node leaves -/
def NRPost (b : Nat) (sa : Option Addr) (cap : Nat) (bs r : List Nat) (w : World) (e : Ending) (w' : World) : Prop :=
  Kept (fun k => k = b) w w' ∧ ((∃ n q va vc, Hid (rdNode r = some (n, q)) ∧ e = .returned (nodeVal n va vc) ∧ w'.ownsRow w.heap.size 30 4 (.slice va n.vals.length vc) n.vals.length (valCells n.vals) ∧ Rd w' b sa cap bs q) ∨ (Hid (rdNode r = none) ∧ e = .panicked [haltP]))

set_option maxHeartbeats 1000000 in
set_option maxRecDepth 100000 in
theorem readNode_any (b : Nat) (sa : Option Addr) (cap : Nat) (bs r : List Nat) (w : World) (hR : Rd w b sa cap bs r) :
    Calls Try.prog 148 #[.pointer (some ⟨b, 0, none⟩)] w (NRPost b sa cap bs r w) := by
  obtain ⟨j0, hj, hy0, hy1, hy2⟩ := info_parts info_implVal
  have hlt := hR.lt
  have hT0 := Two.new_at w 0 (.slice none 0 0) 116 w.heap.size rfl
  cases ht : rdCount 1000 r with
  | none =>
    have ht' : Hid _ := ht
    go_enter Try.func148, Try.ntmps148
    go_wp2_with (go_at_call 146; refine (readCount_any b sa cap bs r 1000 _ _ (hR.grow (gal (gre _) _)) rfl (by omega)).mono ?_; rintro e w1 h1; rw [ht'.out] at h1; obtain ⟨rfl, hK1⟩ := RPost.no h1)
    exact ⟨rfl, kk ((Kept.refl _ w).alloc _) hK1, Or.inr ⟨by show rdNode r = none; unfold rdNode; rw [ht]; rfl, rfl⟩⟩
  | some y =>
    obtain ⟨tg, r1⟩ := y
    have ht' : Hid _ := ht
    cases hm : rdCount 100 r1 with
    | none =>
      have hm' : Hid _ := hm
      go_enter Try.func148, Try.ntmps148
      go_wp2_with (first
        | (go_at_call 146; refine (readCount_any b sa cap bs r1 100 _ _ (hR1.grow (gal (gre _) _)) rfl (by omega)).mono ?_; rintro e w2 h2; rw [hm'.out] at h2; obtain ⟨rfl, hK2⟩ := RPost.no h2)
        | (go_at_call 146; refine (readCount_any b sa cap bs r 1000 _ _ (hR.grow (gal (gre _) _)) rfl (by omega)).mono ?_; rintro e w1 h1; rw [ht'.out] at h1; obtain ⟨rfl, hR1, hK1⟩ := RPost.ok h1))
      exact ⟨rfl, kk ((kk ((Kept.refl _ w).alloc _) hK1).alloc _) hK2, Or.inr ⟨by show rdNode r = none; unfold rdNode; rw [ht]; simp [hm], rfl⟩⟩
    | some y =>
      obtain ⟨m, r2⟩ := y
      have hm' : Hid _ := hm
      have hml := rdCount_le hm
      have hnode : Hid (rdNode r = (rdVals m r2).map fun y => (⟨(tg : Int), y.1⟩, y.2)) := by show rdNode r = _; unfold rdNode; rw [ht]; simp [hm]
      go_enter Try.func148, Try.ntmps148
      go_wp2_with (first
        | (go_at_call 146; refine (readCount_any b sa cap bs r1 100 _ _ (hR1.grow (gal (gre _) _)) rfl (by omega)).mono ?_; rintro e w2 h2; rw [hm'.out] at h2; obtain ⟨rfl, hR2, hK2⟩ := RPost.ok h2)
        | (go_at_call 146; refine (readCount_any b sa cap bs r 1000 _ _ (hR.grow (gal (gre _) _)) rfl (by omega)).mono ?_; rintro e w1 h1; rw [ht'.out] at h1; obtain ⟨rfl, hR1, hK1⟩ := RPost.ok h1))
      have hs1 : w.heap.size + 1 ≤ w1.heap.size := by have := hK1.size; simpa using this
      have hs2 : w1.heap.size + 1 ≤ w2.heap.size := by have := hK2.size; simpa using this
      have hD0 : NState w b sa cap bs (tg : Int) w1.heap.size w2 r2 none 0 [] :=
        ⟨kk ((kk ((Kept.refl _ w).alloc _) hK1).alloc _) hK2, ⟨hlt, by omega, by omega⟩, ((hT0.kept hK1 (by omega)).kept ((Kept.refl (fun _ => False) w1).alloc _) (fun e => e)).kept hK2 (by omega), (Two.new_at w1 tg (.slice none 0 0) 116 w1.heap.size rfl).kept hK2 (by omega), hR2, World.ownsRow_nil _ _ _ _⟩
      generalize w1.heap.size = X at hD0 ⊢
      clear hK1 hK2 hs1 hs2 hR1 hR2 hT0
      go_loopw [9] (fun i ws => ∃ (j : Nat) (q : List Nat) (va : Option Addr) (vc : Nat) (vs : List GV), i = .int .i64 j ∧ j ≤ m ∧ Hid (vs.length = j) ∧ Hid (RvInv m r2 j vs q) ∧ NState w b sa cap bs (tg : Int) X ws q va vc vs) (fun i _ => m - (intOf i).toNat)
      case atStart => exact ⟨0, r2, none, 0, [], rfl, Nat.zero_le _, rfl, RvInv.start m r2, hD0⟩
      case round =>
        obtain ⟨j, q, va, vc, vs, rfl, hjm, hvl, hinv, hD⟩ := hrel
        obtain ⟨k1, k2, k3⟩ := hD.blk
        by_cases hjl : j < m
        · have hd : (j : Int) < (m : Int) := by omega
          obtain ⟨xz, x0, x1, xf, _⟩ := hD.x
          go_wp2
          refine wp_regionU (fun u => u.cell? ⟨X, 1, none⟩ = some (.slice va vs.length vc)) 7 (by kernel_rfl) x1 (fun hS0 => ?_)
          refine anyU_take (i := 0) (v := ?_) rfl (by kernel_rfl) (by kernel_rfl) (by kernel_rfl) (by kernel_rfl) (fun _ _ _ h => h) (Or.inl ⟨by rfl, ?_⟩) hS0 ?_
          rotate_left
          · intro u hSu; (try dsimp only at hSu); go_simp <;> with_reducible rfl
          simp only [Act.put, List.getElem_toArray, List.getElem_cons_zero, List.setIfInBounds_toArray, List.set_cons_zero, List.set_cons_succ]
          refine anyU_take (i := 1) (v := ?_) rfl (by kernel_rfl) (by kernel_rfl) (by kernel_rfl) (by kernel_rfl) (fun _ _ _ h => h) (Or.inl ⟨by rfl, ?_⟩) hS0 ?_
          rotate_left
          · intro u hSu; (try dsimp only at hSu); go_simp <;> with_reducible rfl
          simp only [Act.put, List.getElem_toArray, List.getElem_cons_zero, List.getElem_cons_succ, List.setIfInBounds_toArray, List.set_cons_zero, List.set_cons_succ]
          refine anyU_take (i := 2) (v := ?_) rfl (by kernel_rfl) (by kernel_rfl) (by kernel_rfl) (by kernel_rfl) (fun _ _ _ h => h) (Or.inl ⟨by rfl, ?_⟩) hS0 ?_
          rotate_left
          · intro u hSu; (try dsimp only at hSu); go_simp <;> with_reducible rfl
          simp only [Act.put, List.getElem_toArray, List.getElem_cons_zero, List.getElem_cons_succ, List.setIfInBounds_toArray, List.set_cons_zero, List.set_cons_succ]
          refine anyU_one (i := 3) (by kernel_rfl) rfl (fun K hK => ?_)
          go_simp
          refine (readVal_any b sa cap bs q _ (hD.rd.grow (gdr (gre _)))).mono ?_
          rintro e w1 ⟨hK1, ⟨v, q1, hv, rfl, hR1⟩ | ⟨hno, rfl⟩⟩
          · have hKw : Kept (fun k => k = b) wr w1 := kk ((Kept.refl (fun k => k = b) wr).drew) hK1
            have hS1 := hKw.cell x1 (by omega)
            have hX1 : Two w1 X tg (.slice va vs.length vc) := hD.x.kept hKw (by omega)
            have hv1 : Hid _ := hKw.owns hD.vals (fun k hk hp => by have := (hD.vals.lt k hk).1; omega)
            have hsw := hKw.size
            refine hK.out _ _ hS1 ?_
            clear hK
            have hS2' : Hid ((w1.alloc (.cells #[.int .i64 v.kind, .int .i64 v.num, .string v.text, .int .i64 v.node] 30)).cell? ⟨X, 1, none⟩ = some (.slice va vs.length vc)) := ((Kept.refl (fun _ => False) w1).alloc _).cell hS1 (fun e => e)
            refine anyU_one (i := 4) (by kernel_rfl) rfl (fun K hK => ?_)
            go_simp
            refine hK.out _ _ hS2'.out ?_
            clear hK
            refine anyU_one (i := 5) (by kernel_rfl) rfl (fun K hK => ?_)
            refine step_append_lies _ (by rfl) (.tmp 12) (.tmp 15) 114 rfl (X + 1) 30 j0 _ 4 40 Try.underlying114 hj hy0 hy1 hy2 rfl (by decide) (.slice va vs.length vc) vs.length (valCells vs) (by rfl) (World.ownsRow.alloc hv1.out _) ⟨w1.heap.size, 0, none⟩ 1 1 v.four (by rfl) rfl (World.news_of_block (cs := #[.int .i64 v.kind, .int .i64 v.num, .string v.text, .int .i64 v.node]) (t := 30) (fr := (0, 0)) (blk_new_at _ _ _ rfl)) (by simp [GV.four, Value.oneCell']) (by decide) (by have h7 := hvl.out; unfold maxLen; omega) (by have h7 := hvl.out; omega) (by simp; omega) (w1.heap.size + 1) (by simp) ?_
            intro gg cc w3 hown3 hgrow3 hat3 hlt3
            have hX3 := (hX1.kept ((Kept.refl (fun _ => False) w1).alloc _) (fun e => e)).kept (Kept.of_grown hgrow3) (fun hp => by have := (hD.vals.lt _ hp).1; omega)
            obtain ⟨yz, y0, y1, yf, _⟩ := id hX3
            refine hK.out _ _ y1 ?_
            clear hK
            simp only [Act.put, List.getElem_toArray, List.getElem_cons_zero, List.getElem_cons_succ, List.setIfInBounds_toArray, List.set_cons_zero, List.set_cons_succ]
            refine anyU_one (i := 6) (by kernel_rfl) rfl (fun K hK => ?_)
            go_simp
            refine hK.out _ _ y1 ?_
            clear hK
            refine anyU_last (by kernel_rfl) rfl (by kernel_rfl) (fun K hK => ?_)
            go_simp
            refine hK.out _ _ ?_
            clear hK
            have hfin := hD.step hR1 hKw hown3 hgrow3
            have hinv2 : Hid (RvInv m r2 (j + 1) (vs ++ [v]) q1) := hinv.out.next hjl hv.out
            go_wp2
            go_roundw
            case rel => exact ⟨j + 1, q1, some ⟨gg, 0, none⟩, cc, vs ++ [v], by go_num, by omega, by have := hvl.out; show (vs ++ [v]).length = j + 1; simp [this], hinv2, hfin⟩
            case measure => simp [intOf]; omega
          · refine ⟨rfl, kk hD.kept (kk ((Kept.refl (fun k => k = b) wr).drew) hK1), Or.inr ⟨?_, rfl⟩⟩
            show rdNode r = none
            rw [hnode.out, hinv.out.none' hjl hno.out]; rfl
        · obtain rfl : j = m := by omega
          have hd : ¬ ((j : Int) < (j : Int)) := by omega
          have hdone : Hid (rdNode r = some (⟨(tg : Int), vs⟩, q)) := by show rdNode r = _; rw [hnode.out, hinv.out.done]; rfl
          obtain ⟨xz, x0, x1, xf, _⟩ := hD.x
          obtain ⟨rz, r0, r1', rf, _⟩ := hD.res
          have hC : Kept (fun k => k = w.heap.size) wr ((wr.setCell ⟨w.heap.size, 0, none⟩ (.int .i64 (tg : Int))).setCell ⟨w.heap.size, 1, none⟩ (.slice va vs.length vc)) := ((Kept.refl (fun k => k = w.heap.size) wr).set (fun _ => rfl) _).set (fun _ => rfl) _
          have hkept := hD.kept.trans hC (fun k hk hp => by omega)
          have hvals := hC.owns (owns_le hD.vals (show w.heap.size ≤ X + 1 by omega)) (fun k hk hp => by have := (hD.vals.lt k hk).1; omega)
          have hrd := hD.rd.kept hC (fun k hk hp => by omega)
          go_wp2
          refine bodyPost_ret (v := .agg #[.int .i64 (tg : Int), .slice va vs.length vc]) (by simp [results, Try.results148, go_sem, r0, r1']) rfl ⟨hkept, Or.inl ⟨⟨(tg : Int), vs⟩, q, va, vc, hdone, rfl, hvals, hrd⟩⟩

end Go.Proofs.Ythjddpkegooobab

/-
  NODEOF: a thing made a node again. Own work.
-/
namespace Go.Proofs.Ythjddpkegooobab
open Go.RowKit

/-- what stands at the head of the round -/
structure VState (w : World) (tb : Nat → Nat) (M mb base : Nat) (tag : Int) (ma0 : Option Addr) (ws : World) (ord : List Nat) (ma : Option Addr) (mc : Nat) (va : Option Addr) (vc : Nat) (vs : List GV) : Prop where
  kept : Kept (fun k => k = M ∨ k = mb ∨ ma0 = some ⟨k, 0, none⟩) w ws
  size : w.heap.size + 1 + 1 ≤ ws.heap.size
  res : Two ws w.heap.size 0 (.slice none 0 0)
  x : Two ws (w.heap.size + 1) tag (.slice va vs.length vc)
  meet : Meet ws tb M mb base ord ma mc
  maor : ma = ma0 ∨ ∃ b, ma = some ⟨b, 0, none⟩ ∧ w.heap.size + 1 + 1 ≤ b
  vals : ws.ownsRow (w.heap.size + 1 + 1) 30 4 (.slice va vs.length vc) vs.length (valCells vs)
  ap : ∀ b, va = some ⟨b, 0, none⟩ → ma ≠ some ⟨b, 0, none⟩

section
variable {w : World} {tb : Nat → Nat} {M mb base : Nat} {tag : Int} {ma0 : Option Addr} {ws : World} {ord : List Nat} {ma : Option Addr} {mc : Nat} {va : Option Addr} {vc : Nat} {vs : List GV}

set_option maxRecDepth 100000 in
theorem VState.far (h : VState w tb M mb base tag ma0 ws ord ma mc va vc vs) (_hb : base ≤ w.heap.size) (h0 : ∀ b, ma0 = some ⟨b, 0, none⟩ → b < w.heap.size) :
    (∀ b, ma = some ⟨b, 0, none⟩ → base ≤ b ∧ b < ws.heap.size ∧ b ≠ w.heap.size ∧ b ≠ w.heap.size + 1) ∧ (∀ b, va = some ⟨b, 0, none⟩ → w.heap.size + 1 + 1 ≤ b ∧ b < ws.heap.size) := by
  refine ⟨fun b hb => ?_, fun b hb => h.vals.lt b (by rw [hb]; rfl)⟩
  have h1 := h.meet.met.lt b (by rw [hb]; rfl)
  refine ⟨h1.1, h1.2, ?_, ?_⟩
  · rcases h.maor with e | ⟨c, e, hc⟩
    · have := h0 b (by rw [← e, hb]); omega
    · rw [hb] at e; have := some_addr e; omega
  · rcases h.maor with e | ⟨c, e, hc⟩
    · have := h0 b (by rw [← e, hb]); omega
    · rw [hb] at e; have := some_addr e; omega

set_option maxRecDepth 100000 in
theorem VState.step (h : VState w tb M mb base tag ma0 ws ord ma mc va vc vs) (hb : base ≤ w.heap.size) (hMl : M < base ∧ mb < base) (h0 : ∀ b, ma0 = some ⟨b, 0, none⟩ → b < w.heap.size) {v : GV} {w1 w3 : World} {ma1 : Option Addr} {mc1 gg cc : Nat} {o : Obj}
    (hM1 : Meet w1 tb M mb base (renOrd ord v) ma1 mc1) (hor1 : ma1 = ma ∨ ∃ b, ma1 = some ⟨b, 0, none⟩ ∧ ws.heap.size ≤ b) (hK1 : Kept (fun k => k = M ∨ k = mb ∨ ma = some ⟨k, 0, none⟩) ws w1)
    (hown : w3.ownsRow (w.heap.size + 1 + 1) 30 4 (.slice (some ⟨gg, 0, none⟩) (vs.length + 1) cc) (vs.length + 1) (valCells vs ++ (renVal ord v).four))
    (hgrow : (w1.alloc o).grownBy w3 (Value.slice va vs.length vc).ownBlock) (hat : (Value.slice va vs.length vc).ownBlock = some gg ∨ gg = w1.heap.size + 1) :
    VState w tb M mb base tag ma0 (w3.setCell ⟨w.heap.size + 1, 1, none⟩ (.slice (some ⟨gg, 0, none⟩) (vs.length + 1) cc)) (renOrd ord v) ma1 mc1 (some ⟨gg, 0, none⟩) cc (vs ++ [renVal ord v]) := by
  obtain ⟨f1, f2⟩ := h.far hb h0
  have hz := h.size
  have hs1 := hK1.size
  have hA : Kept (fun _ => False) w1 (w1.alloc o) := (Kept.refl _ w1).alloc _
  have hG := Kept.of_grown hgrow
  have hs3 : w1.heap.size + 1 ≤ w3.heap.size := by have := hgrow.size; simpa using this
  have hC := (Kept.refl (fun b => b = w.heap.size + 1) w3).set (a := ⟨w.heap.size + 1, 1, none⟩) (fun _ => rfl) (.slice (some ⟨gg, 0, none⟩) (vs.length + 1) cc)
  have hvb : ∀ b, (Value.slice va vs.length vc).ownBlock = some b → w.heap.size + 1 + 1 ≤ b ∧ b < ws.heap.size ∧ va = some ⟨b, 0, none⟩ := fun b hb => by
    have e := owns_addr h.vals hb
    exact ⟨(f2 b e).1, (f2 b e).2, e⟩
  have hm1 : ∀ b, ma1 = some ⟨b, 0, none⟩ → base ≤ b ∧ b < w1.heap.size ∧ b ≠ w.heap.size ∧ b ≠ w.heap.size + 1 ∧ (Value.slice va vs.length vc).ownBlock ≠ some b := fun b hb => by
    have h1 := hM1.met.lt b (by rw [hb]; rfl)
    rcases hor1 with e | ⟨c, e, hc⟩
    · have h2 := f1 b (by rw [← e, hb])
      exact ⟨h1.1, h1.2, h2.2.2.1, h2.2.2.2, fun hx => h.ap b (hvb b hx).2.2 (by rw [← e, hb])⟩
    · rw [hb] at e
      have e2 := some_addr e
      refine ⟨h1.1, h1.2, by omega, by omega, fun hx => ?_⟩
      have := hvb b hx
      omega
  have hp1 : ∀ b, (b = w.heap.size ∨ b = w.heap.size + 1) → ¬ (b = M ∨ b = mb ∨ ma = some ⟨b, 0, none⟩) := fun b hb hp => by
    rcases hp with hp | hp | hp
    · omega
    · omega
    · have := f1 b hp; omega
  exact {
    kept := by
      refine (((h.kept.trans hK1 (fun k hk hp => ?_)).trans hA (fun _ _ e => e.elim)).trans hG (fun k hk hp => ?_)).trans hC (fun k hk hp => by omega)
      · rcases hp with hp | hp | hp
        · exact Or.inl hp
        · exact Or.inr (Or.inl hp)
        · rcases h.maor with e | ⟨c, e, hc⟩
          · exact Or.inr (Or.inr (by rw [← e, hp]))
          · rw [hp] at e; have := some_addr e; omega
      · have := hvb k hp; omega
    size := by have := hC.size; omega
    res := (((h.res.kept hK1 (hp1 _ (Or.inl rfl))).kept hA (fun e => e)).kept hG (fun hp => by have := hvb _ hp; omega)).kept hC (by omega)
    x := by
      have h1 := ((h.x.kept hK1 (hp1 _ (Or.inr rfl))).kept hA (fun e => e)).kept hG (fun hp => by have := hvb _ hp; omega)
      simpa using h1.set (s' := .slice (some ⟨gg, 0, none⟩) (vs.length + 1) cc)
    meet := ((hM1.kept hA (fun e => e) (fun e => e) (fun _ _ e => e)).kept hG (fun hp => by have := hvb _ hp; omega) (fun hp => by have := hvb _ hp; omega) (fun b hb hp => (hm1 b hb).2.2.2.2 hp)).kept hC (by omega) (by omega) (fun b hb hp => by have := hm1 b hb; omega)
    maor := by
      rcases hor1 with e | ⟨c, e, hc⟩
      · rw [e]; exact h.maor
      · exact Or.inr ⟨c, e, by omega⟩
    vals := by
      have h1 := hC.owns hown (fun b hb hp => by have := (hown.lt b hb).1; omega)
      simpa [valCells_snoc, GV.four] using h1
    ap := fun b hb hx => by
      have e := some_addr hb
      subst e
      have h2 := hm1 gg hx
      rcases hat with e2 | e2
      · exact h2.2.2.2.2 e2
      · omega }
end

/-- what making a node leaves -/
def NodePost (w : World) (tb : Nat → Nat) (M mb base : Nat) (n : GN) (ord : List Nat) (ma0 : Option Addr) (e : Ending) (w' : World) : Prop :=
  ∃ ma mc va vc, e = .returned (nodeVal ⟨n.tag, renVals ord n.vals⟩ va vc) ∧ Meet w' tb M mb base (renOrds ord n.vals) ma mc ∧ (ma = ma0 ∨ ∃ b, ma = some ⟨b, 0, none⟩ ∧ w.heap.size ≤ b) ∧
    w'.ownsRow w.heap.size 30 4 (.slice va (renVals ord n.vals).length vc) (renVals ord n.vals).length (valCells (renVals ord n.vals)) ∧ (∀ b, va = some ⟨b, 0, none⟩ → ma ≠ some ⟨b, 0, none⟩) ∧ Kept (fun k => k = M ∨ k = mb ∨ ma0 = some ⟨k, 0, none⟩) w w'

set_option maxHeartbeats 1000000 in
set_option maxRecDepth 100000 in
theorem nodeOf_any (N lo : Nat) (tb : Nat → Nat) (M mb base : Nat) (n : GN) (x B : Nat) (xa : Option Addr) (xc : Nat) (ord : List Nat) (ma0 : Option Addr) (mc0 : Nat) (w : World) (hok : okN N n = true) (hinv : InvO N ord) (hN : N ≤ 300) (_hx : x < N)
    (hinj : ∀ i j, i < N → j < N → tb i = tb j → i = j) (hcells : ∀ i, i < N → CellsAt w (tb i) ∧ tb i < lo) (hM : Meet w tb M mb base ord ma0 mc0) (hbase : base ≤ w.heap.size) (hlo : lo ≤ M ∧ lo ≤ mb)
    (ht : Two w (tb x) n.tag (.slice xa n.vals.length xc)) (hr : w.ownsRow B 172 1 (.slice xa n.vals.length xc) n.vals.length (n.vals.map (encV tb))) (hxa : ∀ b, xa = some ⟨b, 0, none⟩ → b < lo) :
    Calls Try.prog 169 #[ptr M, ptr (tb x)] w (NodePost w tb M mb base n ord ma0) := by
  obtain ⟨hvl, hvok⟩ := okN_parts hok
  obtain ⟨j0, hj, hy0, hy1, hy2⟩ := info_parts info_implVal
  obtain ⟨m1, m2, m3⟩ := hM.mlt
  have htl := ht.lt
  have t0 := ht.c0
  have t1 := ht.c1
  have hma0 : ∀ b, ma0 = some ⟨b, 0, none⟩ → base ≤ b ∧ b < w.heap.size := fun b hb => hM.met.lt b (by rw [hb]; rfl)
  go_enter Try.func169, Try.ntmps169
  go_wp2
  have hA : Kept (fun _ => False) w ((w.alloc (.cells #[.int .i64 0, .slice none 0 0] 116)).alloc (.cells #[.int .i64 n.tag, .slice none 0 0] 116)) := ((Kept.refl _ w).alloc _).alloc _
  go_loopw [18] (fun i ws => ∃ (j : Nat) (ord' : List Nat) (ma : Option Addr) (mc : Nat) (va : Option Addr) (vc : Nat) (vs : List GV), Hid (ord' = renOrds ord (n.vals.take j)) ∧ Hid (vs = renVals ord (n.vals.take j)) ∧ Hid (vs.length = j) ∧ j ≤ n.vals.length ∧ i = .int .i64 j ∧ VState w tb M mb base n.tag ma0 ws ord' ma mc va vc vs) (fun i _ => n.vals.length - (intOf i).toNat)
  case atStart =>
    refine ⟨0, ord, ma0, mc0, none, 0, [], rfl, rfl, rfl, Nat.zero_le _, rfl, hA.mono (fun _ _ e => e.elim), by simp, (Two.new_at _ _ _ _ _ rfl).kept ((Kept.refl (fun _ => False) _).alloc _) (fun e => e), Two.new_at _ _ _ _ _ (by simp), hM.kept hA (fun e => e) (fun e => e) (fun _ _ e => e), Or.inl rfl, World.ownsRow_nil _ _ _ _, fun b hb => by cases hb⟩
  case round =>
    obtain ⟨j, ord', ma, mc, va, vc, vs, hord', hvs, hvsl, hjle, rfl, hD⟩ := hrel
    have hz := hD.size
    by_cases hjl : j < n.vals.length
    · obtain ⟨v, hvj⟩ : ∃ v, Hid (v = n.vals[j]!) := ⟨_, rfl⟩
      have hvm : v ∈ n.vals := by rw [hvj.out]; exact mem_at hjl
      have hnp : ∀ b, b < lo → ¬ (b = M ∨ b = mb ∨ ma0 = some ⟨b, 0, none⟩) := fun b hb hp => by
        rcases hp with hp | hp | hp
        · omega
        · omega
        · have := hma0 b hp; omega
      have hcj : (n.vals.map (encV tb))[j]? = some (encV tb v) := by
        rw [List.getElem?_map, List.getElem?_eq_getElem hjl, hvj.out, getElem!_pos n.vals j hjl]; rfl
      obtain ⟨gx, rfl, hgx1, hgx2, hgc⟩ := owns_cell hr hcj
      have hgc2 := hD.kept.cell hgc (hnp gx (hxa gx rfl))
      have hinv' : InvO N ord' := by rw [hord'.out]; exact hinv.rens (fun v hv => hvok v (List.mem_of_mem_take hv))
      have hcells' : ∀ i, i < N → CellsAt wr.drew (tb i) := fun i hi => by
        obtain ⟨⟨c, t, hc⟩, hl⟩ := hcells i hi
        exact ⟨c, t, (hD.kept.block _ (Array.getElem?_eq_some_iff.1 hc).1 (hnp _ hl)).trans hc⟩
      obtain ⟨xz, x0, x1, xf, _⟩ := hD.x
      have hMd : Meet wr.drew tb M mb base ord' ma mc := hD.meet.kept ((Kept.refl (fun _ => False) wr).drew) (fun e => e) (fun e => e) (fun _ _ e => e)
      have hbd : base ≤ wr.drew.heap.size := by show base ≤ wr.heap.size; omega
      obtain ⟨f1, f2⟩ := hD.far hbase (fun b hb => (hma0 b hb).2)
      have hi0 : (0 : Int) ≤ (j : Int) := by omega
      have hi1 : (j : Int) < (n.vals.length : Int) := by omega
      clear hgc t0 t1
      go_wp2
      refine wp_regionU (fun u => u.cell? ⟨w.heap.size + 1, 1, none⟩ = some (.slice va vs.length vc)) 8 (by kernel_rfl) x1 (fun hS0 => ?_)
      refine anyU_take (i := 0) (v := ?_) rfl (by kernel_rfl) (by kernel_rfl) (by kernel_rfl) (by kernel_rfl) (fun _ _ _ h => h) (Or.inl ⟨by rfl, ?_⟩) hS0 ?_
      rotate_left
      · intro u hSu; (try dsimp only at hSu); go_simp <;> with_reducible rfl
      simp only [Act.put, List.getElem_toArray, List.getElem_cons_zero, List.setIfInBounds_toArray, List.set_cons_zero, List.set_cons_succ]
      refine anyU_take (i := 1) (v := ?_) rfl (by kernel_rfl) (by kernel_rfl) (by kernel_rfl) (by kernel_rfl) (fun _ _ _ h => h) (Or.inl ⟨by rfl, ?_⟩) hS0 ?_
      rotate_left
      · intro u hSu; (try dsimp only at hSu); go_simp <;> with_reducible rfl
      simp only [Act.put, List.getElem_toArray, List.getElem_cons_zero, List.getElem_cons_succ, List.setIfInBounds_toArray, List.set_cons_zero, List.set_cons_succ]
      refine anyU_take (i := 2) (v := ?_) rfl (by kernel_rfl) (by kernel_rfl) (by kernel_rfl) (by kernel_rfl) (fun _ _ _ h => h) (Or.inl ⟨by rfl, ?_⟩) hS0 ?_
      rotate_left
      · intro u hSu; (try dsimp only at hSu); go_simp <;> with_reducible rfl
      simp only [Act.put, List.getElem_toArray, List.getElem_cons_zero, List.getElem_cons_succ, List.setIfInBounds_toArray, List.set_cons_zero, List.set_cons_succ]
      refine anyU_take (i := 3) (v := ?_) rfl (by kernel_rfl) (by kernel_rfl) (by kernel_rfl) (by kernel_rfl) (fun _ _ _ h => h) (Or.inl ⟨by rfl, ?_⟩) hS0 ?_
      rotate_left
      · intro u hSu; (try dsimp only at hSu); go_simp <;> with_reducible rfl
      simp only [Act.put, List.getElem_toArray, List.getElem_cons_zero, List.getElem_cons_succ, List.setIfInBounds_toArray, List.set_cons_zero, List.set_cons_succ]
      refine anyU_one (i := 4) (by kernel_rfl) rfl (fun K hK => ?_)
      go_simp
      refine (valOf_any N tb M mb base ord' v ma mc _ (hvok v hvm) hinv' hN hinj hcells' hMd hbd).mono ?_
      rintro e w1 ⟨ma1, mc1, rfl, hM1, hor1, hK1⟩
      have hKw : Kept (fun k => k = M ∨ k = mb ∨ ma = some ⟨k, 0, none⟩) wr w1 := ((Kept.refl (fun k => k = M ∨ k = mb ∨ ma = some ⟨k, 0, none⟩) wr).drew).trans hK1 (fun _ _ e => e)
      have hN1 : ¬ (w.heap.size + 1 = M ∨ w.heap.size + 1 = mb ∨ ma = some ⟨w.heap.size + 1, 0, none⟩) := fun hp => by
        rcases hp with hp | hp | hp
        · omega
        · omega
        · have := f1 _ hp; omega
      have hS1 := hKw.cell x1 hN1
      have hX1 : Two w1 (w.heap.size + 1) n.tag (.slice va vs.length vc) := hD.x.kept hKw hN1
      have hv1 : Hid _ := hKw.owns hD.vals (fun b hb hp => by
        have h8 := f2 b (owns_addr hD.vals hb)
        rcases hp with hp | hp | hp
        · omega
        · omega
        · exact hD.ap b (owns_addr hD.vals hb) hp)
      refine hK.out _ _ hS1 ?_
      clear hK
      have hsw := hKw.size
      have hS2 : (w1.alloc (.cells #[.int .i64 (renVal ord' v).kind, .int .i64 (renVal ord' v).num, .string (renVal ord' v).text, .int .i64 (renVal ord' v).node] 30)).cell? ⟨w.heap.size + 1, 1, none⟩ = some (.slice va vs.length vc) := ((Kept.refl (fun _ => False) w1).alloc _).cell hS1 (fun e => e)
      have hS2' : Hid _ := hS2
      clear hS2
      refine anyU_one (i := 5) (by kernel_rfl) rfl (fun K hK => ?_)
      go_simp
      refine hK.out _ _ hS2'.out ?_
      clear hK
      refine anyU_one (i := 6) (by kernel_rfl) rfl (fun K hK => ?_)
      refine step_append_lies _ (by rfl) (.tmp 23) (.tmp 27) 114 rfl (w.heap.size + 1 + 1) 30 j0 _ 4 40 Try.underlying114 hj hy0 hy1 hy2 rfl (by decide) (.slice va vs.length vc) vs.length (valCells vs) (by rfl) (World.ownsRow.alloc hv1.out _) ⟨w1.heap.size, 0, none⟩ 1 1 (renVal ord' v).four (by rfl) rfl (World.news_of_block (cs := #[.int .i64 (renVal ord' v).kind, .int .i64 (renVal ord' v).num, .string (renVal ord' v).text, .int .i64 (renVal ord' v).node]) (t := 30) (fr := (0, 0)) (blk_new_at _ _ _ rfl)) (by simp [GV.four, Value.oneCell']) (by decide) (by have h7 := hvsl.out; unfold maxLen; omega) (by have h7 := hvsl.out; omega) (by simp; omega) (w1.heap.size + 1) (by simp) ?_
      intro gg cc w3 hown3 hgrow3 hat3 hlt3
      have hX3 := (hX1.kept ((Kept.refl (fun _ => False) w1).alloc _) (fun e => e)).kept (Kept.of_grown hgrow3) (fun hp => by have h8 := f2 _ (owns_addr hD.vals hp); omega)
      obtain ⟨yz, y0, y1, yf, _⟩ := id hX3
      refine hK.out _ _ y1 ?_
      clear hK
      simp only [Act.put, List.getElem_toArray, List.getElem_cons_zero, List.getElem_cons_succ, List.setIfInBounds_toArray, List.set_cons_zero, List.set_cons_succ]
      refine anyU_one (i := 7) (by kernel_rfl) rfl (fun K hK => ?_)
      go_simp
      refine hK.out _ _ y1 ?_
      clear hK
      refine anyU_last (by kernel_rfl) rfl (by kernel_rfl) (fun K hK => ?_)
      go_simp
      refine hK.out _ _ ?_
      clear hK
      have hfin := hD.step hbase ⟨m1, m2⟩ (fun b hb => (hma0 b hb).2) hM1 (hor1.imp id (fun ⟨b, e, h⟩ => ⟨b, e, h⟩)) hKw hown3 hgrow3 hat3
      have hs1 : Hid (renOrds ord (n.vals.take (j + 1)) = renOrd ord' v) := by rw [renOrds_take_succ _ _ _ hjl, ← hvj.out, ← hord'.out]; rfl
      have hs2 : Hid (renVals ord (n.vals.take (j + 1)) = vs ++ [renVal ord' v]) := by rw [renVals_take_succ _ _ _ hjl, ← hvj.out, ← hord'.out, ← hvs.out]; rfl
      go_wp2
      go_roundw
      case rel => exact ⟨j + 1, renOrd ord' v, ma1, mc1, some ⟨gg, 0, none⟩, cc, vs ++ [renVal ord' v], hs1.out.symm, hs2.out.symm, by have := hvsl.out; show (vs ++ [renVal ord' v]).length = j + 1; simp [this], by omega, by go_num, hfin⟩
      case measure => simp [intOf]; omega
    · have e : j = n.vals.length := by omega
      have hvs2 : Hid (renVals ord n.vals = vs) := by have h8 := hvs.out; rw [e, List.take_length] at h8; exact h8.symm
      have hord2 : Hid (renOrds ord n.vals = ord') := by have h8 := hord'.out; rw [e, List.take_length] at h8; exact h8.symm
      obtain ⟨f1, f2⟩ := hD.far hbase (fun b hb => (hma0 b hb).2)
      obtain ⟨xz, x0, x1, xf, _⟩ := hD.x
      obtain ⟨rz, r0, r1, rf, _⟩ := hD.res
      have hC : Kept (fun k => k = w.heap.size) wr ((wr.setCell ⟨w.heap.size, 0, none⟩ (.int .i64 n.tag)).setCell ⟨w.heap.size, 1, none⟩ (.slice va vs.length vc)) := ((Kept.refl (fun k => k = w.heap.size) wr).set (fun _ => rfl) _).set (fun _ => rfl) _
      have hkept := hD.kept.trans hC (fun k hk hp => by omega)
      have hmeet := hD.meet.kept hC (by omega) (by omega) (fun b hb hp => by have := f1 b hb; omega)
      have hvals := hC.owns (owns_le hD.vals (show w.heap.size ≤ w.heap.size + 1 + 1 by omega)) (fun b hb hp => by have := f2 b (owns_addr hD.vals hb); omega)
      have hmaor := hD.maor
      have hap := hD.ap
      clear t0 t1 e
      go_wp2
      refine bodyPost_ret (v := .agg #[.int .i64 n.tag, .slice va vs.length vc]) (by simp [results, Try.results169, go_sem, r0, r1]) rfl ⟨ma, mc, va, vc, by rw [hvs2.out], by rw [hord2.out]; exact hmeet, ?_, by rw [hvs2.out]; exact hvals, hap, hkept⟩
      rcases hmaor with e | ⟨c, e, hc⟩
      · exact Or.inl e
      · exact Or.inr ⟨c, e, by omega⟩

end Go.Proofs.Ythjddpkegooobab
