import Derived.Test.YtmdpmdmilgbfiaaGreatDoorPartN
import Derived.Test.YtmdpmdmilgbfiaaGreatDoorPartZA

/-
  RDV2: the program's reader: values. Own work.
-/
namespace Go.Proofs.YtmdpmdmilgbfiaaGreatDoor
open Go.RowKit

set_option maxHeartbeats 1000000 in
set_option maxRecDepth 100000 in
theorem readVal_bits (b : Nat) (sa : Option Addr) (cap : Nat) (bs t : List Nat) (n : Int) (q : List Nat) (w : World) (hR : Rd w b sa cap bs (2 :: t)) (hq : Hid (rdLow 8 0 0 t = some (n, q))) :
    Calls Tryz.prog 147 #[.pointer (some ⟨b, 0, none⟩)] w (RVPost b sa cap bs (2 :: t) w) := by
  have hlt := hR.lt
  have hF0 := Four.new w ⟨0, 0, ⟨#[]⟩, 0⟩ 29
  go_enter Tryz.func147, Tryz.ntmps147
  go_wp2_with (first
    | (go_at_call 138; refine (readByte_any b sa cap bs (2 :: t) _ (hR.grow (gal (gre _) _))).mono ?_; rintro e w1 h1; obtain ⟨rfl, hR1, hK1⟩ := RPost.ok h1; have hF1 := hF0.kept hK1 (by omega); obtain ⟨az, a0, a1, a2, a3, af⟩ := id hF1; have hG := Four.new w1 ⟨2, 0, ⟨#[]⟩, 0⟩ 29; have hs1 := hK1.size; simp only [World.size_alloc] at hs1)
    | (go_at_call 106; refine (readWord_any b sa cap bs t _ (hR1.grow (gal (gre _) _))).mono ?_; rintro e w2 h2; rw [hq.out] at h2; obtain ⟨rfl, hR2, hK2⟩ := RPost.ok h2; have hF2 := (hF1.alloc (.cells #[.int .i64 2, .int .i64 0, .string ⟨#[]⟩, .int .i64 0] 29)).kept hK2 (by omega); obtain ⟨bz, b0, b1, b2, b3, bf⟩ := id hF2; have hG2 := hG.kept hK2 (by omega); obtain ⟨gz, g0, g1, g2, g3, gf⟩ := id hG2; have hs2 := hK2.size; simp only [World.size_alloc] at hs2))
  have hKX := kk ((kk ((Kept.refl _ w).alloc _) hK1).alloc (.cells #[.int .i64 2, .int .i64 0, .string ⟨#[]⟩, .int .i64 0] 29)) hK2
  have hRX := (hR2).kept ((Kept.refl (fun k => k = w1.heap.size) w2).set (a := ⟨w1.heap.size, 1, none⟩) (fun _ => rfl) (.int .i64 n)) (fun k hk e => by omega)
  obtain ⟨hKF, hRF⟩ := fin4 hlt (hKX.set (a := ⟨w1.heap.size, 1, none⟩) (fun h => absurd h (by show ¬ w1.heap.size < _; omega)) (.int .i64 n)) hRX (.int .i64 2) (.int .i64 n) (.string ⟨#[]⟩) (.int .i64 0)
  refine bodyPost_ret (v := (GV.mk 2 n ⟨#[]⟩ 0).val) (by simp [results, Tryz.results147, go_sem, b0, b1, b2, b3]) rfl ?_
  exact ⟨hKF, Or.inl ⟨⟨2, n, ⟨#[]⟩, 0⟩, q, by show rdVal (2 :: t) = _; simp [rdVal, hq.out], rfl, hRF⟩⟩

set_option maxHeartbeats 1000000 in
set_option maxRecDepth 100000 in
theorem readVal_bits_no (b : Nat) (sa : Option Addr) (cap : Nat) (bs t : List Nat)  (w : World) (hR : Rd w b sa cap bs (2 :: t)) (hq : Hid (rdLow 8 0 0 t = none)) :
    Calls Tryz.prog 147 #[.pointer (some ⟨b, 0, none⟩)] w (RVPost b sa cap bs (2 :: t) w) := by
  have hlt := hR.lt
  have hF0 := Four.new w ⟨0, 0, ⟨#[]⟩, 0⟩ 29
  go_enter Tryz.func147, Tryz.ntmps147
  go_wp2_with (first
    | (go_at_call 138; refine (readByte_any b sa cap bs (2 :: t) _ (hR.grow (gal (gre _) _))).mono ?_; rintro e w1 h1; obtain ⟨rfl, hR1, hK1⟩ := RPost.ok h1; have hF1 := hF0.kept hK1 (by omega); obtain ⟨az, a0, a1, a2, a3, af⟩ := id hF1; have hG := Four.new w1 ⟨2, 0, ⟨#[]⟩, 0⟩ 29; have hs1 := hK1.size; simp only [World.size_alloc] at hs1)
    | (go_at_call 106; refine (readWord_any b sa cap bs t _ (hR1.grow (gal (gre _) _))).mono ?_; rintro e w2 h2; rw [hq.out] at h2; obtain ⟨rfl, hK2⟩ := RPost.no h2))
  exact ⟨rfl, kk ((kk ((Kept.refl _ w).alloc _) hK1).alloc (.cells #[.int .i64 2, .int .i64 0, .string ⟨#[]⟩, .int .i64 0] 29)) hK2, Or.inr ⟨by show rdVal (2 :: t) = _; simp [rdVal, hq.out], rfl⟩⟩

set_option maxHeartbeats 1000000 in
set_option maxRecDepth 100000 in
theorem readVal_node (b : Nat) (sa : Option Addr) (cap : Nat) (bs t : List Nat) (n : Nat) (q : List Nat) (w : World) (hR : Rd w b sa cap bs (4 :: t)) (hq : Hid (rdCount 300 t = some (n, q))) :
    Calls Tryz.prog 147 #[.pointer (some ⟨b, 0, none⟩)] w (RVPost b sa cap bs (4 :: t) w) := by
  have hlt := hR.lt
  have hF0 := Four.new w ⟨0, 0, ⟨#[]⟩, 0⟩ 29
  go_enter Tryz.func147, Tryz.ntmps147
  go_wp2_with (first
    | (go_at_call 138; refine (readByte_any b sa cap bs (4 :: t) _ (hR.grow (gal (gre _) _))).mono ?_; rintro e w1 h1; obtain ⟨rfl, hR1, hK1⟩ := RPost.ok h1; have hF1 := hF0.kept hK1 (by omega); obtain ⟨az, a0, a1, a2, a3, af⟩ := id hF1; have hG := Four.new w1 ⟨4, 0, ⟨#[]⟩, 0⟩ 29; have hs1 := hK1.size; simp only [World.size_alloc] at hs1)
    | (go_at_call 146; refine (readCount_any b sa cap bs t 300 _ _ (hR1.grow (gal (gre _) _)) rfl (by omega)).mono ?_; rintro e w2 h2; rw [hq.out] at h2; obtain ⟨rfl, hR2, hK2⟩ := RPost.ok h2; have hF2 := (hF1.alloc (.cells #[.int .i64 4, .int .i64 0, .string ⟨#[]⟩, .int .i64 0] 29)).kept hK2 (by omega); obtain ⟨bz, b0, b1, b2, b3, bf⟩ := id hF2; have hG2 := hG.kept hK2 (by omega); obtain ⟨gz, g0, g1, g2, g3, gf⟩ := id hG2; have hs2 := hK2.size; simp only [World.size_alloc] at hs2))
  have hKX := kk ((kk ((Kept.refl _ w).alloc _) hK1).alloc (.cells #[.int .i64 4, .int .i64 0, .string ⟨#[]⟩, .int .i64 0] 29)) hK2
  have hRX := (hR2).kept ((Kept.refl (fun k => k = w1.heap.size) w2).set (a := ⟨w1.heap.size, 3, none⟩) (fun _ => rfl) (.int .i64 (n : Int))) (fun k hk e => by omega)
  obtain ⟨hKF, hRF⟩ := fin4 hlt (hKX.set (a := ⟨w1.heap.size, 3, none⟩) (fun h => absurd h (by show ¬ w1.heap.size < _; omega)) (.int .i64 (n : Int))) hRX (.int .i64 4) (.int .i64 0) (.string ⟨#[]⟩) (.int .i64 (n : Int))
  refine bodyPost_ret (v := (GV.mk 4 0 ⟨#[]⟩ (n : Int)).val) (by simp [results, Tryz.results147, go_sem, b0, b1, b2, b3]) rfl ?_
  exact ⟨hKF, Or.inl ⟨⟨4, 0, ⟨#[]⟩, (n : Int)⟩, q, by show rdVal (4 :: t) = _; simp [rdVal, hq.out], rfl, hRF⟩⟩

end Go.Proofs.YtmdpmdmilgbfiaaGreatDoor

/-
  RDV3: the program's reader: values. Own work.
-/
namespace Go.Proofs.YtmdpmdmilgbfiaaGreatDoor
open Go.RowKit

set_option maxHeartbeats 1000000 in
set_option maxRecDepth 100000 in
theorem readVal_node_no (b : Nat) (sa : Option Addr) (cap : Nat) (bs t : List Nat)  (w : World) (hR : Rd w b sa cap bs (4 :: t)) (hq : Hid (rdCount 300 t = none)) :
    Calls Tryz.prog 147 #[.pointer (some ⟨b, 0, none⟩)] w (RVPost b sa cap bs (4 :: t) w) := by
  have hlt := hR.lt
  have hF0 := Four.new w ⟨0, 0, ⟨#[]⟩, 0⟩ 29
  go_enter Tryz.func147, Tryz.ntmps147
  go_wp2_with (first
    | (go_at_call 138; refine (readByte_any b sa cap bs (4 :: t) _ (hR.grow (gal (gre _) _))).mono ?_; rintro e w1 h1; obtain ⟨rfl, hR1, hK1⟩ := RPost.ok h1; have hF1 := hF0.kept hK1 (by omega); obtain ⟨az, a0, a1, a2, a3, af⟩ := id hF1; have hG := Four.new w1 ⟨4, 0, ⟨#[]⟩, 0⟩ 29; have hs1 := hK1.size; simp only [World.size_alloc] at hs1)
    | (go_at_call 146; refine (readCount_any b sa cap bs t 300 _ _ (hR1.grow (gal (gre _) _)) rfl (by omega)).mono ?_; rintro e w2 h2; rw [hq.out] at h2; obtain ⟨rfl, hK2⟩ := RPost.no h2))
  exact ⟨rfl, kk ((kk ((Kept.refl _ w).alloc _) hK1).alloc (.cells #[.int .i64 4, .int .i64 0, .string ⟨#[]⟩, .int .i64 0] 29)) hK2, Or.inr ⟨by show rdVal (4 :: t) = _; simp [rdVal, hq.out], rfl⟩⟩

set_option maxHeartbeats 1000000 in
set_option maxRecDepth 100000 in
theorem readVal_text (b : Nat) (sa : Option Addr) (cap : Nat) (bs t : List Nat) (n : Nat) (q : List Nat) (s : ByteArray) (q2 : List Nat) (w : World) (hR : Rd w b sa cap bs (3 :: t)) (hq : Hid (rdCount 1000 t = some (n, q))) (hn : n ≤ 1048576) (hq2 : Hid (rdText n q = some (s, q2))) :
    Calls Tryz.prog 147 #[.pointer (some ⟨b, 0, none⟩)] w (RVPost b sa cap bs (3 :: t) w) := by
  have hlt := hR.lt
  have hF0 := Four.new w ⟨0, 0, ⟨#[]⟩, 0⟩ 29
  go_enter Tryz.func147, Tryz.ntmps147
  go_wp2_with (first
    | (go_at_call 138; refine (readByte_any b sa cap bs (3 :: t) _ (hR.grow (gal (gre _) _))).mono ?_; rintro e w1 h1; obtain ⟨rfl, hR1, hK1⟩ := RPost.ok h1; have hF1 := hF0.kept hK1 (by omega); obtain ⟨az, a0, a1, a2, a3, af⟩ := id hF1; have hG := Four.new w1 ⟨3, 0, ⟨#[]⟩, 0⟩ 29; have hs1 := hK1.size; simp only [World.size_alloc] at hs1)
    | (go_at_call 146; refine (readCount_any b sa cap bs t 1000 _ _ (hR1.grow (gal (gre _) _)) rfl (by omega)).mono ?_; rintro e w2 h2; rw [hq.out] at h2; obtain ⟨rfl, hR2, hK2⟩ := RPost.ok h2; have hF2 := (hF1.alloc (.cells #[.int .i64 3, .int .i64 0, .string ⟨#[]⟩, .int .i64 0] 29)).kept hK2 (by omega); obtain ⟨bz, b0, b1, b2, b3, bf⟩ := id hF2; have hG2 := hG.kept hK2 (by omega); obtain ⟨gz, g0, g1, g2, g3, gf⟩ := id hG2; have hs2 := hK2.size; simp only [World.size_alloc] at hs2)
    | (go_at_call 145; refine (readText_any b sa cap bs q n _ _ hR2 rfl hn).mono ?_; rintro e w3 h3; rw [hq2.out] at h3; obtain ⟨rfl, hR3, hK3⟩ := RPost.ok h3; obtain ⟨iz, i0, i1, i2, i3, if_⟩ := hG2.kept hK3 (by omega); obtain ⟨cz, c0, c1, c2, c3, cf⟩ := hF2.kept hK3 (by omega); have hs3 := hK3.size))
  have hKX := kk (kk ((kk ((Kept.refl _ w).alloc _) hK1).alloc (.cells #[.int .i64 3, .int .i64 0, .string ⟨#[]⟩, .int .i64 0] 29)) hK2) hK3
  have hRX := (hR3).kept ((Kept.refl (fun k => k = w1.heap.size) w3).set (a := ⟨w1.heap.size, 2, none⟩) (fun _ => rfl) (.string s)) (fun k hk e => by omega)
  obtain ⟨hKF, hRF⟩ := fin4 hlt (hKX.set (a := ⟨w1.heap.size, 2, none⟩) (fun h => absurd h (by show ¬ w1.heap.size < _; omega)) (.string s)) hRX (.int .i64 3) (.int .i64 0) (.string s) (.int .i64 0)
  refine bodyPost_ret (v := (GV.mk 3 0 s 0).val) (by simp [results, Tryz.results147, go_sem, c0, c1, c2, c3]) rfl ?_
  exact ⟨hKF, Or.inl ⟨⟨3, 0, s, 0⟩, q2, by show rdVal (3 :: t) = _; simp [rdVal, hq.out, hq2.out], rfl, hRF⟩⟩

set_option maxHeartbeats 1000000 in
set_option maxRecDepth 100000 in
theorem readVal_text_no (b : Nat) (sa : Option Addr) (cap : Nat) (bs t : List Nat)  (w : World) (hR : Rd w b sa cap bs (3 :: t)) (hq : Hid (rdCount 1000 t = none)) :
    Calls Tryz.prog 147 #[.pointer (some ⟨b, 0, none⟩)] w (RVPost b sa cap bs (3 :: t) w) := by
  have hlt := hR.lt
  have hF0 := Four.new w ⟨0, 0, ⟨#[]⟩, 0⟩ 29
  go_enter Tryz.func147, Tryz.ntmps147
  go_wp2_with (first
    | (go_at_call 138; refine (readByte_any b sa cap bs (3 :: t) _ (hR.grow (gal (gre _) _))).mono ?_; rintro e w1 h1; obtain ⟨rfl, hR1, hK1⟩ := RPost.ok h1; have hF1 := hF0.kept hK1 (by omega); obtain ⟨az, a0, a1, a2, a3, af⟩ := id hF1; have hG := Four.new w1 ⟨3, 0, ⟨#[]⟩, 0⟩ 29; have hs1 := hK1.size; simp only [World.size_alloc] at hs1)
    | (go_at_call 146; refine (readCount_any b sa cap bs t 1000 _ _ (hR1.grow (gal (gre _) _)) rfl (by omega)).mono ?_; rintro e w2 h2; rw [hq.out] at h2; obtain ⟨rfl, hK2⟩ := RPost.no h2))
  exact ⟨rfl, kk ((kk ((Kept.refl _ w).alloc _) hK1).alloc (.cells #[.int .i64 3, .int .i64 0, .string ⟨#[]⟩, .int .i64 0] 29)) hK2, Or.inr ⟨by show rdVal (3 :: t) = _; simp [rdVal, hq.out], rfl⟩⟩

end Go.Proofs.YtmdpmdmilgbfiaaGreatDoor

/-
  RDV4: the program's reader: values. Own work.
-/
namespace Go.Proofs.YtmdpmdmilgbfiaaGreatDoor
open Go.RowKit

set_option maxHeartbeats 1000000 in
set_option maxRecDepth 100000 in
theorem readVal_text_no2 (b : Nat) (sa : Option Addr) (cap : Nat) (bs t : List Nat) (n : Nat) (q : List Nat) (w : World) (hR : Rd w b sa cap bs (3 :: t)) (hq : Hid (rdCount 1000 t = some (n, q))) (hn : n ≤ 1048576) (hq2 : Hid (rdText n q = none)) :
    Calls Tryz.prog 147 #[.pointer (some ⟨b, 0, none⟩)] w (RVPost b sa cap bs (3 :: t) w) := by
  have hlt := hR.lt
  have hF0 := Four.new w ⟨0, 0, ⟨#[]⟩, 0⟩ 29
  go_enter Tryz.func147, Tryz.ntmps147
  go_wp2_with (first
    | (go_at_call 138; refine (readByte_any b sa cap bs (3 :: t) _ (hR.grow (gal (gre _) _))).mono ?_; rintro e w1 h1; obtain ⟨rfl, hR1, hK1⟩ := RPost.ok h1; have hF1 := hF0.kept hK1 (by omega); obtain ⟨az, a0, a1, a2, a3, af⟩ := id hF1; have hG := Four.new w1 ⟨3, 0, ⟨#[]⟩, 0⟩ 29; have hs1 := hK1.size; simp only [World.size_alloc] at hs1)
    | (go_at_call 146; refine (readCount_any b sa cap bs t 1000 _ _ (hR1.grow (gal (gre _) _)) rfl (by omega)).mono ?_; rintro e w2 h2; rw [hq.out] at h2; obtain ⟨rfl, hR2, hK2⟩ := RPost.ok h2; have hF2 := (hF1.alloc (.cells #[.int .i64 3, .int .i64 0, .string ⟨#[]⟩, .int .i64 0] 29)).kept hK2 (by omega); obtain ⟨bz, b0, b1, b2, b3, bf⟩ := id hF2; have hG2 := hG.kept hK2 (by omega); obtain ⟨gz, g0, g1, g2, g3, gf⟩ := id hG2; have hs2 := hK2.size; simp only [World.size_alloc] at hs2)
    | (go_at_call 145; refine (readText_any b sa cap bs q n _ _ hR2 rfl hn).mono ?_; rintro e w3 h3; rw [hq2.out] at h3; obtain ⟨rfl, hK3⟩ := RPost.no h3))
  exact ⟨rfl, kk (kk ((kk ((Kept.refl _ w).alloc _) hK1).alloc (.cells #[.int .i64 3, .int .i64 0, .string ⟨#[]⟩, .int .i64 0] 29)) hK2) hK3, Or.inr ⟨by show rdVal (3 :: t) = _; simp [rdVal, hq.out, hq2.out], rfl⟩⟩

set_option maxHeartbeats 1000000 in
set_option maxRecDepth 100000 in
theorem readVal_other (b : Nat) (sa : Option Addr) (cap : Nat) (bs t : List Nat) (x : Nat) (w : World) (hR : Rd w b sa cap bs (x :: t)) (hx : 4 < x) :
    Calls Tryz.prog 147 #[.pointer (some ⟨b, 0, none⟩)] w (RVPost b sa cap bs (x :: t) w) := by
  have hlt := hR.lt
  have hx256 : x < 256 := (hR.head (x := x) (r' := t) rfl).1
  have hF0 := Four.new w ⟨0, 0, ⟨#[]⟩, 0⟩ 29
  have n0 : ((x : Int) == 0) = false := by simp; omega
  have n1 : ((x : Int) == 1) = false := by simp; omega
  have n2 : ((x : Int) == 2) = false := by simp; omega
  have n3 : ((x : Int) == 3) = false := by simp; omega
  have n4 : ((x : Int) == 4) = false := by simp; omega
  go_enter Tryz.func147, Tryz.ntmps147
  go_wp2_with (go_at_call 138; refine (readByte_any b sa cap bs (x :: t) _ (hR.grow (gal (gre _) _))).mono ?_; rintro e w1 h1; obtain ⟨rfl, hR1, hK1⟩ := RPost.ok h1)
  exact ⟨rfl, (kk ((Kept.refl _ w).alloc _) hK1).alloc _, Or.inr ⟨by show rdVal (x :: t) = _; unfold rdVal; dsimp only; rw [if_neg (by omega), if_neg (by omega), if_neg (by omega), if_neg (by omega), if_neg (by omega)], rfl⟩⟩

set_option maxRecDepth 100000 in
theorem readVal_none (b : Nat) (sa : Option Addr) (cap : Nat) (bs : List Nat) (w : World) (hR : Rd w b sa cap bs []) :
    Calls Tryz.prog 147 #[.pointer (some ⟨b, 0, none⟩)] w (RVPost b sa cap bs [] w) := by
  go_enter Tryz.func147, Tryz.ntmps147
  go_wp2_with (go_at_call 138; refine (readByte_any b sa cap bs [] _ (hR.grow (gal (gre _) _))).mono ?_; rintro e w1 h1; obtain ⟨rfl, hK1⟩ := RPost.no h1)
  exact ⟨rfl, kk ((Kept.refl _ w).alloc _) hK1, Or.inr ⟨rfl, rfl⟩⟩

end Go.Proofs.YtmdpmdmilgbfiaaGreatDoor

/-
  RDV: the program's reader: any value. Own work.
-/
namespace Go.Proofs.YtmdpmdmilgbfiaaGreatDoor
open Go.RowKit

theorem readVal_any (b : Nat) (sa : Option Addr) (cap : Nat) (bs r : List Nat) (w : World) (hR : Rd w b sa cap bs r) :
    Calls Tryz.prog 147 #[.pointer (some ⟨b, 0, none⟩)] w (RVPost b sa cap bs r w) := by
  cases r with
  | nil => exact readVal_none b sa cap bs w hR
  | cons x t =>
    by_cases h0 : x = 0
    · subst h0; exact readVal_nil b sa cap bs t w hR
    by_cases h1 : x = 1
    · subst h1
      cases hq : rdNum 0 0 t with
      | none => exact readVal_num_no b sa cap bs t w hR hq
      | some y => exact readVal_num b sa cap bs t y.1 y.2 w hR hq
    by_cases h2 : x = 2
    · subst h2
      cases hq : rdLow 8 0 0 t with
      | none => exact readVal_bits_no b sa cap bs t w hR hq
      | some y => exact readVal_bits b sa cap bs t y.1 y.2 w hR hq
    by_cases h3 : x = 3
    · subst h3
      cases hq : rdCount 1000 t with
      | none => exact readVal_text_no b sa cap bs t w hR hq
      | some y =>
        have hn : y.1 ≤ 1048576 := by have := rdCount_le (n := y.1) (q := y.2) hq; omega
        cases hq2 : rdText y.1 y.2 with
        | none => exact readVal_text_no2 b sa cap bs t y.1 y.2 w hR hq hn hq2
        | some z => exact readVal_text b sa cap bs t y.1 y.2 z.1 z.2 w hR hq hn hq2
    by_cases h4 : x = 4
    · subst h4
      cases hq : rdCount 300 t with
      | none => exact readVal_node_no b sa cap bs t w hR hq
      | some y => exact readVal_node b sa cap bs t y.1 y.2 w hR hq
    exact readVal_other b sa cap bs t x w hR (by omega)

end Go.Proofs.YtmdpmdmilgbfiaaGreatDoor

/-
  RDN: the program's reader: nodes. Own work.
-/
namespace Go.Proofs.YtmdpmdmilgbfiaaGreatDoor
open Go.RowKit

/-- what stands at the head of the round -/
structure NState (w : World) (b : Nat) (sa : Option Addr) (cap : Nat) (bs : List Nat) (tag : Int) (X : Nat) (ws : World) (q : List Nat) (va : Option Addr) (vc : Nat) (vs : List GV) : Prop where
  kept : Kept (fun k => k = b) w ws
  blk : b < w.heap.size ∧ w.heap.size < X ∧ X < ws.heap.size
  res : Two ws w.heap.size 0 (.slice none 0 0)
  x : Two ws X tag (.slice va vs.length vc)
  rd : Rd ws b sa cap bs q
  vals : ws.ownsRow (X + 1) 29 4 (.slice va vs.length vc) vs.length (valCells vs)

theorem NState.step {w : World} {b : Nat} {sa : Option Addr} {cap : Nat} {bs : List Nat} {tag : Int} {X : Nat} {ws : World} {q : List Nat} {va : Option Addr} {vc : Nat} {vs : List GV} (h : NState w b sa cap bs tag X ws q va vc vs) {v : GV} {w1 w3 : World} {q1 : List Nat} {gg cc : Nat} {o : Obj}
    (hR1 : Rd w1 b sa cap bs q1) (hK1 : Kept (fun k => k = b) ws w1)
    (hown : w3.ownsRow (X + 1) 29 4 (.slice (some ⟨gg, 0, none⟩) (vs.length + 1) cc) (vs.length + 1) (valCells vs ++ v.four))
    (hgrow : (w1.alloc o).grownBy w3 (Value.slice va vs.length vc).ownBlock) :
    NState w b sa cap bs tag X (w3.setCell ⟨X, 1, none⟩ (.slice (some ⟨gg, 0, none⟩) (vs.length + 1) cc)) q1 (some ⟨gg, 0, none⟩) cc (vs ++ [v]) := by
  obtain ⟨b1, b2, b3⟩ := h.blk
  have hs1 := hK1.size
  have hA : Kept (fun _ => False) w1 (w1.alloc o) := (Kept.refl _ w1).alloc _
  have hG := Kept.of_grown hgrow
  have hs3 : w1.heap.size + 1 ≤ w3.heap.size := by have := hgrow.size; simpa using this
  have hC := (Kept.refl (fun k => k = X) w3).set (a := ⟨X, 1, none⟩) (fun _ => rfl) (.slice (some ⟨gg, 0, none⟩) (vs.length + 1) cc)
  have hvb : ∀ k, (Value.slice va vs.length vc).ownBlock = some k → X + 1 ≤ k ∧ k < ws.heap.size := fun k hk => h.vals.lt k hk
  have hsz := h.kept.size
  exact {
    kept := (((h.kept.trans hK1 (fun _ _ e => e)).trans hA (fun _ _ e => e.elim)).trans hG (fun k hk hp => by have := hvb k hp; omega)).trans hC (fun k hk hp => by omega)
    blk := ⟨b1, b2, by have := hC.size; omega⟩
    res := (((h.res.kept hK1 (by omega)).kept hA (fun e => e)).kept hG (fun hp => by have := hvb _ hp; omega)).kept hC (by omega)
    x := by
      have h1 := ((h.x.kept hK1 (by omega)).kept hA (fun e => e)).kept hG (fun hp => by have := hvb _ hp; omega)
      simpa using h1.set (s' := .slice (some ⟨gg, 0, none⟩) (vs.length + 1) cc)
    rd := ((hR1.kept hA (fun _ _ e => e)).kept hG (fun k hk hp => by have := hvb k hp; omega)).kept hC (fun k hk hp => by omega)
    vals := by
      have h1 := hC.owns hown (fun k hk hp => by have := (hown.lt k hk).1; omega)
      simpa [valCells_snoc, GV.four] using h1 }

/-- so many values of m have been read -/
def RvInv (m : Nat) (r : List Nat) (j : Nat) (vs : List GV) (q : List Nat) : Prop := rdVals m r = (rdVals (m - j) q).map fun y => (vs ++ y.1, y.2)
theorem RvInv.start (m : Nat) (r : List Nat) : RvInv m r 0 [] r := by
  unfold RvInv
  rw [Nat.sub_zero]
  cases rdVals m r <;> simp
theorem RvInv.next {m j : Nat} {r q q1 : List Nat} {vs : List GV} {v : GV} (h : RvInv m r j vs q) (hj : j < m) (hv : rdVal q = some (v, q1)) : RvInv m r (j + 1) (vs ++ [v]) q1 := by
  unfold RvInv at h ⊢
  rw [h, show m - j = (m - (j + 1)) + 1 by omega, rdVals, hv]
  simp only [Option.bind_some, Option.map_map]
  congr 1
  funext y
  simp
theorem RvInv.none' {m j : Nat} {r q : List Nat} {vs : List GV} (h : RvInv m r j vs q) (hj : j < m) (hv : rdVal q = none) : rdVals m r = none := by
  unfold RvInv at h
  rw [h, show m - j = (m - (j + 1)) + 1 by omega, rdVals, hv]
  rfl
theorem RvInv.done {m : Nat} {r q : List Nat} {vs : List GV} (h : RvInv m r m vs q) : rdVals m r = some (vs, q) := by
  unfold RvInv at h
  rw [h, Nat.sub_self]
  simp [rdVals]

/-- what reading a node leaves -/
def NRPost (b : Nat) (sa : Option Addr) (cap : Nat) (bs r : List Nat) (w : World) (e : Ending) (w' : World) : Prop :=
  Kept (fun k => k = b) w w' ∧ ((∃ n q va vc, Hid (rdNode r = some (n, q)) ∧ e = .returned (nodeVal n va vc) ∧ w'.ownsRow w.heap.size 29 4 (.slice va n.vals.length vc) n.vals.length (valCells n.vals) ∧ Rd w' b sa cap bs q) ∨ (Hid (rdNode r = none) ∧ e = .panicked [haltP]))

set_option maxHeartbeats 1000000 in
set_option maxRecDepth 100000 in
theorem readNode_any (b : Nat) (sa : Option Addr) (cap : Nat) (bs r : List Nat) (w : World) (hR : Rd w b sa cap bs r) :
    Calls Tryz.prog 148 #[.pointer (some ⟨b, 0, none⟩)] w (NRPost b sa cap bs r w) := by
  obtain ⟨j0, hj, hy0, hy1, hy2⟩ := info_parts info_implVal
  have hlt := hR.lt
  have hT0 := Two.new_at w 0 (.slice none 0 0) 37 w.heap.size rfl
  cases ht : rdCount 1000 r with
  | none =>
    have ht' : Hid _ := ht
    go_enter Tryz.func148, Tryz.ntmps148
    go_wp2_with (go_at_call 146; refine (readCount_any b sa cap bs r 1000 _ _ (hR.grow (gal (gre _) _)) rfl (by omega)).mono ?_; rintro e w1 h1; rw [ht'.out] at h1; obtain ⟨rfl, hK1⟩ := RPost.no h1)
    exact ⟨rfl, kk ((Kept.refl _ w).alloc _) hK1, Or.inr ⟨by show rdNode r = none; unfold rdNode; rw [ht]; rfl, rfl⟩⟩
  | some y =>
    obtain ⟨tg, r1⟩ := y
    have ht' : Hid _ := ht
    cases hm : rdCount 100 r1 with
    | none =>
      have hm' : Hid _ := hm
      go_enter Tryz.func148, Tryz.ntmps148
      go_wp2_with (first
        | (go_at_call 146; refine (readCount_any b sa cap bs r1 100 _ _ (hR1.grow (gal (gre _) _)) rfl (by omega)).mono ?_; rintro e w2 h2; rw [hm'.out] at h2; obtain ⟨rfl, hK2⟩ := RPost.no h2)
        | (go_at_call 146; refine (readCount_any b sa cap bs r 1000 _ _ (hR.grow (gal (gre _) _)) rfl (by omega)).mono ?_; rintro e w1 h1; rw [ht'.out] at h1; obtain ⟨rfl, hR1, hK1⟩ := RPost.ok h1))
      exact ⟨rfl, kk ((kk ((Kept.refl _ w).alloc _) hK1).alloc _) hK2, Or.inr ⟨by show rdNode r = none; unfold rdNode; rw [ht]; simp [hm], rfl⟩⟩
    | some y =>
      obtain ⟨m, r2⟩ := y
      have hm' : Hid _ := hm
      have hml := rdCount_le hm
      have hnode : Hid (rdNode r = (rdVals m r2).map fun y => (⟨(tg : Int), y.1⟩, y.2)) := by show rdNode r = _; unfold rdNode; rw [ht]; simp [hm]
      go_enter Tryz.func148, Tryz.ntmps148
      go_wp2_with (first
        | (go_at_call 146; refine (readCount_any b sa cap bs r1 100 _ _ (hR1.grow (gal (gre _) _)) rfl (by omega)).mono ?_; rintro e w2 h2; rw [hm'.out] at h2; obtain ⟨rfl, hR2, hK2⟩ := RPost.ok h2)
        | (go_at_call 146; refine (readCount_any b sa cap bs r 1000 _ _ (hR.grow (gal (gre _) _)) rfl (by omega)).mono ?_; rintro e w1 h1; rw [ht'.out] at h1; obtain ⟨rfl, hR1, hK1⟩ := RPost.ok h1))
      have hs1 : w.heap.size + 1 ≤ w1.heap.size := by have := hK1.size; simpa using this
      have hs2 : w1.heap.size + 1 ≤ w2.heap.size := by have := hK2.size; simpa using this
      have hD0 : NState w b sa cap bs (tg : Int) w1.heap.size w2 r2 none 0 [] :=
        ⟨kk ((kk ((Kept.refl _ w).alloc _) hK1).alloc _) hK2, ⟨hlt, by omega, by omega⟩, ((hT0.kept hK1 (by omega)).kept ((Kept.refl (fun _ => False) w1).alloc _) (fun e => e)).kept hK2 (by omega), (Two.new_at w1 tg (.slice none 0 0) 37 w1.heap.size rfl).kept hK2 (by omega), hR2, World.ownsRow_nil _ _ _ _⟩
      generalize w1.heap.size = X at hD0 ⊢
      clear hK1 hK2 hs1 hs2 hR1 hR2 hT0
      go_loopw [9] (fun i ws => ∃ (j : Nat) (q : List Nat) (va : Option Addr) (vc : Nat) (vs : List GV), i = .int .i64 j ∧ j ≤ m ∧ Hid (vs.length = j) ∧ Hid (RvInv m r2 j vs q) ∧ NState w b sa cap bs (tg : Int) X ws q va vc vs) (fun i _ => m - (intOf i).toNat)
      case atStart => exact ⟨0, r2, none, 0, [], rfl, Nat.zero_le _, rfl, RvInv.start m r2, hD0⟩
      case round =>
        obtain ⟨j, q, va, vc, vs, rfl, hjm, hvl, hinv, hD⟩ := hrel
        obtain ⟨k1, k2, k3⟩ := hD.blk
        by_cases hjl : j < m
        · have hd : (j : Int) < (m : Int) := by omega
          obtain ⟨xz, x0, x1, xf, _⟩ := hD.x
          go_wp2
          refine wp_regionU (fun u => u.cell? ⟨X, 1, none⟩ = some (.slice va vs.length vc)) 7 (by kernel_rfl) x1 (fun hS0 => ?_)
          refine anyU_take (i := 0) (v := ?_) rfl (by kernel_rfl) (by kernel_rfl) (by kernel_rfl) (by kernel_rfl) (fun _ _ _ h => h) (Or.inl ⟨by rfl, ?_⟩) hS0 ?_
          rotate_left
          · intro u hSu; (try dsimp only at hSu); go_simp <;> with_reducible rfl
          simp only [Act.put, List.getElem_toArray, List.getElem_cons_zero, List.setIfInBounds_toArray, List.set_cons_zero, List.set_cons_succ]
          refine anyU_take (i := 1) (v := ?_) rfl (by kernel_rfl) (by kernel_rfl) (by kernel_rfl) (by kernel_rfl) (fun _ _ _ h => h) (Or.inl ⟨by rfl, ?_⟩) hS0 ?_
          rotate_left
          · intro u hSu; (try dsimp only at hSu); go_simp <;> with_reducible rfl
          simp only [Act.put, List.getElem_toArray, List.getElem_cons_zero, List.getElem_cons_succ, List.setIfInBounds_toArray, List.set_cons_zero, List.set_cons_succ]
          refine anyU_take (i := 2) (v := ?_) rfl (by kernel_rfl) (by kernel_rfl) (by kernel_rfl) (by kernel_rfl) (fun _ _ _ h => h) (Or.inl ⟨by rfl, ?_⟩) hS0 ?_
          rotate_left
          · intro u hSu; (try dsimp only at hSu); go_simp <;> with_reducible rfl
          simp only [Act.put, List.getElem_toArray, List.getElem_cons_zero, List.getElem_cons_succ, List.setIfInBounds_toArray, List.set_cons_zero, List.set_cons_succ]
          refine anyU_one (i := 3) (by kernel_rfl) rfl (fun K hK => ?_)
          go_simp
          refine (readVal_any b sa cap bs q _ (hD.rd.grow (gdr (gre _)))).mono ?_
          rintro e w1 ⟨hK1, ⟨v, q1, hv, rfl, hR1⟩ | ⟨hno, rfl⟩⟩
          · have hKw : Kept (fun k => k = b) wr w1 := kk ((Kept.refl (fun k => k = b) wr).drew) hK1
            have hS1 := hKw.cell x1 (by omega)
            have hX1 : Two w1 X tg (.slice va vs.length vc) := hD.x.kept hKw (by omega)
            have hv1 : Hid _ := hKw.owns hD.vals (fun k hk hp => by have := (hD.vals.lt k hk).1; omega)
            have hsw := hKw.size
            refine hK.out _ _ hS1 ?_
            clear hK
            have hS2' : Hid ((w1.alloc (.cells #[.int .i64 v.kind, .int .i64 v.num, .string v.text, .int .i64 v.node] 29)).cell? ⟨X, 1, none⟩ = some (.slice va vs.length vc)) := ((Kept.refl (fun _ => False) w1).alloc _).cell hS1 (fun e => e)
            refine anyU_one (i := 4) (by kernel_rfl) rfl (fun K hK => ?_)
            go_simp
            refine hK.out _ _ hS2'.out ?_
            clear hK
            refine anyU_one (i := 5) (by kernel_rfl) rfl (fun K hK => ?_)
            refine step_append_lies _ (by rfl) (.tmp 12) (.tmp 15) 35 rfl (X + 1) 29 j0 _ 4 40 Tryz.underlying35 hj hy0 hy1 hy2 rfl (by decide) (.slice va vs.length vc) vs.length (valCells vs) (by rfl) (World.ownsRow.alloc hv1.out _) ⟨w1.heap.size, 0, none⟩ 1 1 v.four (by rfl) rfl (World.news_of_block (cs := #[.int .i64 v.kind, .int .i64 v.num, .string v.text, .int .i64 v.node]) (t := 29) (fr := (0, 0)) (blk_new_at _ _ _ rfl)) (by simp [GV.four, Value.oneCell']) (by decide) (by have h7 := hvl.out; unfold maxLen; omega) (by have h7 := hvl.out; omega) (by simp; omega) (w1.heap.size + 1) (by simp) ?_
            intro gg cc w3 hown3 hgrow3 hat3 hlt3
            have hX3 := (hX1.kept ((Kept.refl (fun _ => False) w1).alloc _) (fun e => e)).kept (Kept.of_grown hgrow3) (fun hp => by have := (hD.vals.lt _ hp).1; omega)
            obtain ⟨yz, y0, y1, yf, _⟩ := id hX3
            refine hK.out _ _ y1 ?_
            clear hK
            simp only [Act.put, List.getElem_toArray, List.getElem_cons_zero, List.getElem_cons_succ, List.setIfInBounds_toArray, List.set_cons_zero, List.set_cons_succ]
            refine anyU_one (i := 6) (by kernel_rfl) rfl (fun K hK => ?_)
            go_simp
            refine hK.out _ _ y1 ?_
            clear hK
            refine anyU_last (by kernel_rfl) rfl (by kernel_rfl) (fun K hK => ?_)
            go_simp
            refine hK.out _ _ ?_
            clear hK
            have hfin := hD.step hR1 hKw hown3 hgrow3
            have hinv2 : Hid (RvInv m r2 (j + 1) (vs ++ [v]) q1) := hinv.out.next hjl hv.out
            go_wp2
            go_roundw
            case rel => exact ⟨j + 1, q1, some ⟨gg, 0, none⟩, cc, vs ++ [v], by go_num, by omega, by have := hvl.out; show (vs ++ [v]).length = j + 1; simp [this], hinv2, hfin⟩
            case measure => simp [intOf]; omega
          · refine ⟨rfl, kk hD.kept (kk ((Kept.refl (fun k => k = b) wr).drew) hK1), Or.inr ⟨?_, rfl⟩⟩
            show rdNode r = none
            rw [hnode.out, hinv.out.none' hjl hno.out]; rfl
        · obtain rfl : j = m := by omega
          have hd : ¬ ((j : Int) < (j : Int)) := by omega
          have hdone : Hid (rdNode r = some (⟨(tg : Int), vs⟩, q)) := by show rdNode r = _; rw [hnode.out, hinv.out.done]; rfl
          obtain ⟨xz, x0, x1, xf, _⟩ := hD.x
          obtain ⟨rz, r0, r1', rf, _⟩ := hD.res
          have hC : Kept (fun k => k = w.heap.size) wr ((wr.setCell ⟨w.heap.size, 0, none⟩ (.int .i64 (tg : Int))).setCell ⟨w.heap.size, 1, none⟩ (.slice va vs.length vc)) := ((Kept.refl (fun k => k = w.heap.size) wr).set (fun _ => rfl) _).set (fun _ => rfl) _
          have hkept := hD.kept.trans hC (fun k hk hp => by omega)
          have hvals := hC.owns (owns_le hD.vals (show w.heap.size ≤ X + 1 by omega)) (fun k hk hp => by have := (hD.vals.lt k hk).1; omega)
          have hrd := hD.rd.kept hC (fun k hk hp => by omega)
          go_wp2
          refine bodyPost_ret (v := .agg #[.int .i64 (tg : Int), .slice va vs.length vc]) (by simp [results, Tryz.results148, go_sem, r0, r1']) rfl ⟨hkept, Or.inl ⟨⟨(tg : Int), vs⟩, q, va, vc, hdone, rfl, hvals, hrd⟩⟩

end Go.Proofs.YtmdpmdmilgbfiaaGreatDoor
