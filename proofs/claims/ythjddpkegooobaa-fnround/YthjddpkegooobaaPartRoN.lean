import Derived.Test.YthjddpkegooobaaPartRoM

/-
  SVAL: the specification's reader: values. Own work.
-/
namespace Go.Proofs.Ythjddpkegooobaa
open Go.RowKit

def sVal : List Nat → Option (GV × List Nat)
  | [] => none
  | k :: r =>
    if k = 1 then (sNum 10 0 0 r).map fun x => (⟨1, zag x.1, ⟨#[]⟩, 0⟩, x.2)
    else if k = 2 then (sLow 8 0 0 r).map fun x => (⟨2, wrap64 (x.1 : Int), ⟨#[]⟩, 0⟩, x.2)
    else if k = 3 then (sSmall r).bind fun x => if x.1 ≤ x.2.length then some (⟨3, 0, strB (x.2.take x.1), 0⟩, x.2.drop x.1) else none
    else if k = 4 then (sSmall r).map fun x => (⟨4, 0, ⟨#[]⟩, (x.1 : Int)⟩, x.2)
    else some (⟨(k : Int), 0, ⟨#[]⟩, 0⟩, r)

theorem kcases (k : Nat) : k = 1 ∨ k = 2 ∨ k = 3 ∨ k = 4 ∨ (((k : Int) == 1) = false ∧ ((k : Int) == 2) = false ∧ ((k : Int) == 3) = false ∧ ((k : Int) == 4) = false) := by
  by_cases h1 : k = 1
  · exact Or.inl h1
  by_cases h2 : k = 2
  · exact Or.inr (Or.inl h2)
  by_cases h3 : k = 3
  · exact Or.inr (Or.inr (Or.inl h3))
  by_cases h4 : k = 4
  · exact Or.inr (Or.inr (Or.inr (Or.inl h4)))
  · exact Or.inr (Or.inr (Or.inr (Or.inr ⟨by simp; omega, by simp; omega, by simp; omega, by simp; omega⟩)))

theorem sfin4 {w wX : World} {b : Nat} {sa : Option Addr} {cap : Nat} {bs : List Nat} {at_ : Nat} {bad : Bool} (hb : b < w.heap.size) (hK : Kept (fun k => k = b) w wX) (hR : SR wX b sa cap bs at_ bad) (u0 u1 u2 u3 : Value) :
    Kept (fun k => k = b) w ((((wX.setCell ⟨w.heap.size, 0, none⟩ u0).setCell ⟨w.heap.size, 1, none⟩ u1).setCell ⟨w.heap.size, 2, none⟩ u2).setCell ⟨w.heap.size, 3, none⟩ u3) ∧ SR ((((wX.setCell ⟨w.heap.size, 0, none⟩ u0).setCell ⟨w.heap.size, 1, none⟩ u1).setCell ⟨w.heap.size, 2, none⟩ u2).setCell ⟨w.heap.size, 3, none⟩ u3) b sa cap bs at_ bad :=
  ⟨(((hK.set (fun h => absurd h (Nat.lt_irrefl _)) _).set (fun h => absurd h (Nat.lt_irrefl _)) _).set (fun h => absurd h (Nat.lt_irrefl _)) _).set (fun h => absurd h (Nat.lt_irrefl _)) _,
    hR.kept (((((Kept.refl (fun k => k = w.heap.size) wX).set (fun _ => rfl) _).set (fun _ => rfl) _).set (fun _ => rfl) _).set (fun _ => rfl) _) (fun k hk e => by omega)⟩
theorem kset {w wX : World} {b : Nat} {sa : Option Addr} {cap : Nat} {bs : List Nat} {at_ : Nat} {bad : Bool} (hb : b < w.heap.size) {X : Nat} (hX : w.heap.size ≤ X) (o : Nat) (u : Value) (h : Kept (fun k => k = b) w wX ∧ SR wX b sa cap bs at_ bad) : Kept (fun k => k = b) w (wX.setCell ⟨X, o, none⟩ u) ∧ SR (wX.setCell ⟨X, o, none⟩ u) b sa cap bs at_ bad :=
  ⟨h.1.set (fun h => absurd h (by show ¬ X < _; omega)) _, h.2.kept ((Kept.refl (fun k => k = X) wX).set (fun _ => rfl) _) (fun k hk e => by omega)⟩
theorem i64_wrap2 (n : Int) : I64 (wrap64 n) := by rw [wrap64_eq]; exact wrap_i64_ok n
theorem kind_ok {k : Nat} (h : k < 256) : (GV.mk (k : Int) 0 ⟨#[]⟩ 0).Ok := ⟨small_i64 (by show 0 ≤ (k : Int) ∧ (k : Int) ≤ 1000000; omega), small_i64 (by show (0 : Int) ≤ 0 ∧ (0 : Int) ≤ 1000000; omega), Nat.zero_le _, small_i64 (by show (0 : Int) ≤ 0 ∧ (0 : Int) ≤ 1000000; omega)⟩
theorem text_ok {t : ByteArray} (h : t.size ≤ 5000) : (GV.mk 3 0 t 0).Ok := ⟨small_i64 (by show (0 : Int) ≤ 3 ∧ (3 : Int) ≤ 1000000; omega), small_i64 (by show (0 : Int) ≤ 0 ∧ (0 : Int) ≤ 1000000; omega), by show t.size ≤ maxLen; unfold maxLen; omega, small_i64 (by show (0 : Int) ≤ 0 ∧ (0 : Int) ≤ 1000000; omega)⟩
theorem ssmall_nil : sSmall [] = none := rfl
theorem sval1 {r : List Nat} {r1 : List Nat} {k : Nat} (h : rdByte r = some (k, r1)) : sVal r = sVal (k :: r1) := by rw [byte_cons h]
theorem sval0 {r : List Nat} (h : rdByte r = none) : sVal r = none := by rw [byte_nil h]; rfl

set_option maxHeartbeats 4000000 in
set_option maxRecDepth 100000 in
theorem sVal_any (b : Nat) (sa : Option Addr) (cap : Nat) (bs : List Nat) (at_ : Nat) (bad : Bool) (w : World) (hR : SR w b sa cap bs at_ bad) :
    Calls Try.prog 71 #[.pointer (some ⟨b, 0, none⟩)] w (SPost (sVal (bs.drop at_)) GV.val (fun v => v.Ok) b sa cap bs at_ bad w) := by
  have hlt := hR.lt
  have hF0 := Four.new w ⟨0, 0, ⟨#[]⟩, 0⟩ 24
  go_enter Try.func71, Try.ntmps71
  go_wp2_with (first
    | (go_at_call 125; refine (sByte_any b sa cap bs at_ bad _ (hR.grow (gal (gre _) _))).mono ?_; rintro e w1 ⟨hK1, k, at1, bad1, rfl, hk, hR1, hat1, hrel⟩; have hF1 := hF0.kept hK1 (by omega); obtain ⟨az, a0, a1, a2, a3, af⟩ := id hF1; have hs1 := hK1.size; simp only [World.size_alloc] at hs1; have hG := Four.new w1 ⟨(k : Int), 0, ⟨#[]⟩, 0⟩ 24; have hF1a := hF1.alloc (.cells #[.int .i64 (k : Int), .int .i64 0, .string ⟨#[]⟩, .int .i64 0] 24); rcases kcases k with rfl | rfl | rfl | rfl | ⟨n1, n2, n3, n4⟩)
    | (go_at_call 124; refine (sNum_any b sa cap bs at1 bad1 _ (hR1.grow (gal (gre _) _))).mono ?_; rintro e w2 ⟨hK2, n, at2, bad2, rfl, hn, hR2, hat2, hrel2⟩; have hG2 := hG.kept hK2 (by omega); have hF2 := hF1a.kept hK2 (by omega); obtain ⟨gz, g0, g1, g2, g3, gf⟩ := id hG2; obtain ⟨bz, b0, b1, b2, b3, bf⟩ := id hF2; have hs2 := hK2.size; simp only [World.size_alloc] at hs2)
    | (go_at_call 126; refine (sEight_any b sa cap bs at1 bad1 _ (hR1.grow (gal (gre _) _))).mono ?_; rintro e w2 ⟨hK2, n, at2, bad2, rfl, hn, hR2, hat2, hrel2⟩; have hG2 := hG.kept hK2 (by omega); have hF2 := hF1a.kept hK2 (by omega); obtain ⟨gz, g0, g1, g2, g3, gf⟩ := id hG2; obtain ⟨bz, b0, b1, b2, b3, bf⟩ := id hF2; have hs2 := hK2.size; simp only [World.size_alloc] at hs2)
    | (go_at_call 70; refine (sSmall_any b sa cap bs at1 bad1 _ (hR1.grow (gal (gre _) _))).mono ?_; rintro e w2 ⟨hK2, n, at2, bad2, rfl, hn, hR2, hat2, hrel2⟩; obtain ⟨z1, z2, z3, z4, z5, z6, z7, z8, z9, z10⟩ := id hR2; have hG2 := hG.kept hK2 (by omega); have hF2 := hF1a.kept hK2 (by omega); obtain ⟨gz, g0, g1, g2, g3, gf⟩ := id hG2; obtain ⟨bz, b0, b1, b2, b3, bf⟩ := id hF2; have hs2 := hK2.size; simp only [World.size_alloc] at hs2)
    | go_quiet (fail))
  · rename_i hodd
    have hodd' : n % 2 = 1 := by first | omega | (simp at hodd; omega)
    have ez : -((n : Int) / 2) - 1 = zag n := by unfold zag; rw [if_pos hodd']; omega
    obtain ⟨hKX, hRX⟩ := kset hlt (show w.heap.size ≤ w1.heap.size by omega) 1 (.int .i64 (-((n : Int) / 2) - 1)) (kset hlt (show w.heap.size ≤ w1.heap.size by omega) 1 (.int .i64 ((n : Int) / 2)) ⟨kk ((kk ((Kept.refl _ w).alloc _) hK1).alloc _) hK2, hR2⟩)
    obtain ⟨hKF, hRF⟩ := sfin4 hlt hKX hRX (.int .i64 1) (.int .i64 (-((n : Int) / 2) - 1)) (.string ⟨#[]⟩) (.int .i64 0)
    have hrl : Hid (SRel (sVal (bs.drop at_)) bad (⟨1, zag n, ⟨#[]⟩, 0⟩ : GV) (bs.drop at2) bad2) := (((SInv.start (sVal (bs.drop at_)) bad).comp (G' := (sNum 10 0 0 (bs.drop at1)).map fun x => (⟨1, zag x.1, ⟨#[]⟩, 0⟩, x.2)) hrel.out (fun h => by rw [sval1 h]; rfl) (fun h => sval0 h)).comp (G' := some (⟨1, zag n, ⟨#[]⟩, 0⟩, bs.drop at2)) hrel2.out (fun h => by rw [h]; rfl) (fun h => by rw [h]; rfl)).rel rfl
    refine bodyPost_ret (v := (GV.mk 1 (-((n : Int) / 2) - 1) ⟨#[]⟩ 0).val) (by simp [results, Try.results71, go_sem, b0, b1, b2, b3]) rfl ?_
    exact ⟨hKF, ⟨1, zag n, ⟨#[]⟩, 0⟩, at2, bad2, by rw [← ez], zero_ok (n := 1) (by omega) _ (zag_i64 hn) _ (Nat.zero_le _) 0 (small_i64 (by omega)), hRF, by omega, hrl⟩
  · rename_i hodd
    have hodd' : ¬ n % 2 = 1 := by first | omega | (simp at hodd; omega)
    have ez : (n : Int) / 2 = zag n := by unfold zag; rw [if_neg hodd']; omega
    obtain ⟨hKX, hRX⟩ := kset hlt (show w.heap.size ≤ w1.heap.size by omega) 1 (.int .i64 ((n : Int) / 2)) ⟨kk ((kk ((Kept.refl _ w).alloc _) hK1).alloc _) hK2, hR2⟩
    obtain ⟨hKF, hRF⟩ := sfin4 hlt hKX hRX (.int .i64 1) (.int .i64 ((n : Int) / 2)) (.string ⟨#[]⟩) (.int .i64 0)
    have hrl : Hid (SRel (sVal (bs.drop at_)) bad (⟨1, zag n, ⟨#[]⟩, 0⟩ : GV) (bs.drop at2) bad2) := (((SInv.start (sVal (bs.drop at_)) bad).comp (G' := (sNum 10 0 0 (bs.drop at1)).map fun x => (⟨1, zag x.1, ⟨#[]⟩, 0⟩, x.2)) hrel.out (fun h => by rw [sval1 h]; rfl) (fun h => sval0 h)).comp (G' := some (⟨1, zag n, ⟨#[]⟩, 0⟩, bs.drop at2)) hrel2.out (fun h => by rw [h]; rfl) (fun h => by rw [h]; rfl)).rel rfl
    refine bodyPost_ret (v := (GV.mk 1 ((n : Int) / 2) ⟨#[]⟩ 0).val) (by simp [results, Try.results71, go_sem, b0, b1, b2, b3]) rfl ?_
    exact ⟨hKF, ⟨1, zag n, ⟨#[]⟩, 0⟩, at2, bad2, by rw [← ez], zero_ok (n := 1) (by omega) _ (zag_i64 hn) _ (Nat.zero_le _) 0 (small_i64 (by omega)), hRF, by omega, hrl⟩
  · obtain ⟨hKX, hRX⟩ := kset hlt (show w.heap.size ≤ w1.heap.size by omega) 1 (.int .i64 (wrap64 (n : Int))) ⟨kk ((kk ((Kept.refl _ w).alloc _) hK1).alloc _) hK2, hR2⟩
    obtain ⟨hKF, hRF⟩ := sfin4 hlt hKX hRX (.int .i64 2) (.int .i64 (wrap64 (n : Int))) (.string ⟨#[]⟩) (.int .i64 0)
    have hrl : Hid (SRel (sVal (bs.drop at_)) bad (⟨2, wrap64 (n : Int), ⟨#[]⟩, 0⟩ : GV) (bs.drop at2) bad2) := (((SInv.start (sVal (bs.drop at_)) bad).comp (G' := (sLow 8 0 0 (bs.drop at1)).map fun x => (⟨2, wrap64 (x.1 : Int), ⟨#[]⟩, 0⟩, x.2)) hrel.out (fun h => by rw [sval1 h]; rfl) (fun h => sval0 h)).comp (G' := some (⟨2, wrap64 (n : Int), ⟨#[]⟩, 0⟩, bs.drop at2)) hrel2.out (fun h => by rw [h]; rfl) (fun h => by rw [h]; rfl)).rel rfl
    refine bodyPost_ret (v := (GV.mk 2 (wrap64 (n : Int)) ⟨#[]⟩ 0).val) (by simp [results, Try.results71, go_sem, b0, b1, b2, b3]) rfl ?_
    exact ⟨hKF, ⟨2, wrap64 (n : Int), ⟨#[]⟩, 0⟩, at2, bad2, rfl, zero_ok (n := 2) (by omega) _ (i64_wrap2 _) _ (Nat.zero_le _) 0 (small_i64 (by omega)), hRF, by omega, hrl⟩
  · rename_i htn
    obtain ⟨hKF, hRF⟩ := sfin4 hlt (((kk ((kk ((Kept.refl _ w).alloc _) hK1).alloc _) hK2).drewN nq).set (a := ⟨b, 2, none⟩) (fun _ => rfl) (.bool true)) (hR2.drewN nq).setBad (.int .i64 3) (.int .i64 0) (.string ⟨#[]⟩) (.int .i64 0)
    have hrl : Hid (SRel (sVal (bs.drop at_)) bad (⟨3, 0, ⟨#[]⟩, 0⟩ : GV) (bs.drop at2) true) := (((SInv.start (sVal (bs.drop at_)) bad).comp (G' := (sSmall (bs.drop at1)).bind fun x => if x.1 ≤ x.2.length then some (⟨3, 0, strB (x.2.take x.1), 0⟩, x.2.drop x.1) else none) hrel.out (fun h => by rw [sval1 h]; rfl) (fun h => sval0 h)).comp (G' := none) hrel2.out (fun h => by
      rw [h, Option.bind_some]
      refine if_neg ?_
      rw [List.length_drop]
      rcases hat2 with h2 | h2
      · omega
      · intro hc
        by_cases h3 : at1 ≤ bs.length
        · omega
        · rw [drop_zero_of (show bs.length ≤ at1 by omega), ssmall_nil] at h
          cases h) (fun h => by rw [h]; rfl)).bad rfl
    refine bodyPost_ret (v := (GV.mk 3 0 ⟨#[]⟩ 0).val) (by simp [results, Try.results71, go_sem, b0, b1, b2, b3]) rfl ?_
    exact ⟨hKF, ⟨3, 0, ⟨#[]⟩, 0⟩, at2, true, rfl, zero_ok (n := 3) (by omega) 0 (small_i64 (by omega)) _ (Nat.zero_le _) 0 (small_i64 (by omega)), hRF, by omega, hrl⟩
  · have htn : at2 + n ≤ bs.length := by
      rename_i h1 _ _
      omega
    by_cases hca : cap = at2
    · obtain rfl : n = 0 := by omega
      have hbt := take_bytes (p := sa) (n := 0) hR2.low htn (fun h => absurd h (by omega))
      have hcv := conv_text (w := (w2.drewN nq).drew) (n := 0) (c := 0) hbt (by rw [List.length_take, List.length_drop]; omega)
      have hw0 : IntKind.i64.wrap (at2 : Int) = (at2 : Int) := by rw [IntKind.wrap_i64]; omega
      have hw1 : (0 : Int) ≤ (at2 : Int) := by omega
      have hw2 : (at2 : Int) ≤ (cap : Int) := by omega
      refine wp_regionU (fun u => u.cell? ⟨b, 0, none⟩ = some (.slice sa bs.length cap) ∧ u.cell? ⟨b, 1, none⟩ = some (.int .i64 (at2 : Int)) ∧ (convert 22 9 (.slice sa 0 0)).run Try.prog u = .ok (.string (strB ((bs.drop at2).take 0))) u ∧ (u.cell? ⟨w1.heap.size, 2, none⟩ = some (.string ⟨#[]⟩) ∧ u.frozen? ⟨w1.heap.size, 2, none⟩ = false)) 17 (by kernel_rfl) ⟨z2, z3, hcv, g2, gf 2⟩ (fun hS0 => ?_)
      refine anyU_take (i := 0) (v := ?_) rfl (by kernel_rfl) (by kernel_rfl) (by kernel_rfl) (by kernel_rfl) (fun _ _ _ h => h) (Or.inl ⟨by rfl, ?_⟩) hS0 ?_
      rotate_left
      · intro u hSu; obtain ⟨q0, q1, q2, q3⟩ := hSu; go_simp <;> with_reducible rfl
      simp only [Act.put, List.getElem_toArray, List.getElem_cons_zero, List.setIfInBounds_toArray, List.set_cons_zero, List.set_cons_succ]
      refine anyU_take (i := 1) (v := ?_) rfl (by kernel_rfl) (by kernel_rfl) (by kernel_rfl) (by kernel_rfl) (fun _ _ _ h => h) (Or.inl ⟨by rfl, ?_⟩) hS0 ?_
      rotate_left
      · intro u hSu; obtain ⟨q0, q1, q2, q3⟩ := hSu; go_simp <;> with_reducible rfl
      simp only [Act.put, List.getElem_toArray, List.getElem_cons_zero, List.getElem_cons_succ, List.setIfInBounds_toArray, List.set_cons_zero, List.set_cons_succ]
      refine anyU_take (i := 2) (v := ?_) rfl (by kernel_rfl) (by kernel_rfl) (by kernel_rfl) (by kernel_rfl) (fun _ _ _ h => h) (Or.inl ⟨by rfl, ?_⟩) hS0 ?_
      rotate_left
      · intro u hSu; obtain ⟨q0, q1, q2, q3⟩ := hSu; go_simp <;> with_reducible rfl
      simp only [Act.put, List.getElem_toArray, List.getElem_cons_zero, List.getElem_cons_succ, List.setIfInBounds_toArray, List.set_cons_zero, List.set_cons_succ]
      refine anyU_take (i := 3) (v := ?_) rfl (by kernel_rfl) (by kernel_rfl) (by kernel_rfl) (by kernel_rfl) (fun _ _ _ h => h) (Or.inl ⟨by rfl, ?_⟩) hS0 ?_
      rotate_left
      · intro u hSu; obtain ⟨q0, q1, q2, q3⟩ := hSu; go_simp <;> with_reducible rfl
      simp only [Act.put, List.getElem_toArray, List.getElem_cons_zero, List.getElem_cons_succ, List.setIfInBounds_toArray, List.set_cons_zero, List.set_cons_succ]
      refine anyU_take (i := 4) (v := ?_) rfl (by kernel_rfl) (by kernel_rfl) (by kernel_rfl) (by kernel_rfl) (fun _ _ _ h => h) (Or.inl ⟨by rfl, ?_⟩) hS0 ?_
      rotate_left
      · intro u hSu; obtain ⟨q0, q1, q2, q3⟩ := hSu; go_simp <;> with_reducible rfl
      simp only [Act.put, List.getElem_toArray, List.getElem_cons_zero, List.getElem_cons_succ, List.setIfInBounds_toArray, List.set_cons_zero, List.set_cons_succ]
      refine anyU_take (i := 5) (v := ?_) rfl (by kernel_rfl) (by kernel_rfl) (by kernel_rfl) (by kernel_rfl) (fun _ _ _ h => h) (Or.inl ⟨by rfl, ?_⟩) hS0 ?_
      rotate_left
      · intro u hSu; obtain ⟨q0, q1, q2, q3⟩ := hSu; go_simp <;> with_reducible rfl
      simp only [Act.put, List.getElem_toArray, List.getElem_cons_zero, List.getElem_cons_succ, List.setIfInBounds_toArray, List.set_cons_zero, List.set_cons_succ]
      refine anyU_take (i := 6) (v := ?_) rfl (by kernel_rfl) (by kernel_rfl) (by kernel_rfl) (by kernel_rfl) (fun _ _ _ h => h) (Or.inl ⟨by rfl, ?_⟩) hS0 ?_
      rotate_left
      · intro u hSu; obtain ⟨q0, q1, q2, q3⟩ := hSu; go_simp <;> with_reducible rfl
      simp only [Act.put, List.getElem_toArray, List.getElem_cons_zero, List.getElem_cons_succ, List.setIfInBounds_toArray, List.set_cons_zero, List.set_cons_succ]
      refine anyU_take (i := 7) (v := ?_) rfl (by kernel_rfl) (by kernel_rfl) (by kernel_rfl) (by kernel_rfl) (fun _ _ _ h => h) (Or.inl ⟨by rfl, ?_⟩) hS0 ?_
      rotate_left
      · intro u hSu; obtain ⟨q0, q1, q2, q3⟩ := hSu; go_simp <;> with_reducible rfl
      simp only [Act.put, List.getElem_toArray, List.getElem_cons_zero, List.getElem_cons_succ, List.setIfInBounds_toArray, List.set_cons_zero, List.set_cons_succ]
      refine anyU_take (i := 8) (v := ?_) rfl (by kernel_rfl) (by kernel_rfl) (by kernel_rfl) (by kernel_rfl) (fun _ _ _ h => h) (Or.inl ⟨by rfl, ?_⟩) hS0 ?_
      rotate_left
      · intro u hSu; obtain ⟨q0, q1, q2, q3⟩ := hSu; go_simp <;> with_reducible rfl
      simp only [Act.put, List.getElem_toArray, List.getElem_cons_zero, List.getElem_cons_succ, List.setIfInBounds_toArray, List.set_cons_zero, List.set_cons_succ]
      refine anyU_take (i := 9) (v := ?_) rfl (by kernel_rfl) (by kernel_rfl) (by kernel_rfl) (by kernel_rfl) (fun _ _ _ h => h) (Or.inl ⟨by rfl, ?_⟩) hS0 ?_
      rotate_left
      · intro u hSu; obtain ⟨q0, q1, q2, q3⟩ := hSu; go_simp <;> with_reducible rfl
      simp only [Act.put, List.getElem_toArray, List.getElem_cons_zero, List.getElem_cons_succ, List.setIfInBounds_toArray, List.set_cons_zero, List.set_cons_succ]
      refine anyU_take (i := 10) (v := ?_) rfl (by kernel_rfl) (by kernel_rfl) (by kernel_rfl) (by kernel_rfl) (fun _ _ _ h => h) (Or.inl ⟨by rfl, ?_⟩) hS0 ?_
      rotate_left
      · intro u hSu; obtain ⟨q0, q1, q2, q3⟩ := hSu; go_simp <;> with_reducible rfl
      simp only [Act.put, List.getElem_toArray, List.getElem_cons_zero, List.getElem_cons_succ, List.setIfInBounds_toArray, List.set_cons_zero, List.set_cons_succ]
      refine anyU_take (i := 11) (v := ?_) rfl (by kernel_rfl) (by kernel_rfl) (by kernel_rfl) (by kernel_rfl) (fun _ _ _ h => h) (Or.inl ⟨by rfl, ?_⟩) hS0 ?_
      rotate_left
      · intro u hSu; obtain ⟨q0, q1, q2, q3⟩ := hSu; go_simp <;> with_reducible rfl
      simp only [Act.put, List.getElem_toArray, List.getElem_cons_zero, List.getElem_cons_succ, List.setIfInBounds_toArray, List.set_cons_zero, List.set_cons_succ]
      refine anyU_take (i := 12) (v := ?_) rfl (by kernel_rfl) (by kernel_rfl) (by kernel_rfl) (by kernel_rfl) (fun _ _ _ h => h) (Or.inl ⟨by rfl, ?_⟩) hS0 ?_
      rotate_left
      · intro u hSu; obtain ⟨q0, q1, q2, q3⟩ := hSu; go_simp <;> with_reducible rfl
      simp only [Act.put, List.getElem_toArray, List.getElem_cons_zero, List.getElem_cons_succ, List.setIfInBounds_toArray, List.set_cons_zero, List.set_cons_succ]
      refine anyU_take (i := 13) (v := ?_) rfl (by kernel_rfl) (by kernel_rfl) (by kernel_rfl) (by kernel_rfl) (fun _ _ _ h => h) (Or.inl ⟨by rfl, ?_⟩) hS0 ?_
      rotate_left
      · intro u hSu; obtain ⟨q0, q1, q2, q3⟩ := hSu; go_simp <;> with_reducible rfl
      simp only [Act.put, List.getElem_toArray, List.getElem_cons_zero, List.getElem_cons_succ, List.setIfInBounds_toArray, List.set_cons_zero, List.set_cons_succ]
      refine anyU_take (i := 14) (v := ?_) rfl (by kernel_rfl) (by kernel_rfl) (by kernel_rfl) (by kernel_rfl) (fun _ _ _ h => h) (Or.inl ⟨by rfl, ?_⟩) hS0 ?_
      rotate_left
      · intro u hSu; obtain ⟨q0, q1, q2, q3⟩ := hSu; go_simp <;> with_reducible rfl
      simp only [Act.put, List.getElem_toArray, List.getElem_cons_zero, List.getElem_cons_succ, List.setIfInBounds_toArray, List.set_cons_zero, List.set_cons_succ]
      refine anyU_take (i := 15) (v := ?_) rfl (by kernel_rfl) (by kernel_rfl) (by kernel_rfl) (by kernel_rfl) (fun _ _ _ h => h) (Or.inl ⟨by rfl, ?_⟩) hS0 ?_
      rotate_left
      · intro u hSu; obtain ⟨q0, q1, q2, q3⟩ := hSu; go_simp <;> with_reducible rfl
      simp only [Act.put, List.getElem_toArray, List.getElem_cons_zero, List.getElem_cons_succ, List.setIfInBounds_toArray, List.set_cons_zero, List.set_cons_succ]
      refine anyU_take (i := 16) (v := ?_) rfl (by kernel_rfl) (by kernel_rfl) (by kernel_rfl) (by kernel_rfl) (fun _ _ _ h => h) (Or.inl ⟨by rfl, ?_⟩) hS0 ?_
      rotate_left
      · intro u hSu; obtain ⟨q0, q1, q2, q3⟩ := hSu; go_simp <;> with_reducible rfl
      simp only [Act.put, List.getElem_toArray, List.getElem_cons_zero, List.getElem_cons_succ, List.setIfInBounds_toArray, List.set_cons_zero, List.set_cons_succ]
      refine anyU_last (by kernel_rfl) rfl (by kernel_rfl) (fun K hK => ?_)
      obtain ⟨q0, q1, q2, q3, q4⟩ := hS0
      go_simp
      refine hK.out _ _ ?_
      clear hK
      go_wp2
      obtain ⟨hKX, hRX⟩ := kset hlt (show w.heap.size ≤ w1.heap.size by omega) 2 (.string (strB [])) ⟨(kk ((kk ((Kept.refl _ w).alloc _) hK1).alloc _) hK2).drewN (nq + 1), hR2.drewN (nq + 1)⟩
      obtain ⟨hKF, hRF⟩ := sfin4 hlt (hKX.set (a := ⟨b, 1, none⟩) (fun _ => rfl) (.int .i64 (at2 : Int))) (hRX.setAt (z := (at2 : Int)) (n := at2 + 0) (by omega) (by omega)) (.int .i64 3) (.int .i64 0) (.string (strB [])) (.int .i64 0)
      have hrl : Hid (SRel (sVal (bs.drop at_)) bad (⟨3, 0, (strB []), 0⟩ : GV) (bs.drop (at2 + 0)) bad2) := (((SInv.start (sVal (bs.drop at_)) bad).comp (G' := (sSmall (bs.drop at1)).bind fun x => if x.1 ≤ x.2.length then some (⟨3, 0, strB (x.2.take x.1), 0⟩, x.2.drop x.1) else none) hrel.out (fun h => by rw [sval1 h]; rfl) (fun h => sval0 h)).comp (G' := some (⟨3, 0, (strB []), 0⟩, bs.drop (at2 + 0))) hrel2.out (fun h => by
        rw [h, Option.bind_some]
        refine (if_pos ?_).trans ?_
        · rw [List.length_drop]; omega
        · (try rw [List.drop_drop]); (try rfl)) (fun h => by rw [h]; rfl)).rel rfl
      refine bodyPost_ret (v := (GV.mk 3 0 (strB []) 0).val) (by simp [results, Try.results71, go_sem, b0, b1, b2, b3]) rfl ?_
      exact ⟨hKF, ⟨3, 0, (strB []), 0⟩, at2 + 0, bad2, rfl, zero_ok (n := 3) (by omega) 0 (small_i64 (by omega)) _ (by rw [strB_sizeR]; exact Nat.zero_le _) 0 (small_i64 (by omega)), hRF, by omega, hrl⟩
    · have hbt := take_bytes (p := Option.map (fun x => x.add at2) sa) (n := n) hR2.low htn (fun _ g off e => by rw [e]; simp [Addr.add])
      have hcv := conv_text (w := (w2.drewN nq).drew) (n := n) (c := cap - at2) hbt (by rw [List.length_take, List.length_drop]; omega)
      have hw0 : IntKind.i64.wrap ((at2 : Int) + (n : Int)) = (at2 : Int) + (n : Int) := by rw [IntKind.wrap_i64]; omega
      have hw1 : (0 : Int) ≤ (at2 : Int) + (n : Int) := by omega
      have hw2 : (at2 : Int) + (n : Int) ≤ (cap : Int) := by omega
      have hw3 : ((at2 : Int) + (n : Int)).toNat = at2 + n := by omega
      have hw4 : at2 ≤ at2 + n := by omega
      refine wp_regionU (fun u => u.cell? ⟨b, 0, none⟩ = some (.slice sa bs.length cap) ∧ u.cell? ⟨b, 1, none⟩ = some (.int .i64 (at2 : Int)) ∧ (convert 22 9 (.slice (Option.map (fun x => x.add at2) sa) n (cap - at2))).run Try.prog u = .ok (.string (strB ((bs.drop at2).take n))) u ∧ (u.cell? ⟨w1.heap.size, 2, none⟩ = some (.string ⟨#[]⟩) ∧ u.frozen? ⟨w1.heap.size, 2, none⟩ = false)) 17 (by kernel_rfl) ⟨z2, z3, hcv, g2, gf 2⟩ (fun hS0 => ?_)
      refine anyU_take (i := 0) (v := ?_) rfl (by kernel_rfl) (by kernel_rfl) (by kernel_rfl) (by kernel_rfl) (fun _ _ _ h => h) (Or.inl ⟨by rfl, ?_⟩) hS0 ?_
      rotate_left
      · intro u hSu; obtain ⟨q0, q1, q2, q3⟩ := hSu; go_simp <;> with_reducible rfl
      simp only [Act.put, List.getElem_toArray, List.getElem_cons_zero, List.setIfInBounds_toArray, List.set_cons_zero, List.set_cons_succ]
      refine anyU_take (i := 1) (v := ?_) rfl (by kernel_rfl) (by kernel_rfl) (by kernel_rfl) (by kernel_rfl) (fun _ _ _ h => h) (Or.inl ⟨by rfl, ?_⟩) hS0 ?_
      rotate_left
      · intro u hSu; obtain ⟨q0, q1, q2, q3⟩ := hSu; go_simp <;> with_reducible rfl
      simp only [Act.put, List.getElem_toArray, List.getElem_cons_zero, List.getElem_cons_succ, List.setIfInBounds_toArray, List.set_cons_zero, List.set_cons_succ]
      refine anyU_take (i := 2) (v := ?_) rfl (by kernel_rfl) (by kernel_rfl) (by kernel_rfl) (by kernel_rfl) (fun _ _ _ h => h) (Or.inl ⟨by rfl, ?_⟩) hS0 ?_
      rotate_left
      · intro u hSu; obtain ⟨q0, q1, q2, q3⟩ := hSu; go_simp <;> with_reducible rfl
      simp only [Act.put, List.getElem_toArray, List.getElem_cons_zero, List.getElem_cons_succ, List.setIfInBounds_toArray, List.set_cons_zero, List.set_cons_succ]
      refine anyU_take (i := 3) (v := ?_) rfl (by kernel_rfl) (by kernel_rfl) (by kernel_rfl) (by kernel_rfl) (fun _ _ _ h => h) (Or.inl ⟨by rfl, ?_⟩) hS0 ?_
      rotate_left
      · intro u hSu; obtain ⟨q0, q1, q2, q3⟩ := hSu; go_simp <;> with_reducible rfl
      simp only [Act.put, List.getElem_toArray, List.getElem_cons_zero, List.getElem_cons_succ, List.setIfInBounds_toArray, List.set_cons_zero, List.set_cons_succ]
      refine anyU_take (i := 4) (v := ?_) rfl (by kernel_rfl) (by kernel_rfl) (by kernel_rfl) (by kernel_rfl) (fun _ _ _ h => h) (Or.inl ⟨by rfl, ?_⟩) hS0 ?_
      rotate_left
      · intro u hSu; obtain ⟨q0, q1, q2, q3⟩ := hSu; go_simp <;> with_reducible rfl
      simp only [Act.put, List.getElem_toArray, List.getElem_cons_zero, List.getElem_cons_succ, List.setIfInBounds_toArray, List.set_cons_zero, List.set_cons_succ]
      refine anyU_take (i := 5) (v := ?_) rfl (by kernel_rfl) (by kernel_rfl) (by kernel_rfl) (by kernel_rfl) (fun _ _ _ h => h) (Or.inl ⟨by rfl, ?_⟩) hS0 ?_
      rotate_left
      · intro u hSu; obtain ⟨q0, q1, q2, q3⟩ := hSu; go_simp <;> with_reducible rfl
      simp only [Act.put, List.getElem_toArray, List.getElem_cons_zero, List.getElem_cons_succ, List.setIfInBounds_toArray, List.set_cons_zero, List.set_cons_succ]
      refine anyU_take (i := 6) (v := ?_) rfl (by kernel_rfl) (by kernel_rfl) (by kernel_rfl) (by kernel_rfl) (fun _ _ _ h => h) (Or.inl ⟨by rfl, ?_⟩) hS0 ?_
      rotate_left
      · intro u hSu; obtain ⟨q0, q1, q2, q3⟩ := hSu; go_simp <;> with_reducible rfl
      simp only [Act.put, List.getElem_toArray, List.getElem_cons_zero, List.getElem_cons_succ, List.setIfInBounds_toArray, List.set_cons_zero, List.set_cons_succ]
      refine anyU_take (i := 7) (v := ?_) rfl (by kernel_rfl) (by kernel_rfl) (by kernel_rfl) (by kernel_rfl) (fun _ _ _ h => h) (Or.inl ⟨by rfl, ?_⟩) hS0 ?_
      rotate_left
      · intro u hSu; obtain ⟨q0, q1, q2, q3⟩ := hSu; go_simp <;> with_reducible rfl
      simp only [Act.put, List.getElem_toArray, List.getElem_cons_zero, List.getElem_cons_succ, List.setIfInBounds_toArray, List.set_cons_zero, List.set_cons_succ]
      refine anyU_take (i := 8) (v := ?_) rfl (by kernel_rfl) (by kernel_rfl) (by kernel_rfl) (by kernel_rfl) (fun _ _ _ h => h) (Or.inl ⟨by rfl, ?_⟩) hS0 ?_
      rotate_left
      · intro u hSu; obtain ⟨q0, q1, q2, q3⟩ := hSu; go_simp <;> with_reducible rfl
      simp only [Act.put, List.getElem_toArray, List.getElem_cons_zero, List.getElem_cons_succ, List.setIfInBounds_toArray, List.set_cons_zero, List.set_cons_succ]
      refine anyU_take (i := 9) (v := ?_) rfl (by kernel_rfl) (by kernel_rfl) (by kernel_rfl) (by kernel_rfl) (fun _ _ _ h => h) (Or.inl ⟨by rfl, ?_⟩) hS0 ?_
      rotate_left
      · intro u hSu; obtain ⟨q0, q1, q2, q3⟩ := hSu; go_simp <;> with_reducible rfl
      simp only [Act.put, List.getElem_toArray, List.getElem_cons_zero, List.getElem_cons_succ, List.setIfInBounds_toArray, List.set_cons_zero, List.set_cons_succ]
      refine anyU_take (i := 10) (v := ?_) rfl (by kernel_rfl) (by kernel_rfl) (by kernel_rfl) (by kernel_rfl) (fun _ _ _ h => h) (Or.inl ⟨by rfl, ?_⟩) hS0 ?_
      rotate_left
      · intro u hSu; obtain ⟨q0, q1, q2, q3⟩ := hSu; go_simp <;> with_reducible rfl
      simp only [Act.put, List.getElem_toArray, List.getElem_cons_zero, List.getElem_cons_succ, List.setIfInBounds_toArray, List.set_cons_zero, List.set_cons_succ]
      refine anyU_take (i := 11) (v := ?_) rfl (by kernel_rfl) (by kernel_rfl) (by kernel_rfl) (by kernel_rfl) (fun _ _ _ h => h) (Or.inl ⟨by rfl, ?_⟩) hS0 ?_
      rotate_left
      · intro u hSu; obtain ⟨q0, q1, q2, q3⟩ := hSu; go_simp <;> with_reducible rfl
      simp only [Act.put, List.getElem_toArray, List.getElem_cons_zero, List.getElem_cons_succ, List.setIfInBounds_toArray, List.set_cons_zero, List.set_cons_succ]
      refine anyU_take (i := 12) (v := ?_) rfl (by kernel_rfl) (by kernel_rfl) (by kernel_rfl) (by kernel_rfl) (fun _ _ _ h => h) (Or.inl ⟨by rfl, ?_⟩) hS0 ?_
      rotate_left
      · intro u hSu; obtain ⟨q0, q1, q2, q3⟩ := hSu; go_simp <;> with_reducible rfl
      simp only [Act.put, List.getElem_toArray, List.getElem_cons_zero, List.getElem_cons_succ, List.setIfInBounds_toArray, List.set_cons_zero, List.set_cons_succ]
      refine anyU_take (i := 13) (v := ?_) rfl (by kernel_rfl) (by kernel_rfl) (by kernel_rfl) (by kernel_rfl) (fun _ _ _ h => h) (Or.inl ⟨by rfl, ?_⟩) hS0 ?_
      rotate_left
      · intro u hSu; obtain ⟨q0, q1, q2, q3⟩ := hSu; go_simp <;> with_reducible rfl
      simp only [Act.put, List.getElem_toArray, List.getElem_cons_zero, List.getElem_cons_succ, List.setIfInBounds_toArray, List.set_cons_zero, List.set_cons_succ]
      refine anyU_take (i := 14) (v := ?_) rfl (by kernel_rfl) (by kernel_rfl) (by kernel_rfl) (by kernel_rfl) (fun _ _ _ h => h) (Or.inl ⟨by rfl, ?_⟩) hS0 ?_
      rotate_left
      · intro u hSu; obtain ⟨q0, q1, q2, q3⟩ := hSu; go_simp <;> with_reducible rfl
      simp only [Act.put, List.getElem_toArray, List.getElem_cons_zero, List.getElem_cons_succ, List.setIfInBounds_toArray, List.set_cons_zero, List.set_cons_succ]
      refine anyU_take (i := 15) (v := ?_) rfl (by kernel_rfl) (by kernel_rfl) (by kernel_rfl) (by kernel_rfl) (fun _ _ _ h => h) (Or.inl ⟨by rfl, ?_⟩) hS0 ?_
      rotate_left
      · intro u hSu; obtain ⟨q0, q1, q2, q3⟩ := hSu; go_simp <;> with_reducible rfl
      simp only [Act.put, List.getElem_toArray, List.getElem_cons_zero, List.getElem_cons_succ, List.setIfInBounds_toArray, List.set_cons_zero, List.set_cons_succ]
      refine anyU_take (i := 16) (v := ?_) rfl (by kernel_rfl) (by kernel_rfl) (by kernel_rfl) (by kernel_rfl) (fun _ _ _ h => h) (Or.inl ⟨by rfl, ?_⟩) hS0 ?_
      rotate_left
      · intro u hSu; obtain ⟨q0, q1, q2, q3⟩ := hSu; go_simp <;> with_reducible rfl
      simp only [Act.put, List.getElem_toArray, List.getElem_cons_zero, List.getElem_cons_succ, List.setIfInBounds_toArray, List.set_cons_zero, List.set_cons_succ]
      refine anyU_last (by kernel_rfl) rfl (by kernel_rfl) (fun K hK => ?_)
      obtain ⟨q0, q1, q2, q3, q4⟩ := hS0
      go_simp
      refine hK.out _ _ ?_
      clear hK
      go_wp2
      obtain ⟨hKX, hRX⟩ := kset hlt (show w.heap.size ≤ w1.heap.size by omega) 2 (.string (strB ((bs.drop at2).take n))) ⟨(kk ((kk ((Kept.refl _ w).alloc _) hK1).alloc _) hK2).drewN (nq + 1), hR2.drewN (nq + 1)⟩
      obtain ⟨hKF, hRF⟩ := sfin4 hlt (hKX.set (a := ⟨b, 1, none⟩) (fun _ => rfl) (.int .i64 ((at2 : Int) + (n : Int)))) (hRX.setAt (z := ((at2 : Int) + (n : Int))) (n := at2 + n) (by omega) (by omega)) (.int .i64 3) (.int .i64 0) (.string (strB ((bs.drop at2).take n))) (.int .i64 0)
      have hrl : Hid (SRel (sVal (bs.drop at_)) bad (⟨3, 0, (strB ((bs.drop at2).take n)), 0⟩ : GV) (bs.drop (at2 + n)) bad2) := (((SInv.start (sVal (bs.drop at_)) bad).comp (G' := (sSmall (bs.drop at1)).bind fun x => if x.1 ≤ x.2.length then some (⟨3, 0, strB (x.2.take x.1), 0⟩, x.2.drop x.1) else none) hrel.out (fun h => by rw [sval1 h]; rfl) (fun h => sval0 h)).comp (G' := some (⟨3, 0, (strB ((bs.drop at2).take n)), 0⟩, bs.drop (at2 + n))) hrel2.out (fun h => by
        rw [h, Option.bind_some]
        refine (if_pos ?_).trans ?_
        · rw [List.length_drop]; omega
        · (try rw [List.drop_drop]); (try rfl)) (fun h => by rw [h]; rfl)).rel rfl
      refine bodyPost_ret (v := (GV.mk 3 0 (strB ((bs.drop at2).take n)) 0).val) (by simp [results, Try.results71, go_sem, b0, b1, b2, b3]) rfl ?_
      exact ⟨hKF, ⟨3, 0, (strB ((bs.drop at2).take n)), 0⟩, at2 + n, bad2, rfl, text_ok (by rw [strB_sizeR, List.length_take]; omega), hRF, by omega, hrl⟩
  · obtain ⟨hKX, hRX⟩ := kset hlt (show w.heap.size ≤ w1.heap.size by omega) 3 (.int .i64 (n : Int)) ⟨kk ((kk ((Kept.refl _ w).alloc _) hK1).alloc _) hK2, hR2⟩
    obtain ⟨hKF, hRF⟩ := sfin4 hlt hKX hRX (.int .i64 4) (.int .i64 0) (.string ⟨#[]⟩) (.int .i64 (n : Int))
    have hrl : Hid (SRel (sVal (bs.drop at_)) bad (⟨4, 0, ⟨#[]⟩, (n : Int)⟩ : GV) (bs.drop at2) bad2) := (((SInv.start (sVal (bs.drop at_)) bad).comp (G' := (sSmall (bs.drop at1)).map fun x => (⟨4, 0, ⟨#[]⟩, (x.1 : Int)⟩, x.2)) hrel.out (fun h => by rw [sval1 h]; rfl) (fun h => sval0 h)).comp (G' := some (⟨4, 0, ⟨#[]⟩, (n : Int)⟩, bs.drop at2)) hrel2.out (fun h => by rw [h]; rfl) (fun h => by rw [h]; rfl)).rel rfl
    refine bodyPost_ret (v := (GV.mk 4 0 ⟨#[]⟩ (n : Int)).val) (by simp [results, Try.results71, go_sem, b0, b1, b2, b3]) rfl ?_
    exact ⟨hKF, ⟨4, 0, ⟨#[]⟩, (n : Int)⟩, at2, bad2, rfl, zero_ok (n := 4) (by omega) 0 (small_i64 (by omega)) _ (Nat.zero_le _) _ (small_i64 (by omega)), hRF, by omega, hrl⟩
  · have hk1 : k ≠ 1 ∧ k ≠ 2 ∧ k ≠ 3 ∧ k ≠ 4 := by
      refine ⟨?_, ?_, ?_, ?_⟩ <;> (intro e; subst e; simp at n1 n2 n3 n4)
    obtain ⟨_, f0, f1, f2, f3, _⟩ := (hF1.set4 ⟨(k : Int), 0, ⟨#[]⟩, 0⟩).alloc (.cells #[.int .i64 (k : Int), .int .i64 0, .string ⟨#[]⟩, .int .i64 0] 24)
    obtain ⟨hKF, hRF⟩ := sfin4 hlt (kk ((Kept.refl _ w).alloc _) hK1) hR1 (.int .i64 (k : Int)) (.int .i64 0) (.string ⟨#[]⟩) (.int .i64 0)
    have hrl : Hid (SRel (sVal (bs.drop at_)) bad (⟨(k : Int), 0, ⟨#[]⟩, 0⟩ : GV) (bs.drop at1) bad1) := ((SInv.start (sVal (bs.drop at_)) bad).comp (G' := some (⟨(k : Int), 0, ⟨#[]⟩, 0⟩, bs.drop at1)) hrel.out (fun h => by rw [sval1 h, sVal, if_neg hk1.1, if_neg hk1.2.1, if_neg hk1.2.2.1, if_neg hk1.2.2.2]) (fun h => sval0 h)).rel rfl
    refine bodyPost_ret (v := (GV.mk (k : Int) 0 ⟨#[]⟩ 0).val) (by simp [results, Try.results71, go_sem, f0, f1, f2, f3]) rfl ?_
    exact ⟨hKF.alloc _, ⟨(k : Int), 0, ⟨#[]⟩, 0⟩, at1, bad1, rfl, kind_ok hk, hRF.grow (gal (gre _) _), hat1, hrl⟩

end Go.Proofs.Ythjddpkegooobaa

/-
  SPL: the specification's reader, plain. Own work.
-/
namespace Go.Proofs.Ythjddpkegooobaa
open Go.RowKit

def sVals : Nat → List Nat → Option (List GV × List Nat)
  | 0, r => some ([], r)
  | k + 1, r => (sVal r).bind fun x => (sVals k x.2).map fun y => (x.1 :: y.1, y.2)
def sNode (r : List Nat) : Option (GN × List Nat) :=
  (sSmall r).bind fun t => (sSmall t.2).bind fun m => (sVals m.1 m.2).map fun y => (⟨(t.1 : Int), y.1⟩, y.2)
def sNodes : Nat → List Nat → Option (List GN × List Nat)
  | 0, r => some ([], r)
  | k + 1, r => (sNode r).bind fun x => (sNodes k x.2).map fun y => (x.1 :: y.1, y.2)
def sGraph (r : List Nat) : Option (GG × List Nat) :=
  (sSmall r).bind fun n => (sVal n.2).bind fun x => (sNodes n.1 x.2).map fun y => (⟨x.1, y.1⟩, y.2)

theorem sNum_back : ∀ (k m n i : Nat) (r : List Nat), (numB m).length ≤ k → n < 2 ^ (7 * i) → n + m * 2 ^ (7 * i) < 18446744073709551616 → 7 * i ≤ 64 → sNum k n i (numB m ++ r) = some (n + m * 2 ^ (7 * i), r)
  | 0, m, _, _, _, h, _, _, _ => by
    by_cases hm : m < 128
    · rw [numB_small hm] at h; simp at h
    · rw [numB_great hm] at h; simp at h
  | k + 1, m, n, i, r, hk, hn, hb, hs => by
    by_cases h : m < 128
    · rw [numB_small h]
      show (if m < 128 then _ else _) = _
      rw [if_pos h, Nat.mod_eq_of_lt h, orU_join hn hb hs]
      rfl
    · rw [numB_great h] at hk ⊢
      show (if m % 128 + 128 < 128 then _ else _) = _
      have e1 : (m % 128 + 128) % 128 = m % 128 := by omega
      have hpow : 2 ^ (7 * (i + 1)) = 2 ^ (7 * i) * 128 := by rw [show 7 * (i + 1) = 7 * i + 7 by omega, Nat.pow_add]
      have h2s : 0 < 2 ^ (7 * i) := Nat.pow_pos (by omega)
      have hm : m = m % 128 + m / 128 * 128 := by omega
      have hsum : n + m * 2 ^ (7 * i) = n + m % 128 * 2 ^ (7 * i) + m / 128 * 2 ^ (7 * (i + 1)) := by
        rw [hpow]
        conv => lhs; rw [hm]
        rw [Nat.add_mul, Nat.mul_assoc, Nat.mul_comm 128 (2 ^ (7 * i)), Nat.add_assoc]
      have hs7 : 7 * (i + 1) ≤ 64 := by
        have h1 : 2 ^ (7 * (i + 1)) ≤ m / 128 * 2 ^ (7 * (i + 1)) := Nat.le_mul_of_pos_left _ (by omega)
        have h2 : 2 ^ (7 * (i + 1)) < 2 ^ 64 := by omega
        have := (Nat.pow_lt_pow_iff_right (a := 2) (by omega)).1 h2
        omega
      rw [if_neg (by omega), e1, orU_join hn (by omega) hs]
      have h3 : n + m % 128 * 2 ^ (7 * i) < 2 ^ (7 * (i + 1)) := by
        rw [hpow]
        have h4 : (m % 128 + 1) * 2 ^ (7 * i) ≤ 128 * 2 ^ (7 * i) := Nat.mul_le_mul_right _ (by omega)
        rw [Nat.add_mul] at h4
        rw [Nat.mul_comm (2 ^ (7 * i)) 128]
        omega
      rw [hsum]
      simp only [List.length_cons] at hk
      exact sNum_back k (m / 128) _ (i + 1) r (by omega) h3 (by omega) hs7
theorem sNum_num {m : Nat} (h : m < 18446744073709551616) (r : List Nat) : sNum 10 0 0 (numB m ++ r) = some (m, r) := by
  have h1 := sNum_back 10 m 0 0 r (numB_ten h) (by simp) (by simpa using h) (by omega)
  simpa using h1
theorem sSmall_num {m : Nat} (h : m ≤ 5000) (r : List Nat) : sSmall (numB m ++ r) = some (m, r) := by
  unfold sSmall
  rw [sNum_num (by omega)]
  exact if_pos h
theorem sLow_word {n : Int} (h : I64 n) (r : List Nat) : (sLow 8 0 0 (lowB 8 (u64n n) ++ r)).map (fun x => ((⟨2, wrap64 (x.1 : Int), ⟨#[]⟩, 0⟩ : GV), x.2)) = some (⟨2, n, ⟨#[]⟩, 0⟩, r) := by
  have h1 := sLow_back 8 0 0 (u64n n) r (by omega) (by simp)
  have e1 : u64n n % 2 ^ (8 * 8) = u64n n := Nat.mod_eq_of_lt (u64n_lt n)
  have e2 : 0 + u64n n % 2 ^ (8 * 8) * 2 ^ (8 * 0) = u64n n := by rw [e1]; simp
  rw [h1, e2]
  show some ((⟨2, wrap64 (u64n n : Int), ⟨#[]⟩, 0⟩ : GV), r) = _
  unfold I64 at h
  have e3 : wrap64 (u64n n : Int) = n := by unfold wrap64 u64n; omega
  rw [e3]
theorem bs_take (t : ByteArray) (r : List Nat) : strB ((bsOf t ++ r).take t.size) = t ∧ (bsOf t ++ r).drop t.size = r := by
  have h := bsOf_length t
  constructor
  · rw [← h, List.take_left, strB_bs]
  · rw [← h, List.drop_left]
theorem sVal_back {n : Nat} {v : GV} (hn : n ≤ 300) (ho : v.Ok) (h : okV n v = true) (r : List Nat) : sVal (valB v ++ r) = some (v, r) := by
  rcases okV_cases h with rfl | ⟨m, rfl⟩ | ⟨m, rfl⟩ | ⟨t, ht, rfl⟩ | ⟨k, hk, rfl⟩
  · rfl
  · show sVal (1 :: (numB (zig m) ++ r)) = _
    simp [sVal, sNum_num (zig_lt ho.num), zag_zig]
  · show sVal (2 :: (lowB 8 (u64n m) ++ r)) = _
    exact sLow_word ho.num r
  · show sVal (3 :: (numB t.size ++ bsOf t ++ r)) = _
    obtain ⟨e1, e2⟩ := bs_take t r
    show (sSmall (numB t.size ++ bsOf t ++ r)).bind _ = _
    rw [List.append_assoc, sSmall_num (by omega), Option.bind_some]
    dsimp only
    rw [if_pos (by rw [List.length_append, bsOf_length]; omega), e1, e2]
  · show sVal (4 :: (numB k ++ r)) = _
    simp [sVal, sSmall_num (m := k) (by omega)]
theorem sVals_back {n : Nat} (hn : n ≤ 300) : ∀ (l : List GV) (r : List Nat), (∀ v, v ∈ l → v.Ok) → (∀ v, v ∈ l → okV n v = true) → sVals l.length (valsB l ++ r) = some (l, r)
  | [], r, _, _ => rfl
  | v :: l, r, ho, h => by
    show sVals (l.length + 1) (valB v ++ valsB l ++ r) = _
    rw [sVals, List.append_assoc, sVal_back hn (ho v (List.mem_cons_self ..)) (h v (List.mem_cons_self ..)), Option.bind_some, sVals_back hn l r (fun x hx => ho x (List.mem_cons_of_mem _ hx)) (fun x hx => h x (List.mem_cons_of_mem _ hx))]
    rfl
theorem sNode_back {n : Nat} (hn : n ≤ 300) {x : GN} (ho : x.Ok) (h : okN n x = true) (r : List Nat) : sNode (nodeB x ++ r) = some (x, r) := by
  obtain ⟨h1, h2⟩ := okN_parts h
  have h3 := okN_tag' h
  unfold sNode nodeB
  rw [List.append_assoc, List.append_assoc, sSmall_num (m := x.tag.toNat) (by omega), Option.bind_some]
  dsimp only
  rw [sSmall_num (m := x.vals.length) (by omega), Option.bind_some]
  dsimp only
  rw [sVals_back hn x.vals r ho.vals h2]
  show some ((⟨((x.tag.toNat : Nat) : Int), x.vals⟩ : GN), r) = _
  rw [show ((x.tag.toNat : Nat) : Int) = x.tag by omega]
theorem sNodes_back {n : Nat} (hn : n ≤ 300) : ∀ (l : List GN) (r : List Nat), (∀ v, v ∈ l → v.Ok) → (∀ v, v ∈ l → okN n v = true) → sNodes l.length (nodesB l ++ r) = some (l, r)
  | [], r, _, _ => rfl
  | v :: l, r, ho, h => by
    show sNodes (l.length + 1) (nodeB v ++ nodesB l ++ r) = _
    rw [sNodes, List.append_assoc, sNode_back hn (ho v (List.mem_cons_self ..)) (h v (List.mem_cons_self ..)), Option.bind_some, sNodes_back hn l r (fun x hx => ho x (List.mem_cons_of_mem _ hx)) (fun x hx => h x (List.mem_cons_of_mem _ hx))]
    rfl
theorem sGraph_back {g : GG} (ho : g.Ok) (hok : okG g = true) (r : List Nat) : sGraph ((graphB g ++ r).drop 2) = some (g, r) := by
  obtain ⟨hn, hroot, hnodes⟩ := okG_parts hok
  have e : (graphB g ++ r).drop 2 = numB g.nodes.length ++ (valB g.root ++ (nodesB g.nodes ++ r)) := by unfold graphB; simp only [List.append_assoc]; rfl
  rw [e]
  unfold sGraph
  rw [sSmall_num (m := g.nodes.length) (by omega), Option.bind_some]
  dsimp only
  rw [sVal_back hn ho.root hroot, Option.bind_some]
  dsimp only
  rw [sNodes_back hn g.nodes r ho.nodes hnodes]
  rfl

/-- what the specification's Unpack answers -/
def sUnB (bs : List Nat) : Bool × GG :=
  if 4096 < bs.length then (false, zeroG)
  else match sGraph (bs.drop 2) with
    | some (g, _) => if okG g = true ∧ imageB g = bs then (true, g) else (false, zeroG)
    | none => (false, zeroG)

theorem sUnB_eq (bs : List Nat) (hgs : ∀ g q, sGraph (bs.drop 2) = some (g, q) → bs.length ≤ 4096 → g.Ok) : sUnB bs = unB bs := by
  -- both are right where these bytes are an image, and wrong elsewhere
  by_cases h : ∃ g, g.Ok ∧ okG g = true ∧ imageB g = bs ∧ bs.length ≤ 4096
  · obtain ⟨g, ho, hok, him, hl⟩ := h
    have hcok := canon_okG hok
    have hcO := canon_ok ho hok
    have e0 : bs = graphB (canon g) ++ lowB 8 (sumN (graphB (canon g))) := him.symm
    have hr := rdGraph_back hcO hcok (lowB 8 (sumN (graphB (canon g))))
    have hs := sGraph_back hcO hcok (lowB 8 (sumN (graphB (canon g))))
    rw [← e0] at hr hs
    unfold sUnB unB
    rw [if_neg (by omega), hs, hr]
    dsimp only
    by_cases hc : imageB (canon g) = bs
    · rw [if_pos ⟨hcok, hc⟩, if_pos]
      unfold packB
      rw [if_pos ⟨hcok, by rw [hc]; exact hl⟩]
      exact hc
    · rw [if_neg (fun h => hc h.2), if_neg]
      unfold packB
      split
      · exact hc
      · intro h
        rw [← h] at hr
        cases hr
  · have h1 : sUnB bs = (false, zeroG) := by
      unfold sUnB
      split
      · rfl
      · split
        · rename_i hl _ g q hq
          exact if_neg (fun hh => h ⟨g, hgs g q hq (by omega), hh.1, hh.2, by omega⟩)
        · rfl
    have h2 : unB bs = (false, zeroG) := by
      unfold unB
      split
      · rename_i g q hq
        refine if_neg (fun hh => ?_)
        by_cases hp : okG g = true ∧ (imageB g).length ≤ 4096
        · unfold packB at hh
          rw [if_pos hp] at hh
          exact h ⟨g, rdGraph_ok hq, hp.1, hh, by rw [← hh]; exact hp.2⟩
        · unfold packB at hh
          rw [if_neg hp] at hh
          rw [← hh] at hq
          cases hq
      · rfl
    rw [h1, h2]

end Go.Proofs.Ythjddpkegooobaa

/-
  BEQUAL: the library's comparing of bytes. Own work.
-/
namespace Go.Proofs.Ythjddpkegooobaa
open Go.RowKit

theorem bs_strB {xs : List Nat} (h : ∀ x, x ∈ xs → x < 256) : bsOf (strB xs) = xs := by
  unfold bsOf strB strOfNums
  show ((xs.map _).map _).map _ = xs
  rw [List.map_map, List.map_map]
  conv => rhs; rw [← List.map_id xs]
  apply List.map_congr_left
  intro x hx
  show (UInt8.ofNat ((x : Int)).toNat).toNat = x
  have := h x hx
  simp []
  omega
theorem strB_eq {xs ys : List Nat} (hx : ∀ x, x ∈ xs → x < 256) (hy : ∀ x, x ∈ ys → x < 256) : ((strB xs).toList == (strB ys).toList) = decide (xs = ys) := by
  by_cases h : xs = ys
  · subst h; simp
  · rw [decide_eq_false h, beq_eq_false_iff_ne]
    intro e
    apply h
    have e2 : strB xs = strB ys := by
      apply ByteArray.ext
      apply Array.ext'
      rw [← ByteArray.toList_eq, ← ByteArray.toList_eq]; exact e
    rw [← bs_strB hx, e2, bs_strB hy]

set_option maxRecDepth 100000 in
theorem bytesEqual_any (a a' : Option Addr) (xs ys : List Nat) (c c' : Nat) (w : World) (hx : ∀ x, x ∈ xs → x < 256) (hy : ∀ x, x ∈ ys → x < 256) (ha : BytesAt w a xs) (ha' : BytesAt w a' ys) :
    Calls Try.prog 67 #[.slice a xs.length c, .slice a' ys.length c'] w fun e w' => e = .returned (.bool (decide (xs = ys))) ∧ Below w.heap.size w w' := by
  have h1 := conv_text (n := xs.length) (c := c) ha rfl
  have h2 := conv_text (n := ys.length) (c := c') ha' rfl
  have h3 := strB_eq hx hy
  go_enter Try.func67, Try.ntmps67
  go_wp2
  go_ret
  exact ⟨by first | rfl | rw [← h3]; rfl, gre _⟩

end Go.Proofs.Ythjddpkegooobaa

/-
  RDV1: the program's reader: values. Own work.
-/
namespace Go.Proofs.Ythjddpkegooobaa
open Go.RowKit

set_option maxHeartbeats 1000000 in
set_option maxRecDepth 100000 in
theorem readVal_nil (b : Nat) (sa : Option Addr) (cap : Nat) (bs t : List Nat)  (w : World) (hR : Rd w b sa cap bs (0 :: t))  :
    Calls Try.prog 121 #[.pointer (some ⟨b, 0, none⟩)] w (RVPost b sa cap bs (0 :: t) w) := by
  have hlt := hR.lt
  have hF0 := Four.new w ⟨0, 0, ⟨#[]⟩, 0⟩ 24
  go_enter Try.func121, Try.ntmps121
  go_wp2_with (go_at_call 149; refine (readByte_any b sa cap bs (0 :: t) _ (hR.grow (gal (gre _) _))).mono ?_; rintro e w1 h1; obtain ⟨rfl, hR1, hK1⟩ := RPost.ok h1; have hF1 := hF0.kept hK1 (by omega); obtain ⟨az, a0, a1, a2, a3, af⟩ := id hF1; have hG := Four.new w1 ⟨0, 0, ⟨#[]⟩, 0⟩ 24; have hs1 := hK1.size; simp only [World.size_alloc] at hs1)
  obtain ⟨_, f0, f1, f2, f3, _⟩ := (hF1.set4 ⟨0, 0, ⟨#[]⟩, 0⟩).alloc (.cells #[.int .i64 0, .int .i64 0, .string ⟨#[]⟩, .int .i64 0] 24)
  obtain ⟨hKF, hRF⟩ := fin4 hlt (kk ((Kept.refl _ w).alloc _) hK1) hR1 (.int .i64 0) (.int .i64 0) (.string ⟨#[]⟩) (.int .i64 0)
  refine bodyPost_ret (v := (GV.mk 0 0 ⟨#[]⟩ 0).val) (by simp [results, Try.results121, go_sem, f0, f1, f2, f3]) rfl ?_
  exact ⟨hKF.alloc _, Or.inl ⟨_, _, rfl, rfl, hRF.grow (gal (gre _) _)⟩⟩

set_option maxHeartbeats 1000000 in
set_option maxRecDepth 100000 in
theorem readVal_num (b : Nat) (sa : Option Addr) (cap : Nat) (bs t : List Nat) (n : Nat) (q : List Nat) (w : World) (hR : Rd w b sa cap bs (1 :: t)) (hq : Hid (rdNum 0 0 t = some (n, q))) :
    Calls Try.prog 121 #[.pointer (some ⟨b, 0, none⟩)] w (RVPost b sa cap bs (1 :: t) w) := by
  have hlt := hR.lt
  have hF0 := Four.new w ⟨0, 0, ⟨#[]⟩, 0⟩ 24
  have hn := rdNum_lt 0 0 t n q (by omega) hq.out
  go_enter Try.func121, Try.ntmps121
  go_wp2_with (first
    | (go_at_call 149; refine (readByte_any b sa cap bs (1 :: t) _ (hR.grow (gal (gre _) _))).mono ?_; rintro e w1 h1; obtain ⟨rfl, hR1, hK1⟩ := RPost.ok h1; have hF1 := hF0.kept hK1 (by omega); obtain ⟨az, a0, a1, a2, a3, af⟩ := id hF1; have hG := Four.new w1 ⟨1, 0, ⟨#[]⟩, 0⟩ 24; have hs1 := hK1.size; simp only [World.size_alloc] at hs1)
    | (go_at_call 148; refine (readNumber_any b sa cap bs t _ (hR1.grow (gal (gre _) _))).mono ?_; rintro e w2 h2; rw [hq.out] at h2; obtain ⟨rfl, hR2, hK2⟩ := RPost.ok h2; have hF2 := (hF1.alloc (.cells #[.int .i64 1, .int .i64 0, .string ⟨#[]⟩, .int .i64 0] 24)).kept hK2 (by omega); obtain ⟨bz, b0, b1, b2, b3, bf⟩ := id hF2; have hG2 := hG.kept hK2 (by omega); obtain ⟨gz, g0, g1, g2, g3, gf⟩ := id hG2; have hs2 := hK2.size; simp only [World.size_alloc] at hs2)
    | (go_at_call 150; refine (signed_any n _ hn).mono ?_; rintro e w3 ⟨rfl, hb3⟩; obtain ⟨iz, i0, i1, i2, i3, if_⟩ := hG2.kept (Kept.of_below hb3 (fun _ => False)) (fun e => e); obtain ⟨cz, c0, c1, c2, c3, cf⟩ := hF2.kept (Kept.of_below hb3 (fun _ => False)) (fun e => e)))
  have hKX := kk (kk ((kk ((Kept.refl _ w).alloc _) hK1).alloc (.cells #[.int .i64 1, .int .i64 0, .string ⟨#[]⟩, .int .i64 0] 24)) hK2) (Kept.of_below hb3 _)
  have hRX := (hR2.grow hb3).kept ((Kept.refl (fun k => k = w1.heap.size) w3).set (a := ⟨w1.heap.size, 1, none⟩) (fun _ => rfl) (.int .i64 (zag n))) (fun k hk e => by omega)
  obtain ⟨hKF, hRF⟩ := fin4 hlt (hKX.set (a := ⟨w1.heap.size, 1, none⟩) (fun h => absurd h (by show ¬ w1.heap.size < _; omega)) (.int .i64 (zag n))) hRX (.int .i64 1) (.int .i64 (zag n)) (.string ⟨#[]⟩) (.int .i64 0)
  refine bodyPost_ret (v := (GV.mk 1 (zag n) ⟨#[]⟩ 0).val) (by simp [results, Try.results121, go_sem, c0, c1, c2, c3]) rfl ?_
  exact ⟨hKF, Or.inl ⟨⟨1, (zag n), ⟨#[]⟩, 0⟩, q, by show rdVal (1 :: t) = _; simp [rdVal, hq.out], rfl, hRF⟩⟩

set_option maxHeartbeats 1000000 in
set_option maxRecDepth 100000 in
theorem readVal_num_no (b : Nat) (sa : Option Addr) (cap : Nat) (bs t : List Nat)  (w : World) (hR : Rd w b sa cap bs (1 :: t)) (hq : Hid (rdNum 0 0 t = none)) :
    Calls Try.prog 121 #[.pointer (some ⟨b, 0, none⟩)] w (RVPost b sa cap bs (1 :: t) w) := by
  have hlt := hR.lt
  have hF0 := Four.new w ⟨0, 0, ⟨#[]⟩, 0⟩ 24
  go_enter Try.func121, Try.ntmps121
  go_wp2_with (first
    | (go_at_call 149; refine (readByte_any b sa cap bs (1 :: t) _ (hR.grow (gal (gre _) _))).mono ?_; rintro e w1 h1; obtain ⟨rfl, hR1, hK1⟩ := RPost.ok h1; have hF1 := hF0.kept hK1 (by omega); obtain ⟨az, a0, a1, a2, a3, af⟩ := id hF1; have hG := Four.new w1 ⟨1, 0, ⟨#[]⟩, 0⟩ 24; have hs1 := hK1.size; simp only [World.size_alloc] at hs1)
    | (go_at_call 148; refine (readNumber_any b sa cap bs t _ (hR1.grow (gal (gre _) _))).mono ?_; rintro e w2 h2; rw [hq.out] at h2; obtain ⟨rfl, hK2⟩ := RPost.no h2))
  exact ⟨rfl, kk ((kk ((Kept.refl _ w).alloc _) hK1).alloc (.cells #[.int .i64 1, .int .i64 0, .string ⟨#[]⟩, .int .i64 0] 24)) hK2, Or.inr ⟨by show rdVal (1 :: t) = _; simp [rdVal, hq.out], rfl⟩⟩

end Go.Proofs.Ythjddpkegooobaa

/-
  RDV2: the program's reader: values. Own work.
-/
namespace Go.Proofs.Ythjddpkegooobaa
open Go.RowKit

set_option maxHeartbeats 1000000 in
set_option maxRecDepth 100000 in
theorem readVal_bits (b : Nat) (sa : Option Addr) (cap : Nat) (bs t : List Nat) (n : Int) (q : List Nat) (w : World) (hR : Rd w b sa cap bs (2 :: t)) (hq : Hid (rdLow 8 0 0 t = some (n, q))) :
    Calls Try.prog 121 #[.pointer (some ⟨b, 0, none⟩)] w (RVPost b sa cap bs (2 :: t) w) := by
  have hlt := hR.lt
  have hF0 := Four.new w ⟨0, 0, ⟨#[]⟩, 0⟩ 24
  go_enter Try.func121, Try.ntmps121
  go_wp2_with (first
    | (go_at_call 149; refine (readByte_any b sa cap bs (2 :: t) _ (hR.grow (gal (gre _) _))).mono ?_; rintro e w1 h1; obtain ⟨rfl, hR1, hK1⟩ := RPost.ok h1; have hF1 := hF0.kept hK1 (by omega); obtain ⟨az, a0, a1, a2, a3, af⟩ := id hF1; have hG := Four.new w1 ⟨2, 0, ⟨#[]⟩, 0⟩ 24; have hs1 := hK1.size; simp only [World.size_alloc] at hs1)
    | (go_at_call 138; refine (readWord_any b sa cap bs t _ (hR1.grow (gal (gre _) _))).mono ?_; rintro e w2 h2; rw [hq.out] at h2; obtain ⟨rfl, hR2, hK2⟩ := RPost.ok h2; have hF2 := (hF1.alloc (.cells #[.int .i64 2, .int .i64 0, .string ⟨#[]⟩, .int .i64 0] 24)).kept hK2 (by omega); obtain ⟨bz, b0, b1, b2, b3, bf⟩ := id hF2; have hG2 := hG.kept hK2 (by omega); obtain ⟨gz, g0, g1, g2, g3, gf⟩ := id hG2; have hs2 := hK2.size; simp only [World.size_alloc] at hs2))
  have hKX := kk ((kk ((Kept.refl _ w).alloc _) hK1).alloc (.cells #[.int .i64 2, .int .i64 0, .string ⟨#[]⟩, .int .i64 0] 24)) hK2
  have hRX := (hR2).kept ((Kept.refl (fun k => k = w1.heap.size) w2).set (a := ⟨w1.heap.size, 1, none⟩) (fun _ => rfl) (.int .i64 n)) (fun k hk e => by omega)
  obtain ⟨hKF, hRF⟩ := fin4 hlt (hKX.set (a := ⟨w1.heap.size, 1, none⟩) (fun h => absurd h (by show ¬ w1.heap.size < _; omega)) (.int .i64 n)) hRX (.int .i64 2) (.int .i64 n) (.string ⟨#[]⟩) (.int .i64 0)
  refine bodyPost_ret (v := (GV.mk 2 n ⟨#[]⟩ 0).val) (by simp [results, Try.results121, go_sem, b0, b1, b2, b3]) rfl ?_
  exact ⟨hKF, Or.inl ⟨⟨2, n, ⟨#[]⟩, 0⟩, q, by show rdVal (2 :: t) = _; simp [rdVal, hq.out], rfl, hRF⟩⟩

set_option maxHeartbeats 1000000 in
set_option maxRecDepth 100000 in
theorem readVal_bits_no (b : Nat) (sa : Option Addr) (cap : Nat) (bs t : List Nat)  (w : World) (hR : Rd w b sa cap bs (2 :: t)) (hq : Hid (rdLow 8 0 0 t = none)) :
    Calls Try.prog 121 #[.pointer (some ⟨b, 0, none⟩)] w (RVPost b sa cap bs (2 :: t) w) := by
  have hlt := hR.lt
  have hF0 := Four.new w ⟨0, 0, ⟨#[]⟩, 0⟩ 24
  go_enter Try.func121, Try.ntmps121
  go_wp2_with (first
    | (go_at_call 149; refine (readByte_any b sa cap bs (2 :: t) _ (hR.grow (gal (gre _) _))).mono ?_; rintro e w1 h1; obtain ⟨rfl, hR1, hK1⟩ := RPost.ok h1; have hF1 := hF0.kept hK1 (by omega); obtain ⟨az, a0, a1, a2, a3, af⟩ := id hF1; have hG := Four.new w1 ⟨2, 0, ⟨#[]⟩, 0⟩ 24; have hs1 := hK1.size; simp only [World.size_alloc] at hs1)
    | (go_at_call 138; refine (readWord_any b sa cap bs t _ (hR1.grow (gal (gre _) _))).mono ?_; rintro e w2 h2; rw [hq.out] at h2; obtain ⟨rfl, hK2⟩ := RPost.no h2))
  exact ⟨rfl, kk ((kk ((Kept.refl _ w).alloc _) hK1).alloc (.cells #[.int .i64 2, .int .i64 0, .string ⟨#[]⟩, .int .i64 0] 24)) hK2, Or.inr ⟨by show rdVal (2 :: t) = _; simp [rdVal, hq.out], rfl⟩⟩

set_option maxHeartbeats 1000000 in
set_option maxRecDepth 100000 in
theorem readVal_node (b : Nat) (sa : Option Addr) (cap : Nat) (bs t : List Nat) (n : Nat) (q : List Nat) (w : World) (hR : Rd w b sa cap bs (4 :: t)) (hq : Hid (rdCount 300 t = some (n, q))) :
    Calls Try.prog 121 #[.pointer (some ⟨b, 0, none⟩)] w (RVPost b sa cap bs (4 :: t) w) := by
  have hlt := hR.lt
  have hF0 := Four.new w ⟨0, 0, ⟨#[]⟩, 0⟩ 24
  go_enter Try.func121, Try.ntmps121
  go_wp2_with (first
    | (go_at_call 149; refine (readByte_any b sa cap bs (4 :: t) _ (hR.grow (gal (gre _) _))).mono ?_; rintro e w1 h1; obtain ⟨rfl, hR1, hK1⟩ := RPost.ok h1; have hF1 := hF0.kept hK1 (by omega); obtain ⟨az, a0, a1, a2, a3, af⟩ := id hF1; have hG := Four.new w1 ⟨4, 0, ⟨#[]⟩, 0⟩ 24; have hs1 := hK1.size; simp only [World.size_alloc] at hs1)
    | (go_at_call 120; refine (readCount_any b sa cap bs t 300 _ _ (hR1.grow (gal (gre _) _)) rfl (by omega)).mono ?_; rintro e w2 h2; rw [hq.out] at h2; obtain ⟨rfl, hR2, hK2⟩ := RPost.ok h2; have hF2 := (hF1.alloc (.cells #[.int .i64 4, .int .i64 0, .string ⟨#[]⟩, .int .i64 0] 24)).kept hK2 (by omega); obtain ⟨bz, b0, b1, b2, b3, bf⟩ := id hF2; have hG2 := hG.kept hK2 (by omega); obtain ⟨gz, g0, g1, g2, g3, gf⟩ := id hG2; have hs2 := hK2.size; simp only [World.size_alloc] at hs2))
  have hKX := kk ((kk ((Kept.refl _ w).alloc _) hK1).alloc (.cells #[.int .i64 4, .int .i64 0, .string ⟨#[]⟩, .int .i64 0] 24)) hK2
  have hRX := (hR2).kept ((Kept.refl (fun k => k = w1.heap.size) w2).set (a := ⟨w1.heap.size, 3, none⟩) (fun _ => rfl) (.int .i64 (n : Int))) (fun k hk e => by omega)
  obtain ⟨hKF, hRF⟩ := fin4 hlt (hKX.set (a := ⟨w1.heap.size, 3, none⟩) (fun h => absurd h (by show ¬ w1.heap.size < _; omega)) (.int .i64 (n : Int))) hRX (.int .i64 4) (.int .i64 0) (.string ⟨#[]⟩) (.int .i64 (n : Int))
  refine bodyPost_ret (v := (GV.mk 4 0 ⟨#[]⟩ (n : Int)).val) (by simp [results, Try.results121, go_sem, b0, b1, b2, b3]) rfl ?_
  exact ⟨hKF, Or.inl ⟨⟨4, 0, ⟨#[]⟩, (n : Int)⟩, q, by show rdVal (4 :: t) = _; simp [rdVal, hq.out], rfl, hRF⟩⟩

end Go.Proofs.Ythjddpkegooobaa

/-
  RDV3: the program's reader: values. Own work.
-/
namespace Go.Proofs.Ythjddpkegooobaa
open Go.RowKit

set_option maxHeartbeats 1000000 in
set_option maxRecDepth 100000 in
theorem readVal_node_no (b : Nat) (sa : Option Addr) (cap : Nat) (bs t : List Nat)  (w : World) (hR : Rd w b sa cap bs (4 :: t)) (hq : Hid (rdCount 300 t = none)) :
    Calls Try.prog 121 #[.pointer (some ⟨b, 0, none⟩)] w (RVPost b sa cap bs (4 :: t) w) := by
  have hlt := hR.lt
  have hF0 := Four.new w ⟨0, 0, ⟨#[]⟩, 0⟩ 24
  go_enter Try.func121, Try.ntmps121
  go_wp2_with (first
    | (go_at_call 149; refine (readByte_any b sa cap bs (4 :: t) _ (hR.grow (gal (gre _) _))).mono ?_; rintro e w1 h1; obtain ⟨rfl, hR1, hK1⟩ := RPost.ok h1; have hF1 := hF0.kept hK1 (by omega); obtain ⟨az, a0, a1, a2, a3, af⟩ := id hF1; have hG := Four.new w1 ⟨4, 0, ⟨#[]⟩, 0⟩ 24; have hs1 := hK1.size; simp only [World.size_alloc] at hs1)
    | (go_at_call 120; refine (readCount_any b sa cap bs t 300 _ _ (hR1.grow (gal (gre _) _)) rfl (by omega)).mono ?_; rintro e w2 h2; rw [hq.out] at h2; obtain ⟨rfl, hK2⟩ := RPost.no h2))
  exact ⟨rfl, kk ((kk ((Kept.refl _ w).alloc _) hK1).alloc (.cells #[.int .i64 4, .int .i64 0, .string ⟨#[]⟩, .int .i64 0] 24)) hK2, Or.inr ⟨by show rdVal (4 :: t) = _; simp [rdVal, hq.out], rfl⟩⟩

set_option maxHeartbeats 1000000 in
set_option maxRecDepth 100000 in
theorem readVal_text (b : Nat) (sa : Option Addr) (cap : Nat) (bs t : List Nat) (n : Nat) (q : List Nat) (s : ByteArray) (q2 : List Nat) (w : World) (hR : Rd w b sa cap bs (3 :: t)) (hq : Hid (rdCount 1000 t = some (n, q))) (hn : n ≤ 1048576) (hq2 : Hid (rdText n q = some (s, q2))) :
    Calls Try.prog 121 #[.pointer (some ⟨b, 0, none⟩)] w (RVPost b sa cap bs (3 :: t) w) := by
  have hlt := hR.lt
  have hF0 := Four.new w ⟨0, 0, ⟨#[]⟩, 0⟩ 24
  go_enter Try.func121, Try.ntmps121
  go_wp2_with (first
    | (go_at_call 149; refine (readByte_any b sa cap bs (3 :: t) _ (hR.grow (gal (gre _) _))).mono ?_; rintro e w1 h1; obtain ⟨rfl, hR1, hK1⟩ := RPost.ok h1; have hF1 := hF0.kept hK1 (by omega); obtain ⟨az, a0, a1, a2, a3, af⟩ := id hF1; have hG := Four.new w1 ⟨3, 0, ⟨#[]⟩, 0⟩ 24; have hs1 := hK1.size; simp only [World.size_alloc] at hs1)
    | (go_at_call 120; refine (readCount_any b sa cap bs t 1000 _ _ (hR1.grow (gal (gre _) _)) rfl (by omega)).mono ?_; rintro e w2 h2; rw [hq.out] at h2; obtain ⟨rfl, hR2, hK2⟩ := RPost.ok h2; have hF2 := (hF1.alloc (.cells #[.int .i64 3, .int .i64 0, .string ⟨#[]⟩, .int .i64 0] 24)).kept hK2 (by omega); obtain ⟨bz, b0, b1, b2, b3, bf⟩ := id hF2; have hG2 := hG.kept hK2 (by omega); obtain ⟨gz, g0, g1, g2, g3, gf⟩ := id hG2; have hs2 := hK2.size; simp only [World.size_alloc] at hs2)
    | (go_at_call 119; refine (readText_any b sa cap bs q n _ _ hR2 rfl hn).mono ?_; rintro e w3 h3; rw [hq2.out] at h3; obtain ⟨rfl, hR3, hK3⟩ := RPost.ok h3; obtain ⟨iz, i0, i1, i2, i3, if_⟩ := hG2.kept hK3 (by omega); obtain ⟨cz, c0, c1, c2, c3, cf⟩ := hF2.kept hK3 (by omega); have hs3 := hK3.size))
  have hKX := kk (kk ((kk ((Kept.refl _ w).alloc _) hK1).alloc (.cells #[.int .i64 3, .int .i64 0, .string ⟨#[]⟩, .int .i64 0] 24)) hK2) hK3
  have hRX := (hR3).kept ((Kept.refl (fun k => k = w1.heap.size) w3).set (a := ⟨w1.heap.size, 2, none⟩) (fun _ => rfl) (.string s)) (fun k hk e => by omega)
  obtain ⟨hKF, hRF⟩ := fin4 hlt (hKX.set (a := ⟨w1.heap.size, 2, none⟩) (fun h => absurd h (by show ¬ w1.heap.size < _; omega)) (.string s)) hRX (.int .i64 3) (.int .i64 0) (.string s) (.int .i64 0)
  refine bodyPost_ret (v := (GV.mk 3 0 s 0).val) (by simp [results, Try.results121, go_sem, c0, c1, c2, c3]) rfl ?_
  exact ⟨hKF, Or.inl ⟨⟨3, 0, s, 0⟩, q2, by show rdVal (3 :: t) = _; simp [rdVal, hq.out, hq2.out], rfl, hRF⟩⟩

set_option maxHeartbeats 1000000 in
set_option maxRecDepth 100000 in
theorem readVal_text_no (b : Nat) (sa : Option Addr) (cap : Nat) (bs t : List Nat)  (w : World) (hR : Rd w b sa cap bs (3 :: t)) (hq : Hid (rdCount 1000 t = none)) :
    Calls Try.prog 121 #[.pointer (some ⟨b, 0, none⟩)] w (RVPost b sa cap bs (3 :: t) w) := by
  have hlt := hR.lt
  have hF0 := Four.new w ⟨0, 0, ⟨#[]⟩, 0⟩ 24
  go_enter Try.func121, Try.ntmps121
  go_wp2_with (first
    | (go_at_call 149; refine (readByte_any b sa cap bs (3 :: t) _ (hR.grow (gal (gre _) _))).mono ?_; rintro e w1 h1; obtain ⟨rfl, hR1, hK1⟩ := RPost.ok h1; have hF1 := hF0.kept hK1 (by omega); obtain ⟨az, a0, a1, a2, a3, af⟩ := id hF1; have hG := Four.new w1 ⟨3, 0, ⟨#[]⟩, 0⟩ 24; have hs1 := hK1.size; simp only [World.size_alloc] at hs1)
    | (go_at_call 120; refine (readCount_any b sa cap bs t 1000 _ _ (hR1.grow (gal (gre _) _)) rfl (by omega)).mono ?_; rintro e w2 h2; rw [hq.out] at h2; obtain ⟨rfl, hK2⟩ := RPost.no h2))
  exact ⟨rfl, kk ((kk ((Kept.refl _ w).alloc _) hK1).alloc (.cells #[.int .i64 3, .int .i64 0, .string ⟨#[]⟩, .int .i64 0] 24)) hK2, Or.inr ⟨by show rdVal (3 :: t) = _; simp [rdVal, hq.out], rfl⟩⟩

end Go.Proofs.Ythjddpkegooobaa
