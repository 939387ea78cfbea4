/-
  LAW: FnExactHeadBlock, walked. Own work.
-/
import Derived.Test.YthjddpkegooobabL4c
import Derived.Test.YthjddpkegooobabBytes
namespace Go.Proofs.Ythjddpkegooobab
open Go.RowKit

/-- bytes at a place, below a bound -/
def BytesLo (B : Nat) (w : World) (a : Option Addr) (bs : List Nat) : Prop := ∀ i, i < bs.length → ∃ b off, a = some ⟨b, off, none⟩ ∧ b < B ∧ w.cell? ⟨b, off + i, none⟩ = some (.int .u8 ((bs[i]! : Nat) : Int))
theorem BytesLo.below {B : Nat} {w w' : World} {a : Option Addr} {bs : List Nat} (h : BytesLo B w a bs) (hb : Below B w w') : BytesLo B w' a bs := fun i hi => by
  obtain ⟨b, off, ha, hB, hc⟩ := h i hi
  exact ⟨b, off, ha, hB, (World.cell?_of_block (w := w) (hb.block b hB)).trans hc⟩
theorem BytesLo.at_ {B : Nat} {w : World} {a : Option Addr} {bs : List Nat} (h : BytesLo B w a bs) : BytesAt w a bs := fun i hi => by
  obtain ⟨b, off, ha, _, hc⟩ := h i hi
  exact ⟨b, off, ha, hc⟩
theorem BytesAt.lo {w : World} {a : Option Addr} {bs : List Nat} (h : BytesAt w a bs) : BytesLo w.heap.size w a bs := fun i hi => by
  obtain ⟨b, off, ha, hc⟩ := h i hi
  exact ⟨b, off, ha, World.block_lt_of_cell? _ _ hc, hc⟩
theorem MB.keptH {p : Nat → Prop} {w w' : World} {lo : Nat} {oa : Option Addr} {ys : List Nat} (h : MB w lo oa ys) (k : Kept p w w') (hp : ∀ b, lo ≤ b → b < w.heap.size → ¬ p b) : MB w' lo oa ys := by
  rcases h with rfl | ⟨G, n, rfl, hG, hB⟩
  · exact Or.inl rfl
  · exact Or.inr ⟨G, n, rfl, hG, hB.kept k (hp G hG hB.lt)⟩
theorem MB.growH {w w' : World} {lo : Nat} {oa : Option Addr} {ys : List Nat} (h : MB w lo oa ys) (k : Below w.heap.size w w') : MB w' lo oa ys := h.keptH (Kept.of_below k (fun _ => False)) (fun _ _ _ e => e)

set_option maxRecDepth 100000 in
theorem toHead_any (ok : Bool) (gen len sum : Int) (w : World) :
    Calls Try.prog 54 #[headV ok gen len sum] w fun e w' => e = .returned (headV ok gen len sum) ∧ Below w.heap.size w w' := by
  go_enter Try.func54, Try.ntmps54
  go_wp2
  exact bodyPost_ret (v := headV ok gen len sum) (by simp [results, Try.results54, go_sem]) rfl ⟨rfl, gal (gal (gal (gre _) _) _) _⟩

set_option maxHeartbeats 1000000 in
set_option maxRecDepth 100000 in
theorem lawHeadBlock (ok : Bool) (gen len sum : Int) (w : World) :
    Calls Try.prog 12 #[headV ok gen len sum] w fun e w' => e = .returned (.bool true) ∧ Below w.heap.size w w' := by
  obtain ⟨p, hp⟩ := hid_ex (headBB ok gen len sum)
  have hpl : p.length ≤ 64 := by rw [hp.out]; exact headBB_len ok gen len sum
  obtain ⟨m1, hm1'⟩ := hid_ex (1 + p.length)
  have hd3 : ¬ ((m1 : Int) < 0) := by omega
  have hd4 : ((m1 : Int) != (m1 : Int)) = false := by simp
  have hA := gal (gre w) (.cells #[.bool ok, .int .i64 gen, .int .i64 len, .int .i64 sum] 77)
  have hH0 := HBox.new w ok gen len sum 77
  go_enter Try.func12, Try.ntmps12
  obtain ⟨_, q0, q1, q2, q3⟩ := id hH0
  go_wp2_with (first
    | (go_at_call 23; rw [show (1 : Int) = ((1 : Nat) : Int) by rfl]; refine (heldByteS_any oa4 p.length c4 1 _ (by omega) (by omega) hM10.atH).mono ?_; rintro e w11 ⟨rfl, hb11⟩; rw [← hm1'.out])
    | (go_at_call 19; refine (eqByteS_same _ _ p _ _ _ (by unfold maxLen; omega) hM9.atH (hP2.below hL9).at_).mono ?_; rintro e w10 ⟨rfl, hb10⟩; have hM10 := hM7.growH (gca (gca hb8 hb9) hb10))
    | (go_at_call 55; refine (implHeadBlock_any ok gen len sum _).mono ?_; rw [← hp.out]; rintro e w9 ⟨oa9, c9, rfl, hM9, hb9⟩; have hL9 := gca (gca hL7 hb8) hb9)
    | (go_at_call 54; refine (toHead_any ok gen len sum w7).mono ?_; rintro e w8 ⟨rfl, hb8⟩)
    | (go_at_call 23; rw [show (1 : Int) = ((1 : Nat) : Int) by rfl]; refine (heldByteS_any oa4 p.length c4 1 _ (by omega) (by omega) hM6.atH).mono ?_; rintro e w7 ⟨rfl, hb7⟩; rw [← hm1'.out]; have hL7 := gca hL6 hb7; have hM7 := hM6.growH hb7; obtain ⟨_, u0, u1, u2, u3⟩ := hH6.kept (Kept.of_below hb7 (fun _ => False)) (fun e => e))
    | (go_at_call 22; rw [show (1 : Int) = ((1 : Nat) : Int) by rfl]; refine (markByteS_any oa4 p c4 1 w3.heap.size _ (by omega) (by omega) hM5).mono ?_; rintro e w6 ⟨rfl, hM6, hK6⟩; rw [← hm1'.out]; have hL6 := hL5.trans (hK6.below (B := w2.heap.size) hL5.size (fun k hk hp => by have := hb3.size; omega)); have hH6 := hH5.kept hK6 (fun hp => by have := hb3.size; have := hb2.size; have := hb1.size; have := hH0.lt; omega))
    | (go_at_call 19; refine (eqByteS_same _ _ p _ _ _ (by unfold maxLen; omega) hM4.atH (hP2.below hL4).at_).mono ?_; rintro e w5 ⟨rfl, hb5⟩; have hM5 := hM4.growH hb5; have hL5 := gca hL4 hb5; have hH5 := hH2.kept (Kept.of_below (gca (gca hb3 hb4) hb5) (fun _ => False)) (fun e => e))
    | (go_at_call 55; refine (implHeadBlock_any ok gen len sum w3).mono ?_; rw [← hp.out]; rintro e w4 ⟨oa4, c4, rfl, hM4, hb4⟩; have hL4 := gca hb3 hb4)
    | (go_at_call 54; refine (toHead_any ok gen len sum w2).mono ?_; rintro e w3 ⟨rfl, hb3⟩)
    | (go_at_call 53; refine (specHeadBlock_any ok gen len sum w1).mono ?_; rw [← hp.out]; rintro e w2 ⟨oa2, c2, rfl, hP, hb2⟩; have hP2 := hP.lo; have hH2 := hH0.kept (Kept.of_below (gca hb1 hb2) (fun _ => False)) (fun e => e); obtain ⟨_, t0, t1, t2, t3⟩ := id hH2)
    | (go_at_call 54; refine (toHead_any ok gen len sum _).mono ?_; rintro e w1 ⟨rfl, hb1⟩))
  go_ret
  exact ⟨rfl, gca hA (gca (gca hb1 hb2) (gca (gca hL9 hb10) hb11))⟩

end Go.Proofs.Ythjddpkegooobab
