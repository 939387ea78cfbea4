/-
  ICRASH: the program's Crash. Own work.
-/
import Derived.Test.YthjddpkegooobabISyncA
import Derived.Test.YthjddpkegooobabDPow2
import Derived.Test.YthjddpkegooobabIBlank
import Derived.Laws.EntriesVeiled
namespace Go.Proofs.Ythjddpkegooobab
open Go.RowKit

set_option maxHeartbeats 1000000 in
set_option maxRecDepth 100000 in
theorem implCrash_any (d : DD) (l : DL) (ka : Option Addr) (ks : List Bool) (kc : Nat) (w : World) (hd : d.Ok) (ha : DAt w l d) (hkl : ks.length ≤ maxLen) (hk0 : BoolsAt w ka ks) : Calls Try.prog 47 #[d.val l, .slice ka ks.length kc] w (DPost (d.settle (keepOf ks)) w) := by
  have hmf : ∀ (fn : Fn) (first cap : Array Value) (w : World), (Instr.makeFunc fn first cap).run Try.prog w = .ok (.func fn first cap) w := fun _ _ _ _ => rfl
  have hA := gal (gal (gal (gre w) (.cells #[.slice l.ba d.blocks.length l.bc, .slice l.wa d.waiting.length l.wc] 50)) (.cells #[.slice ka ks.length kc] 67)) (.cells #[.slice none 0 0, .slice none 0 0] 50)
  have hX0 := (DBox.new w d l 50).grow (gal (gal (gre _) (.cells #[.slice ka ks.length kc] 67)) (.cells #[.slice none 0 0, .slice none 0 0] 50))
  have hR0 := VB.new_at ((w.alloc (.cells #[.slice l.ba d.blocks.length l.bc, .slice l.wa d.waiting.length l.wc] 50)).alloc (.cells #[.slice ka ks.length kc] 67)) (.slice none 0 0) (.slice none 0 0) 50 (w.heap.size + 1 + 1) (by simp)
  have hK0 : (((w.alloc (.cells #[.slice l.ba d.blocks.length l.bc, .slice l.wa d.waiting.length l.wc] 50)).alloc (.cells #[.slice ka ks.length kc] 67)).alloc (.cells #[.slice none 0 0, .slice none 0 0] 50)).cell? ⟨w.heap.size + 1, 0, none⟩ = some (.slice ka ks.length kc) := by
    have e1 : (w.alloc (.cells #[.slice l.ba d.blocks.length l.bc, .slice l.wa d.waiting.length l.wc] 50)).heap.size = w.heap.size + 1 := by simp
    refine cell_later (gal (gre _) _) ?_
    rw [← e1]; simp
  have hkf0 : ∀ b off, ka = some ⟨b, off, none⟩ → 0 < ks.length → b < w.heap.size := fun b off e h0 => by
    obtain ⟨b', off', e', hc'⟩ := hk0 0 h0
    have h1 := World.block_lt_of_cell? _ _ hc'
    rw [e] at e'
    have h2 := congrArg (fun q => q.map Addr.block) e'
    simp at h1 h2
    omega
  cases hok : d.ok with
  | false =>
    have hok' : Hid _ := hok
    clear hok
    rw [settle_no hok'.out]
    go_enter Try.func47, Try.ntmps47
    go_wp2_with (go_at_call 38; refine (implDiskOk_any d l _ hd (ha.grow hA)).mono ?_; rintro e w2 ⟨rfl, hb2⟩; rw [hok'.out]; obtain ⟨z0, z1, zf⟩ := hR0.grow hb2)
    obtain ⟨c0, c1, K⟩ := ret2 (A := .slice none 0 0) (B := .slice none 0 0) z0 z1
    refine bodyPost_ret (v := .agg #[.slice none 0 0, .slice none 0 0]) (by simp [results, Try.results47, go_sem, c0, c1]) rfl (DPost.zero ?_)
    exact (gca hA hb2).trans (K.below (gca hA hb2).size (fun z hz e => by omega))
  | true =>
    have hok' : Hid _ := hok
    clear hok
    have hfit := DD.fit hok'.out
    rw [settle_yes hok'.out]
    obtain ⟨d', hd'⟩ := hid_ex (DD.mk (settleN (keepOf ks) d.blocks d.waiting d.waiting.length) [])
    rw [← hd'.out]
    go_enter Try.func47, Try.ntmps47
    go_upto_region 4 with (first
      | (go_at_call 38; refine (implDiskOk_any d l _ hd (ha.grow hA)).mono ?_; rintro e w2 ⟨rfl, hb2⟩; rw [hok'.out]; obtain ⟨_, x0, x1⟩ := hX0.grow hb2)
      | (go_at_call 104; refine (driveOf_any d l _ hfit (ha.grow (gca hA hb2))).mono ?_; rintro e w3 ⟨p, pa, pc, rfl, hp3, hDr, hb3⟩))
    have hR3 := (hR0.grow hb2).grow hb3
    have hb3A := gca (gca hA hb2) hb3
    have hRp : w.heap.size + 1 + 1 < p := by have := (hR0.grow hb2).lt; omega
    have hwp : w.heap.size ≤ p := by have := (gca hA hb2).size; omega
    have hkp : ∀ b off, ka = some ⟨b, off, none⟩ → 0 < ks.length → b < p := fun b off e h0 => Nat.lt_of_lt_of_le (hkf0 b off e h0) hwp
    have kf := hDr.d.kf
    have kz := hDr.d.frozen (o := 8321) (by decide)
    have hKc3 := cell_later hb3 (cell_later hb2 hK0)
    have hKb3 := hk0.grow hb3A
    go_upto_region 5 with fail
    have hD4 := hDr.d.setK (.func (.func 112) #[] #[.pointer (some ⟨w.heap.size + 1, 0, none⟩)])
    have K4 := Kept.one w3 p 8321 (.func (.func 112) #[] #[.pointer (some ⟨w.heap.size + 1, 0, none⟩)])
    have hO4 := K4.owns hDr.own (fun z hz e => by have := (hDr.own.lt z hz).1; omega)
    have hR4 := hR3.kept K4 (by omega)
    have hb4 := hb3A.trans (K4.below hb3A.size (fun z hz e => by omega))
    have hDr4 : Dr (w3.setCell ⟨p, 8321, none⟩ (.func (.func 112) #[] #[.pointer (some ⟨w.heap.size + 1, 0, none⟩)])) p d.blocks pa pc d.waiting (.func (.func 112) #[] #[.pointer (some ⟨w.heap.size + 1, 0, none⟩)]) := ⟨hD4, hO4, hDr.w64⟩
    have hKc4 := K4.cell hKc3 (by omega)
    have hKb4 : BoolsAt _ ka ks := hKb3.below (K4.below (B := p) (Nat.le_of_lt hDr.d.lt) (fun z hz e => by omega)) hkp
    generalize w3.setCell ⟨p, 8321, none⟩ (.func (.func 112) #[] #[.pointer (some ⟨w.heap.size + 1, 0, none⟩)]) = w4 at hD4 K4 hO4 hR4 hb4 hDr4 hKc4 hKb4 ⊢
    clear hD4 K4 hO4 hDr kf kz hR3 hb3A
    go_upto_region 6 with (go_at_call 113; refine (powerCrash_any p d.blocks pa pc d.waiting (w.heap.size + 1) ka ks kc _ (by have := hfit.wl; omega) (fun x hx => ⟨(hfit.wb x hx).1, (hfit.wb x hx).2.1⟩) hkl (by omega) hKc4 hKb4 hkp hDr4).mono ?_; rintro e w5 ⟨rfl, hDr5, hb5⟩)
    have hR5 := hR4.below hb5 hRp
    have hb5A := hb4.trans (hb5.mono hwp)
    go_upto_region 99 with (go_at_call 90; refine (disk_any p _ none 0 [] _ _ (by decide) hDr5).mono ?_; rw [← hd'.out]; rintro e w6 ⟨l6, fa, ga, fc, gc, rfl, hmd, hb6⟩; obtain ⟨z0, z1, zf⟩ := hR5.grow hb6)
    obtain ⟨c0, c1, K⟩ := ret2 (A := .slice l6.ba d'.blocks.length l6.bc) (B := .slice l6.wa d'.waiting.length l6.wc) z0 z1
    have hb6A := gca hb5A hb6
    refine bodyPost_ret (v := d'.val l6) (by simp [results, Try.results47, go_sem, c0, c1]) rfl ⟨l6, fa, ga, fc, gc, rfl, hmd.last K (by have := hR5.lt; omega) (by have := hb5A.size; omega) K.size, ?_⟩
    exact hb6A.trans (K.below hb6A.size (fun z hz e => by omega))

end Go.Proofs.Ythjddpkegooobab
