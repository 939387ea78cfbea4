import Derived.Test.YthjddpkegooobacGreatDoorCards
import Derived.Test.YthjddpkegooobacGreatDoorTie
import Derived.ShutString
import Derived.ChangeOld
import Derived.ChangeSame
import Derived.ChangeVars
import Derived.JoinedOf
import Derived.RowKit
import Derived.RowKitTokens
import Derived.LaidLaws
import Derived.LaidHandle
import Derived.Stop.Joined
import Derived.SevenTiedAt
import Derived.Test.YthjddpkegooobacGreatDoorPartS

/-
  TAKED: the specification is asked what is taken up. Own work.
-/
namespace Go.Proofs.YthjddpkegooobacGreatDoor
open Go.RowKit

/-- what the specification takes up -/
def TSp (t : TK) (w : World) (e : Ending) (w' : World) : Prop := ∃ na nc, e = .returned (t.val na nc) ∧ NodesAt w'.heap.size w' na t.g.nodes ∧ Below w.heap.size w w'

set_option maxHeartbeats 4000000 in
set_option maxRecDepth 100000 in
theorem specTake_any (d : DD) (l : DL) (w : World) (hd : d.Ok) (ha : DAt w l d) : Calls Tryz.prog 6 #[d.val l] w (TSp d.takeT w) := by
  have hA := gal (gal (gre w) (.cells #[.slice l.ba d.blocks.length l.bc, .slice l.wa d.waiting.length l.wc] 37)) (.cells #[.int .i64 0, .int .i64 0, .int .i64 0, .int .i64 0, .string ⟨#[]⟩, .int .i64 0, .slice none 0 0] 33)
  have hX0 := (DBox.new w d l 37).grow (gal (gre _) (.cells #[.int .i64 0, .int .i64 0, .int .i64 0, .int .i64 0, .string ⟨#[]⟩, .int .i64 0, .slice none 0 0] 33))
  have hR0 := V7.new_at (w.alloc (.cells #[.slice l.ba d.blocks.length l.bc, .slice l.wa d.waiting.length l.wc] 37)) (.int .i64 0) (.int .i64 0) (.int .i64 0) (.int .i64 0) (.string ⟨#[]⟩) (.int .i64 0) (.slice none 0 0) 33 (w.heap.size + 1) (by simp)
  cases hok : d.ok with
  | false =>
    have ht : d.takeT = ⟨3, 0, zeroG⟩ := if_pos hok
    have ht' : Hid _ := ht
    have hok' : Hid _ := hok
    clear hok ht
    rw [ht'.out]
    go_enter Tryz.func6, Tryz.ntmps6
    go_wp2_with (go_at_call 25; refine (specDiskOk_any d l _ hd (ha.grow hA)).mono ?_; rintro e w2 ⟨rfl, hb2⟩; rw [hok'.out]; have hR2 := hR0.grow hb2; obtain ⟨_, r0, r1, r2, r3, r4, r5, r6, rf_⟩ := id hR2)
    have hA2 := gca hA hb2
    obtain ⟨hV9, hK9⟩ := hR2.put (.int .i64 3) (.int .i64 0) (.int .i64 0) (.int .i64 0) (.string ⟨#[]⟩) (.int .i64 0) (.slice none 0 0)
    generalize (((((((w2.setCell ⟨w.heap.size + 1, 0, none⟩ (.int .i64 3)).setCell ⟨w.heap.size + 1, 1, none⟩ (.int .i64 0)).setCell ⟨w.heap.size + 1, 2, none⟩ (.int .i64 0)).setCell ⟨w.heap.size + 1, 3, none⟩ (.int .i64 0)).setCell ⟨w.heap.size + 1, 4, none⟩ (.string ⟨#[]⟩)).setCell ⟨w.heap.size + 1, 5, none⟩ (.int .i64 0)).setCell ⟨w.heap.size + 1, 6, none⟩ (.slice none 0 0)) = w9 at hV9 hK9 ⊢
    obtain ⟨_, q0, q1, q2, q3, q4, q5, q6, _⟩ := id hV9
    exact bodyPost_ret (v := (TK.mk 3 0 zeroG).val none 0) (by simp [results, Tryz.results6, go_sem, q0, q1, q2, q3, q4, q5, q6, zeroG]) rfl ⟨none, 0, rfl, fun i hi => absurd hi (Nat.not_lt_zero _), hA2.trans (hK9.below hA2.size (fun z hz e => by omega))⟩
  | true =>
    have hok' : Hid _ := hok
    have hf := DD.fit hok
    obtain ⟨k, hk⟩ := hid_ex d.newestOf
    have hkb := newest_byteT hf hd
    rw [← hk.out] at hkb
    obtain ⟨hkb1, hkb2⟩ := hkb
    cases hko : k.ok with
    | false =>
      have ht : d.takeT = ⟨1, 0, zeroG⟩ := (if_neg (by rw [hok]; simp)).trans (if_pos (by rw [← hk.out]; exact hko))
      have ht' : Hid _ := ht
      have hko' : Hid _ := hko
      clear hok ht hko
      rw [ht'.out]
      go_enter Tryz.func6, Tryz.ntmps6
      go_upto_region 4 with (first
        | (go_at_call 25; refine (specDiskOk_any d l _ hd (ha.grow hA)).mono ?_; rintro e w2 ⟨rfl, hb2⟩; rw [hok'.out]; obtain ⟨_, x0, x1⟩ := hX0.grow hb2)
        | (go_at_call 26; refine (l4newest_any d l _ hf hd (ha.grow (gca hA hb2))).mono ?_; rw [← hk.out]; rintro e w3 ⟨oa, oc, rfl, hcp, hbt, _, hb3⟩))
      have hV4 := V4.new_at w3 (.bool k.ok) (.int .i64 k.gen) (.int .i64 k.slot) (.slice oa k.bytes.length oc) 60 w3.heap.size rfl
      have hb4 := gal (gca (gca hA hb2) hb3) (.cells #[.bool k.ok, .int .i64 k.gen, .int .i64 k.slot, .slice oa k.bytes.length oc] 60)
      have hR4 := (hR0.grow hb2).grow (gal hb3 (.cells #[.bool k.ok, .int .i64 k.gen, .int .i64 k.slot, .slice oa k.bytes.length oc] 60))
      generalize w3.alloc (.cells #[.bool k.ok, .int .i64 k.gen, .int .i64 k.slot, .slice oa k.bytes.length oc] 60) = w4 at hV4 hb4 hR4 ⊢
      rw [hko'.out] at hV4
      obtain ⟨_, v0, v1, v2, v3, vf⟩ := id hV4
      obtain ⟨_, r0, r1, r2, r3, r4, r5, r6, rf_⟩ := id hR4
      clear x0 x1
      go_wp2
      obtain ⟨hV9, hK9⟩ := hR4.put (.int .i64 1) (.int .i64 0) (.int .i64 0) (.int .i64 0) (.string ⟨#[]⟩) (.int .i64 0) (.slice none 0 0)
      generalize (((((((w4.setCell ⟨w.heap.size + 1, 0, none⟩ (.int .i64 1)).setCell ⟨w.heap.size + 1, 1, none⟩ (.int .i64 0)).setCell ⟨w.heap.size + 1, 2, none⟩ (.int .i64 0)).setCell ⟨w.heap.size + 1, 3, none⟩ (.int .i64 0)).setCell ⟨w.heap.size + 1, 4, none⟩ (.string ⟨#[]⟩)).setCell ⟨w.heap.size + 1, 5, none⟩ (.int .i64 0)).setCell ⟨w.heap.size + 1, 6, none⟩ (.slice none 0 0)) = w9 at hV9 hK9 ⊢
      obtain ⟨_, q0, q1, q2, q3, q4, q5, q6, _⟩ := id hV9
      exact bodyPost_ret (v := (TK.mk 1 0 zeroG).val none 0) (by simp [results, Tryz.results6, go_sem, q0, q1, q2, q3, q4, q5, q6, zeroG]) rfl ⟨none, 0, rfl, fun i hi => absurd hi (Nat.not_lt_zero _), hb4.trans (hK9.below hb4.size (fun z hz e => by omega))⟩
    | true =>
      obtain ⟨ok, hbo⟩ := hid_ex (unB k.bytes).1
      obtain ⟨u, hu⟩ := hid_ex (unB k.bytes).2
      obtain ⟨tt, htt⟩ := hid_ex d.takeT
      rw [← htt.out]
      go_enter Tryz.func6, Tryz.ntmps6
      go_upto_region 7 with (first
        | (go_at_call 25; refine (specDiskOk_any d l _ hd (ha.grow hA)).mono ?_; rintro e w2 ⟨rfl, hb2⟩; rw [hok'.out]; obtain ⟨_, x0, x1⟩ := hX0.grow hb2)
        | (go_at_call 26; refine (l4newest_any d l _ hf hd (ha.grow (gca hA hb2))).mono ?_; rw [← hk.out]; rintro e w3 ⟨oa, oc, rfl, hcp, hbt, _, hb3⟩)
        | (go_at_call 27; refine (specUnpack_K oa oc k.bytes _ (hbt.grow (gal (gre _) (.cells #[.bool true, .int .i64 k.gen, .int .i64 k.slot, .slice oa k.bytes.length oc] 60))) hcp.out (by unfold maxLen; omega) hkb1).mono ?_; rintro e w5 ⟨ua, uc, rfl, _, hN5, hgs, hb5⟩; rw [sUnB_eq _ hgs, ← hu.out] at hN5; rw [sUnB_eq _ hgs, ← hbo.out, ← hu.out]))
      have hV4 := V4.new_at w3 (.bool true) (.int .i64 k.gen) (.int .i64 k.slot) (.slice oa k.bytes.length oc) 60 w3.heap.size rfl
      have hb4 := gal (gca (gca hA hb2) hb3) (.cells #[.bool true, .int .i64 k.gen, .int .i64 k.slot, .slice oa k.bytes.length oc] 60)
      have hR4 := (hR0.grow hb2).grow (gal hb3 (.cells #[.bool true, .int .i64 k.gen, .int .i64 k.slot, .slice oa k.bytes.length oc] 60))
      generalize w3.alloc (.cells #[.bool true, .int .i64 k.gen, .int .i64 k.slot, .slice oa k.bytes.length oc] 60) = w4 at hV4 hb4 hR4 hb5 hN5 ⊢
      generalize w3.heap.size = PK at hV4 ⊢
      have hS6 := Six.new w5 ok u.root (.slice ua u.nodes.length uc) 63
      have hb6 := gal hb5 (.cells #[.bool ok, .int .i64 u.root.kind, .int .i64 u.root.num, .string u.root.text, .int .i64 u.root.node, .slice ua u.nodes.length uc] 63)
      have hKu : Kept (fun z => z < w4.heap.size) w5 (w5.alloc (.cells #[.bool ok, .int .i64 u.root.kind, .int .i64 u.root.num, .string u.root.text, .int .i64 u.root.node, .slice ua u.nodes.length uc] 63)) := (Kept.refl _ w5).alloc _
      have hR4l := hR4.lt
      have hV6 := hV4.grow hb6
      have hR6 := hR4.grow hb6
      have hA6 := gca hb4 hb6
      generalize w5.alloc (.cells #[.bool ok, .int .i64 u.root.kind, .int .i64 u.root.num, .string u.root.text, .int .i64 u.root.node, .slice ua u.nodes.length uc] 63) = w6 at hS6 hb6 hV6 hR6 hA6 hKu ⊢
      generalize w5.heap.size = PU at hS6 ⊢
      obtain ⟨_, v0, v1, v2, v3, vf⟩ := id hV6
      obtain ⟨_, s0, s1, s2, s3, s4, s5, sf⟩ := id hS6
      obtain ⟨_, r0, r1, r2, r3, r4, r5, r6, rf_⟩ := id hR6
      have hR6l := hR6.lt
      cases ok with
      | false =>
        have ht : tt = ⟨2, k.gen, zeroG⟩ := htt.out.trans ((if_neg (by rw [hok]; simp)).trans ((if_neg (by rw [← hk.out, hko]; simp)).trans ((if_pos (by rw [← hk.out]; exact hbo.out.symm)).trans (by rw [← hk.out]))))
        have ht' : Hid _ := ht
        clear ht hok hko
        go_wp2
        obtain ⟨hV9, hK9⟩ := hR6.put (.int .i64 2) (.int .i64 k.gen) (.int .i64 0) (.int .i64 0) (.string ⟨#[]⟩) (.int .i64 0) (.slice none 0 0)
        generalize (((((((w6.setCell ⟨w.heap.size + 1, 0, none⟩ (.int .i64 2)).setCell ⟨w.heap.size + 1, 1, none⟩ (.int .i64 k.gen)).setCell ⟨w.heap.size + 1, 2, none⟩ (.int .i64 0)).setCell ⟨w.heap.size + 1, 3, none⟩ (.int .i64 0)).setCell ⟨w.heap.size + 1, 4, none⟩ (.string ⟨#[]⟩)).setCell ⟨w.heap.size + 1, 5, none⟩ (.int .i64 0)).setCell ⟨w.heap.size + 1, 6, none⟩ (.slice none 0 0)) = w9 at hV9 hK9 ⊢
        obtain ⟨_, q0, q1, q2, q3, q4, q5, q6, _⟩ := id hV9
        exact bodyPost_ret (v := (TK.mk 2 k.gen zeroG).val none 0) (by simp [results, Tryz.results6, go_sem, q0, q1, q2, q3, q4, q5, q6, zeroG]) rfl (by rw [ht'.out]; exact ⟨none, 0, rfl, fun i hi => absurd hi (Nat.not_lt_zero _), hA6.trans (hK9.below hA6.size (fun z hz e => by omega))⟩)
      | true =>
        have ht : tt = ⟨0, k.gen, u⟩ := htt.out.trans ((if_neg (by rw [hok]; simp)).trans ((if_neg (by rw [← hk.out, hko]; simp)).trans ((if_neg (by rw [← hk.out, ← hbo.out]; simp)).trans (by rw [← hk.out, ← hu.out]))))
        have ht' : Hid _ := ht
        clear ht hok hko
        go_wp2
        obtain ⟨hV9, hK9⟩ := hR6.put (.int .i64 0) (.int .i64 k.gen) (.int .i64 u.root.kind) (.int .i64 u.root.num) (.string u.root.text) (.int .i64 u.root.node) (.slice ua u.nodes.length uc)
        have hN9 := hN5 _ (hKu.trans (hK9.mono (q := fun z => z < w4.heap.size) (fun k _ e => by omega)) (fun _ _ e => e))
        generalize (((((((w6.setCell ⟨w.heap.size + 1, 0, none⟩ (.int .i64 0)).setCell ⟨w.heap.size + 1, 1, none⟩ (.int .i64 k.gen)).setCell ⟨w.heap.size + 1, 2, none⟩ (.int .i64 u.root.kind)).setCell ⟨w.heap.size + 1, 3, none⟩ (.int .i64 u.root.num)).setCell ⟨w.heap.size + 1, 4, none⟩ (.string u.root.text)).setCell ⟨w.heap.size + 1, 5, none⟩ (.int .i64 u.root.node)).setCell ⟨w.heap.size + 1, 6, none⟩ (.slice ua u.nodes.length uc)) = w9 at hV9 hK9 hN9 ⊢
        obtain ⟨_, q0, q1, q2, q3, q4, q5, q6, _⟩ := id hV9
        exact bodyPost_ret (v := (TK.mk 0 k.gen u).val ua uc) (by simp [results, Tryz.results6, go_sem, q0, q1, q2, q3, q4, q5, q6]) rfl (by rw [ht'.out]; exact ⟨ua, uc, rfl, hN9, hA6.trans (hK9.below hA6.size (fun z hz e => by omega))⟩)

end Go.Proofs.YthjddpkegooobacGreatDoor

/-
  TAKEE: answers compared and marked. Own work.
-/
namespace Go.Proofs.YthjddpkegooobacGreatDoor
open Go.RowKit

set_option maxHeartbeats 4000000 in
set_option maxRecDepth 100000 in
theorem eqTaken_same (t : TK) (na nb : Option Addr) (nc nd : Nat) (w : World) (hg : t.g.Ok) (ha : NodesAt w.heap.size w na t.g.nodes) (hb : NodesAt w.heap.size w nb t.g.nodes) :
    Calls Tryz.prog 9 #[t.val na nc, t.val nb nd] w fun e w' => e = .returned (.bool true) ∧ Below w.heap.size w w' := by
  have hA : Below w.heap.size w ((w.alloc (.cells #[.int .i64 t.code, .int .i64 t.gen, .int .i64 t.g.root.kind, .int .i64 t.g.root.num, .string t.g.root.text, .int .i64 t.g.root.node, .slice na t.g.nodes.length nc] 33)).alloc (.cells #[.int .i64 t.code, .int .i64 t.gen, .int .i64 t.g.root.kind, .int .i64 t.g.root.num, .string t.g.root.text, .int .i64 t.g.root.node, .slice nb t.g.nodes.length nd] 33)) := gal (gal (gre w) _) _
  have h1 := (V7.new_at w (.int .i64 t.code) (.int .i64 t.gen) (.int .i64 t.g.root.kind) (.int .i64 t.g.root.num) (.string t.g.root.text) (.int .i64 t.g.root.node) (.slice na t.g.nodes.length nc) 33 w.heap.size rfl).grow (gal (gre _) (.cells #[.int .i64 t.code, .int .i64 t.gen, .int .i64 t.g.root.kind, .int .i64 t.g.root.num, .string t.g.root.text, .int .i64 t.g.root.node, .slice nb t.g.nodes.length nd] 33))
  have h2 := V7.new_at (w.alloc (.cells #[.int .i64 t.code, .int .i64 t.gen, .int .i64 t.g.root.kind, .int .i64 t.g.root.num, .string t.g.root.text, .int .i64 t.g.root.node, .slice na t.g.nodes.length nc] 33)) (.int .i64 t.code) (.int .i64 t.gen) (.int .i64 t.g.root.kind) (.int .i64 t.g.root.num) (.string t.g.root.text) (.int .i64 t.g.root.node) (.slice nb t.g.nodes.length nd) 33 (w.heap.size + 1) (by simp)
  have b0 : (t.code != t.code) = false := by simp
  have b1 : (t.gen != t.gen) = false := by simp
  go_enter Tryz.func9, Tryz.ntmps9
  go_upto_region 1 with fail
  generalize (w.alloc (.cells #[.int .i64 t.code, .int .i64 t.gen, .int .i64 t.g.root.kind, .int .i64 t.g.root.num, .string t.g.root.text, .int .i64 t.g.root.node, .slice na t.g.nodes.length nc] 33)).alloc (.cells #[.int .i64 t.code, .int .i64 t.gen, .int .i64 t.g.root.kind, .int .i64 t.g.root.num, .string t.g.root.text, .int .i64 t.g.root.node, .slice nb t.g.nodes.length nd] 33) = w1 at hA h1 h2 ⊢
  obtain ⟨_, p0, p1, p2, p3, p4, p5, p6, _⟩ := id h1
  obtain ⟨_, q0, q1, q2, q3, q4, q5, q6, _⟩ := id h2
  go_wp2_with (go_at_call 32; refine (eqGraph_same na nb nc nd t.g w1 hg (ha.grow hA) (hb.grow hA)).mono ?_; rintro e w2 ⟨rfl, hb2⟩)
  go_ret
  exact ⟨rfl, gca hA hb2⟩

set_option maxHeartbeats 4000000 in
set_option maxRecDepth 100000 in
theorem markTaken_any (t : TK) (na : Option Addr) (nc : Nat) (va : Nat → Option Addr) (vc : Nat → Nat) (k : Nat) (w : World) (hk0 : 0 < k) (hk : mEnd k t.g.nodes ≤ 1099511627776) (hl : t.g.nodes.length ≤ maxLen) (h : MG w na t.g.nodes va vc) :
    Calls Tryz.prog 12 #[t.val na nc, .int .i64 k] w fun e w' => e = .returned (.int .i64 (mEnd k t.g.nodes : Nat)) ∧ Kept (Touch na t.g.nodes.length va) w w' ∧ NodesAt w'.heap.size w' na (markNs k t.g.nodes) := by
  have hA : Below w.heap.size w (w.alloc (.cells #[.int .i64 t.code, .int .i64 t.gen, .int .i64 t.g.root.kind, .int .i64 t.g.root.num, .string t.g.root.text, .int .i64 t.g.root.node, .slice na t.g.nodes.length nc] 33)) := gal (gre w) _
  have h1 := V7.new_at w (.int .i64 t.code) (.int .i64 t.gen) (.int .i64 t.g.root.kind) (.int .i64 t.g.root.num) (.string t.g.root.text) (.int .i64 t.g.root.node) (.slice na t.g.nodes.length nc) 33 w.heap.size rfl
  go_enter Tryz.func12, Tryz.ntmps12
  go_upto_region 1 with fail
  generalize w.alloc (.cells #[.int .i64 t.code, .int .i64 t.gen, .int .i64 t.g.root.kind, .int .i64 t.g.root.num, .string t.g.root.text, .int .i64 t.g.root.node, .slice na t.g.nodes.length nc] 33) = w1 at hA h1 ⊢
  obtain ⟨_, p0, p1, p2, p3, p4, p5, p6, _⟩ := id h1
  go_wp2_with (go_at_call 37; refine (markGraph_any t.g na nc va vc k w1 hk0 hk hl (h.grow hA)).mono ?_; rintro e w2 ⟨rfl, hK2, hN2⟩)
  go_ret
  exact ⟨rfl, (Kept.of_below hA _).trans hK2 (fun _ _ e => e), hN2⟩

set_option maxHeartbeats 4000000 in
set_option maxRecDepth 100000 in
theorem heldTaken_any (t : TK) (na : Option Addr) (nc k : Nat) (w : World) (hk0 : 0 < k) (hk : mEnd k t.g.nodes ≤ 1099511627776) (hl : t.g.nodes.length ≤ maxLen) (ha : NodesAt w.heap.size w na (markNs k t.g.nodes)) :
    Calls Tryz.prog 13 #[t.val na nc, .int .i64 k] w fun e w' => e = .returned (.int .i64 (mEnd k t.g.nodes : Nat)) ∧ Below w.heap.size w w' := by
  have hA : Below w.heap.size w (w.alloc (.cells #[.int .i64 t.code, .int .i64 t.gen, .int .i64 t.g.root.kind, .int .i64 t.g.root.num, .string t.g.root.text, .int .i64 t.g.root.node, .slice na t.g.nodes.length nc] 33)) := gal (gre w) _
  have h1 := V7.new_at w (.int .i64 t.code) (.int .i64 t.gen) (.int .i64 t.g.root.kind) (.int .i64 t.g.root.num) (.string t.g.root.text) (.int .i64 t.g.root.node) (.slice na t.g.nodes.length nc) 33 w.heap.size rfl
  obtain ⟨m, hm⟩ := hid_ex (mEnd k t.g.nodes)
  have hmn : ¬ ((m : Int) < 0) := by omega
  rw [← hm.out]
  go_enter Tryz.func13, Tryz.ntmps13
  go_upto_region 1 with fail
  generalize w.alloc (.cells #[.int .i64 t.code, .int .i64 t.gen, .int .i64 t.g.root.kind, .int .i64 t.g.root.num, .string t.g.root.text, .int .i64 t.g.root.node, .slice na t.g.nodes.length nc] 33) = w1 at hA h1 ⊢
  obtain ⟨_, p0, p1, p2, p3, p4, p5, p6, _⟩ := id h1
  go_wp2_with (go_at_call 38; refine (heldGraph_any t.g na nc k w1 hk0 hk hl (ha.grow hA)).mono ?_; rintro e w2 ⟨rfl, hb2⟩; rw [← hm.out])
  go_ret
  exact ⟨rfl, gca hA hb2⟩

end Go.Proofs.YthjddpkegooobacGreatDoor

/-
  LAW: FnExactTake, walked. Own work.
-/
namespace Go.Proofs.YthjddpkegooobacGreatDoor
open Go.RowKit

theorem unB_casesT (bs : List Nat) : (unB bs).2 = zeroG ∨ (okG (unB bs).2 = true ∧ (unB bs).2.Ok) := by
  unfold unB
  cases h : rdGraph bs with
  | none => exact Or.inl rfl
  | some y =>
    obtain ⟨g, q⟩ := y
    by_cases hp : packB g = bs
    · right
      have e : (if packB g = bs then (true, g) else (false, zeroG)) = (true, g) := if_pos hp
      dsimp only
      rw [e]
      refine ⟨?_, rdGraph_ok h⟩
      by_cases ho : okG g = true ∧ (imageB g).length ≤ 4096
      · exact ho.1
      · unfold packB at hp
        rw [if_neg ho] at hp
        rw [← hp] at h
        cases h
    · left
      have e : (if packB g = bs then (true, g) else (false, zeroG)) = (false, zeroG) := if_neg hp
      dsimp only
      rw [e]
theorem zeroG_okT : zeroG.Ok := ⟨⟨small_i64 (by show (0 : Int) ≤ 0 ∧ (0 : Int) ≤ 1000000; omega), small_i64 (by show (0 : Int) ≤ 0 ∧ (0 : Int) ≤ 1000000; omega), Nat.zero_le _, small_i64 (by show (0 : Int) ≤ 0 ∧ (0 : Int) ≤ 1000000; omega)⟩, Nat.zero_le _, fun n hn => (by cases hn)⟩
theorem unB_okT (bs : List Nat) : (unB bs).2.Ok ∧ (unB bs).2.nodes.length ≤ 300 ∧ mEnd 1 (unB bs).2.nodes ≤ 1099511627776 := by
  rcases unB_casesT bs with h | ⟨h, ho⟩
  · rw [h]
    exact ⟨zeroG_okT, Nat.zero_le _, by show mEnd 1 [] ≤ _; simp [mEnd]⟩
  · obtain ⟨h1, _, h3⟩ := okG_parts h
    have h4 := mEnd_small (unB bs).2.nodes (fun n hn => (okN_parts (h3 n hn)).1) 1
    exact ⟨ho, h1, by omega⟩

theorem takeT_ok (d : DD) : d.takeT.g.Ok ∧ d.takeT.g.nodes.length ≤ 300 ∧ mEnd 1 d.takeT.g.nodes ≤ 1099511627776 := by
  have hz : zeroG.Ok ∧ zeroG.nodes.length ≤ 300 ∧ mEnd 1 zeroG.nodes ≤ 1099511627776 := ⟨zeroG_okT, Nat.zero_le _, by show mEnd 1 [] ≤ _; simp [mEnd]⟩
  unfold DD.takeT
  split
  · exact hz
  · split
    · exact hz
    · split
      · exact hz
      · exact unB_okT _

set_option maxHeartbeats 8000000 in
set_option maxRecDepth 100000 in
theorem lawTake (d : DD) (l : DL) (w : World) (hd : d.Ok) (ha : DAt w l d) (hg : w.cell? ⟨0, 0, none⟩ = some (.iface 204 (.agg #[.pointer (some ⟨1, 69, none⟩)]))) :
    Calls Tryz.prog 3 #[d.val l] w fun e w' => e = .returned (.bool true) ∧ Below w.heap.size w w' := by
  have hX0 := DBox.new w d l 25
  have hA0 := gal (gre w) (.cells #[.slice l.ba d.blocks.length l.bc, .slice l.wa d.waiting.length l.wc] 25)
  have hdz : 0 ≤ d.sz := by have := d.mend_sz 0; omega
  by_cases hs1 : d.sz ≤ 1048576
  · skip
    · have hs := DD.small hs1
      have hd1 : ¬ (1048576 - d.sz < 0) := by omega
      have hle1 : Hid (leftBy 1048576 d.sz = 1048576 - d.sz) := leftBy_pos (by omega)
      obtain ⟨mx, hmx⟩ := hid_ex (d.mend 1)
      have hm1 : d.mend 1 ≤ 1099511627776 := by have := d.mend_sz 1; omega
      have hmxn : ¬ ((mx : Int) < 0) := by omega
      obtain ⟨htO0, htl0, htm0⟩ := takeT_ok d
      obtain ⟨t, ht⟩ := hid_ex d.takeT
      rw [← ht.out] at htO0 htl0 htm0
      obtain ⟨m, hme⟩ := hid_ex (mEnd 1 t.g.nodes)
      have hmn : ¬ ((m : Int) < 0) := by omega
      have hmm : ((m : Int) != (m : Int)) = false := by simp
      have hspT := fun (l2 : DL) (u : World) (h : DAt u l2 d) => specTake_any d l2 u hd h
      have himT := fun (l2 : DL) (u : World) (h : DAt u l2 d) (hgu : u.cell? ⟨0, 0, none⟩ = some (.iface 204 (.agg #[.pointer (some ⟨1, 69, none⟩)]))) => implTake_any d l2 u hd h hgu
      rw [← ht.out] at hspT himT
      clear hs1
      go_enter Tryz.func3, Tryz.ntmps3
      go_upto_region 6 with (first
        | (go_at_call 5; refine (szDisk_any d l _ _ hd (by decide) (by decide) (ha.grow hA0)).mono ?_; rintro e w1 ⟨rfl, hb1⟩; rw [hle1.out]; obtain ⟨_, x0, x1⟩ := hX0.grow hb1)
        | (go_at_call 7; refine (toDisk_any d l _ hs (ha.grow (gca hA0 hb1))).mono ?_; rintro e w2 ⟨l2, bs2, xs2, rfl, hown2, hb2⟩)
        | (go_at_call 6; refine (hspT l2 _ hown2.at_).mono ?_; rintro e w3 ⟨n0, c0, rfl, hN0, hb3⟩))
      have hA := gal (gca (gca (gca hA0 hb1) hb2) hb3) (.cells #[.int .i64 t.code, .int .i64 t.gen, .int .i64 t.g.root.kind, .int .i64 t.g.root.num, .string t.g.root.text, .int .i64 t.g.root.node, .slice n0 t.g.nodes.length c0] 33)
      have hXA := hX0.grow (gal (gca (gca hb1 hb2) hb3) (.cells #[.int .i64 t.code, .int .i64 t.gen, .int .i64 t.g.root.kind, .int .i64 t.g.root.num, .string t.g.root.text, .int .i64 t.g.root.node, .slice n0 t.g.nodes.length c0] 33))
      have hWA := V7.new_at w3 (.int .i64 t.code) (.int .i64 t.gen) (.int .i64 t.g.root.kind) (.int .i64 t.g.root.num) (.string t.g.root.text) (.int .i64 t.g.root.node) (.slice n0 t.g.nodes.length c0) 33 w3.heap.size rfl
      have hat := hN0.grow (gal (gre w3) (.cells #[.int .i64 t.code, .int .i64 t.gen, .int .i64 t.g.root.kind, .int .i64 t.g.root.num, .string t.g.root.text, .int .i64 t.g.root.node, .slice n0 t.g.nodes.length c0] 33))
      generalize w3.alloc (.cells #[.int .i64 t.code, .int .i64 t.gen, .int .i64 t.g.root.kind, .int .i64 t.g.root.num, .string t.g.root.text, .int .i64 t.g.root.node, .slice n0 t.g.nodes.length c0] 33) = wA at hA hXA hWA hat ⊢
      generalize w3.heap.size = P0 at hWA ⊢
      obtain ⟨PA, hPA⟩ := hid_ex w.heap.size
      rw [← hPA.out] at hXA ⊢
      clear x0 x1 hb1 hb2 hb3 hown2 hN0 hX0 hA0
      obtain ⟨_, x0, x1⟩ := id hXA
      go_upto_region 7 with (go_at_call 7; refine (toDisk_any d l _ hs (ha.grow hA)).mono ?_; rintro e w4 ⟨l4, bs4, xs4, rfl, hown4, hb4⟩)
      have hxB := DBox.new w4 d l4 37
      have hbB := gal hb4 (.cells #[.slice l4.ba d.blocks.length l4.bc, .slice l4.wa d.waiting.length l4.wc] 37)
      have hmx0 := hown4.md.grow (gal (gre w4) (.cells #[.slice l4.ba d.blocks.length l4.bc, .slice l4.wa d.waiting.length l4.wc] 37))
      have hs4 : (w4.alloc (.cells #[.slice l4.ba d.blocks.length l4.bc, .slice l4.wa d.waiting.length l4.wc] 37)).heap.size = w4.heap.size + 1 := by simp
      have hs4A := hb4.size
      generalize w4.alloc (.cells #[.slice l4.ba d.blocks.length l4.bc, .slice l4.wa d.waiting.length l4.wc] 37) = wB at hxB hbB hmx0 hs4 ⊢
      generalize w4.heap.size = PX at hxB hmx0 hs4 hs4A ⊢
      have hPAl := hXA.lt
      have hP0l := hWA.lt
      have hXB := hXA.grow hbB
      have hWB := hWA.grow hbB
      generalize hsAe : wA.heap.size = sA at hmx0 hbB hs4A hPAl hP0l
      have hBwB : Below w.heap.size w wB := hA.trans (hbB.mono (by rw [← hsAe]; exact hA.size))
      clear x0 x1 hb4 hown4 hXA hWA
      obtain ⟨_, x0, x1⟩ := id hxB
      go_upto_region 8 with (go_at_call 8; refine (himT l4 _ hmx0.at_ (cell_later hBwB hg)).mono ?_; rintro e w5 ⟨ng, cg, nl, rfl, hnl, hO5, hb5⟩)
      have hGC := V7.new_at w5 (.int .i64 t.code) (.int .i64 t.gen) (.int .i64 t.g.root.kind) (.int .i64 t.g.root.num) (.string t.g.root.text) (.int .i64 t.g.root.node) (.slice ng t.g.nodes.length cg) 33 w5.heap.size rfl
      have hbC := gal hb5 (.cells #[.int .i64 t.code, .int .i64 t.gen, .int .i64 t.g.root.kind, .int .i64 t.g.root.num, .string t.g.root.text, .int .i64 t.g.root.node, .slice ng t.g.nodes.length cg] 33)
      have hOC := hO5.kept ((Kept.refl (fun _ => False) w5).alloc (.cells #[.int .i64 t.code, .int .i64 t.gen, .int .i64 t.g.root.kind, .int .i64 t.g.root.num, .string t.g.root.text, .int .i64 t.g.root.node, .slice ng t.g.nodes.length cg] 33)) (fun _ _ e => e) (fun _ _ _ _ e => e)
      have hs5B := hb5.size
      have hlo5 : ∀ b, Touch ng nl.length (fun i => nl[i]!.a) b → wB.heap.size ≤ b ∧ b < w5.heap.size := fun b hb => hO5.touch hb
      generalize w5.alloc (.cells #[.int .i64 t.code, .int .i64 t.gen, .int .i64 t.g.root.kind, .int .i64 t.g.root.num, .string t.g.root.text, .int .i64 t.g.root.node, .slice ng t.g.nodes.length cg] 33) = wC at hGC hbC hOC ⊢
      generalize w5.heap.size = PG at hGC hs5B hlo5 ⊢
      have hxC := hxB.grow hbC
      have hXC := hXB.grow hbC
      have hWC := hWB.grow hbC
      have hmxC := hmx0.grow hbC
      have hAC : Below sA wA wC := hbB.trans (hbC.mono (by omega))
      have hBwC : Below w.heap.size w wC := gca hBwB hbC
      generalize hsBe : wB.heap.size = sB at hs4 hs5B hlo5 hOC
      clear x0 x1 hO5 hb5 hxB hXB hWB hmx0 hbC hbB hBwB
      obtain ⟨_, g0, g1, g2, g3, g4, g5, g6, _⟩ := id hGC
      obtain ⟨_, q0, q1, q2, q3, q4, q5, q6, _⟩ := id hWC
      have hnO : NodesAt wC.heap.size wC ng t.g.nodes := by rw [← hnl]; exact hOC.at_
      go_upto_region 10 with (go_at_call 9; refine (eqTaken_same t ng n0 cg c0 _ htO0 hnO (hat.grow (by rw [hsAe]; exact hAC))).mono ?_; rintro e w6 ⟨rfl, hb6⟩)
      have hx6 := hxC.grow hb6
      have hX6 := hXC.grow hb6
      have hW6 := hWC.grow hb6
      have hG6 := hGC.grow hb6
      have hmx6 := hmxC.grow hb6
      have hO6 := hOC.later hb6
      have hA6 := hAC.trans (hb6.mono (by have := hAC.size; omega))
      have hBw6 := gca hBwC hb6
      clear g0 g1 g2 g3 g4 g5 g6 q0 q1 q2 q3 q4 q5 q6 hxC hXC hWC hGC hmxC hAC hBwC hnO hOC
      have hB : Below w6.heap.size w6 w6.drew := gdr (gre _)
      refine wp_regionU (fun u => DBox u PX d l4 ∧ DBox u PA d l) 99 (by kernel_rfl) ⟨hx6.grow hB, hX6.grow hB⟩ (fun _ => ?_)
      refine anyU_take (i := 0) (v := ?_) rfl (by kernel_rfl) (by kernel_rfl) (by kernel_rfl) (by kernel_rfl) (fun _ _ _ h => h) (Or.inl ⟨by rfl, ?_⟩) ⟨hx6.grow hB, hX6.grow hB⟩ ?_
      rotate_left
      · intro u hSu; obtain ⟨⟨_, s0, s1⟩, ⟨_, t0, t1⟩⟩ := hSu; go_simp <;> with_reducible rfl
      simp only [Act.put, List.getElem_toArray, List.getElem_cons_zero, List.setIfInBounds_toArray, List.set_cons_zero, List.set_cons_succ]
      refine anyU_take (i := 1) (v := ?_) rfl (by kernel_rfl) (by kernel_rfl) (by kernel_rfl) (by kernel_rfl) (fun _ _ _ h => h) (Or.inl ⟨by rfl, ?_⟩) ⟨hx6.grow hB, hX6.grow hB⟩ ?_
      rotate_left
      · intro u hSu; obtain ⟨⟨_, s0, s1⟩, ⟨_, t0, t1⟩⟩ := hSu; go_simp <;> with_reducible rfl
      simp only [Act.put, List.getElem_toArray, List.getElem_cons_zero, List.getElem_cons_succ, List.setIfInBounds_toArray, List.set_cons_zero, List.set_cons_succ]
      refine anyU_one (i := 2) (by kernel_rfl) rfl (fun K hK => ?_)
      go_simp
      refine (toDisk_any d l _ hs (ha.grow (gca hBw6 hB))).mono ?_
      rintro e w7 ⟨l7, bs7, xs7, rfl, hown7, hb7⟩
      have hB := gca hB hb7
      refine hK.out _ _ ⟨hx6.grow hB, hX6.grow hB⟩ ?_
      clear hK
      refine anyU_one (i := 3) (by kernel_rfl) rfl (fun K hK => ?_)
      go_simp
      refine (eqDisk_same d _ _ _ hd (hmx6.at_.grow hB) hown7.at_).mono ?_
      rintro e w8 ⟨rfl, hb8⟩
      have hB := gca hB hb8
      refine hK.out _ _ ⟨hx6.grow hB, hX6.grow hB⟩ ?_
      clear hK
      refine anyU_one (i := 4) (by kernel_rfl) rfl (fun K hK => ?_)
      go_simp
      refine hK.out _ _ ⟨hx6.grow hB, hX6.grow hB⟩ ?_
      clear hK
      refine anyU_done (by kernel_rfl) ?_
      have hxm := hx6.grow hB
      have hXm := hX6.grow hB
      have hWm := hW6.grow hB
      have hGm := hG6.grow hB
      have hmxm := hmx6.grow hB
      have hOm := hO6.later hB
      have hAm := hA6.trans (hB.mono (by have := hA6.size; omega))
      have hBwm := gca hBw6 hB
      clear hx6 hX6 hW6 hG6 hmx6 hO6 hA6 hBw6 hB hown7 hb7 hb8
      obtain ⟨_, x0, x1⟩ := id hxm
      go_upto_region 14 with (go_at_call 11; rw [show (1 : Int) = ((1 : Nat) : Int) by rfl]; refine (markDisk_any d l4 1 sA PX _ _ _ _ _ hs hm1 (by omega) hmxm).mono ?_; rintro e w9 ⟨rfl, _, hK9⟩; rw [← hmx.out])
      have hX9 := hXm.kept hK9 (fun e => by omega)
      have hW9 := hWm.kept hK9 (fun e => by omega)
      have hG9 := hGm.kept hK9 (fun e => by omega)
      have hO9 := hOm.kept hK9 (fun b e h => by have := (hOm.nodes.lt b (by rw [e]; rfl)).1; omega) (fun x hx b e h => by have := ((hOm.vals x hx).lt b (by rw [e]; rfl)).1; omega)
      have hA9 := hAm.trans (hK9.below (B := sA) (by have := hAm.size; omega) (fun z hz e => by omega))
      have hBw9 := hBwm.trans (hK9.below (B := w.heap.size) hBwm.size (fun z hz e => by have := hPA.out; omega))
      clear x0 x1 hxm hXm hWm hGm hmxm hAm hBwm hK9 hOm
      obtain ⟨_, g0, g1, g2, g3, g4, g5, g6, _⟩ := id hG9
      obtain ⟨_, q0, q1, q2, q3, q4, q5, q6, _⟩ := id hW9
      have hnO : NodesAt w9.heap.size w9 ng t.g.nodes := by rw [← hnl]; exact hO9.at_
      go_upto_region 16 with (go_at_call 9; refine (eqTaken_same t ng n0 cg c0 _ htO0 hnO (hat.grow (by rw [hsAe]; exact hA9))).mono ?_; rintro e w10 ⟨rfl, hb10⟩)
      have hX10 := hX9.grow hb10
      have hW10 := hW9.grow hb10
      have hG10 := hG9.grow hb10
      have hO10 := hO9.later hb10
      have hA10 := hA9.trans (hb10.mono (by have := hA9.size; omega))
      have hBw10 := gca hBw9 hb10
      clear g0 g1 g2 g3 g4 g5 g6 q0 q1 q2 q3 q4 q5 q6 hX9 hW9 hG9 hO9 hA9 hBw9 hnO
      obtain ⟨_, g0, g1, g2, g3, g4, g5, g6, _⟩ := id hG10
      have hnll : nl.length = t.g.nodes.length := by rw [← hnl, List.length_map]
      have hmg := hO10.mg
      rw [hnl] at hmg
      go_upto_region 18 with (go_at_call 12; rw [show (1 : Int) = ((1 : Nat) : Int) by rfl]; refine (markTaken_any t ng cg _ _ 1 _ (by omega) htm0 (by unfold maxLen; omega) hmg).mono ?_; rintro e w11 ⟨rfl, hK11, hM11⟩; rw [← hme.out])
      rw [← hnll] at hK11
      have hX11 := hX10.kept hK11 (fun e => by have := hlo5 _ e; omega)
      have hW11 := hW10.kept hK11 (fun e => by have := hlo5 _ e; omega)
      have hG11 := hG10.kept hK11 (fun e => by have := hlo5 _ e; omega)
      have hA11 := hA10.trans (hK11.below (B := sA) (by have := hA10.size; omega) (fun z hz e => by have := hlo5 _ e; omega))
      have hBw11 := hBw10.trans (hK11.below (B := w.heap.size) hBw10.size (fun z hz e => by have := hlo5 _ e; have := hPA.out; omega))
      clear g0 g1 g2 g3 g4 g5 g6 hX10 hW10 hG10 hO10 hA10 hBw10 hK11 hmg
      obtain ⟨_, g0, g1, g2, g3, g4, g5, g6, _⟩ := id hG11
      go_upto_region 24 with (go_at_call 13; rw [show (1 : Int) = ((1 : Nat) : Int) by rfl]; refine (heldTaken_any t ng cg 1 _ (by omega) htm0 (by unfold maxLen; omega) hM11).mono ?_; rintro e w12 ⟨rfl, hb12⟩; rw [← hme.out])
      have hX12 := hX11.grow hb12
      have hW12 := hW11.grow hb12
      have hG12 := hG11.grow hb12
      have hM12 := hM11.grow hb12
      have hA12 := hA11.trans (hb12.mono (by have := hA11.size; omega))
      have hBw12 := gca hBw11 hb12
      clear g0 g1 g2 g3 g4 g5 g6 hX11 hW11 hG11 hM11 hA11 hBw11
      obtain ⟨_, x0, x1⟩ := id hX12
      go_upto_region 25 with (first
        | (go_at_call 7; refine (toDisk_any d l _ hs (ha.grow hBw12)).mono ?_; rintro e w13 ⟨l13, bs13, xs13, rfl, hown13, hb13⟩)
        | (go_at_call 8; refine (himT l13 _ hown13.at_ (cell_later (gca hBw12 hb13) hg)).mono ?_; rintro e w14 ⟨nh, ch, nlh, rfl, hnlh, hO14, hb14⟩))
      have hHD := V7.new_at w14 (.int .i64 t.code) (.int .i64 t.gen) (.int .i64 t.g.root.kind) (.int .i64 t.g.root.num) (.string t.g.root.text) (.int .i64 t.g.root.node) (.slice nh t.g.nodes.length ch) 33 w14.heap.size rfl
      have hbD := gal (gca hb13 hb14) (.cells #[.int .i64 t.code, .int .i64 t.gen, .int .i64 t.g.root.kind, .int .i64 t.g.root.num, .string t.g.root.text, .int .i64 t.g.root.node, .slice nh t.g.nodes.length ch] 33)
      have hOD := hO14.kept ((Kept.refl (fun _ => False) w14).alloc (.cells #[.int .i64 t.code, .int .i64 t.gen, .int .i64 t.g.root.kind, .int .i64 t.g.root.num, .string t.g.root.text, .int .i64 t.g.root.node, .slice nh t.g.nodes.length ch] 33)) (fun _ _ e => e) (fun _ _ _ _ e => e)
      generalize w14.alloc (.cells #[.int .i64 t.code, .int .i64 t.gen, .int .i64 t.g.root.kind, .int .i64 t.g.root.num, .string t.g.root.text, .int .i64 t.g.root.node, .slice nh t.g.nodes.length ch] 33) = wD at hHD hbD hOD ⊢
      generalize w14.heap.size = PH at hHD ⊢
      have hWD := hW12.grow hbD
      have hGD := hG12.grow hbD
      have hMD := hM12.grow hbD
      have hAD := hA12.trans (hbD.mono (by have := hA12.size; omega))
      have hBwD := gca hBw12 hbD
      clear x0 x1 hX12 hW12 hG12 hM12 hA12 hBw12 hb13 hb14 hO14 hown13
      obtain ⟨_, g0, g1, g2, g3, g4, g5, g6, _⟩ := id hHD
      obtain ⟨_, q0, q1, q2, q3, q4, q5, q6, _⟩ := id hWD
      have hnO : NodesAt wD.heap.size wD nh t.g.nodes := by rw [← hnlh]; exact hOD.at_
      go_upto_region 27 with (go_at_call 9; refine (eqTaken_same t nh n0 ch c0 _ htO0 hnO (hat.grow (by rw [hsAe]; exact hAD))).mono ?_; rintro e w15 ⟨rfl, hb15⟩)
      have hG15 := hGD.grow hb15
      have hM15 := hMD.grow hb15
      have hBw15 := gca hBwD hb15
      clear g0 g1 g2 g3 g4 g5 g6 q0 q1 q2 q3 q4 q5 q6 hWD hGD hMD hAD hBwD hnO hOD hHD
      obtain ⟨_, g0, g1, g2, g3, g4, g5, g6, _⟩ := id hG15
      go_wp2_with (go_at_call 13; rw [show (1 : Int) = ((1 : Nat) : Int) by rfl]; refine (heldTaken_any t ng cg 1 _ (by omega) htm0 (by unfold maxLen; omega) hM15).mono ?_; rintro e w16 ⟨rfl, hb16⟩; rw [← hme.out])
      go_ret
      exact ⟨rfl, gca hBw15 hb16⟩
  · have hle1 : Hid (leftBy 1048576 d.sz = -1) := leftBy_neg (by omega)
    go_enter Tryz.func3, Tryz.ntmps3
    go_wp2_with (go_at_call 5; refine (szDisk_any d l _ _ hd (by decide) (by decide) (ha.grow hA0)).mono ?_; rintro e w1 ⟨rfl, hb1⟩; rw [hle1.out])
    go_ret
    exact ⟨rfl, gca hA0 hb1⟩

end Go.Proofs.YthjddpkegooobacGreatDoor

/-
  DONE: the row of FnExactTake, proved; then the card (the given tie closes it). Own work.
-/
namespace Go.Proofs.YthjddpkegooobacGreatDoor
open Go.ChangeShapes Go.WideShapes Go.ChangeAt Go.RowKit

set_option maxRecDepth 100000 in
theorem ownTake : ownKnob Tryz.prog.godebug = none := by kernel_rfl
theorem laidOutTake : laidOutB Tryz.prog = true := by kernel_rfl
theorem asEt : Tryz.prog.globalNamed "errors.errorType" = some 0 := by kernel_rfl
theorem asRt : (Tryz.prog.cutTypes.find? (·.1 == "internal/reflectlite.rtype")).map (·.2) = some 204 := by kernel_rfl
theorem asOneRow : ((List.range 313).filter fun t => Tryz.prog.rowNamed t [101, 114, 114, 111, 114]) = [69] := by kernel_rfl
theorem asSize : Tryz.prog.types.size = 313 := by kernel_rfl

abbrev laidL : List (String × DataW Unit) := [("errors.errorType", Rows.laid_errors_errorType)]

theorem handle_of_laid {W : World} (h : laidMetH Tryz.prog laidL W) : W.cell? ⟨0, 0, none⟩ = some (.iface 204 (.agg #[.pointer (some ⟨1, 69, none⟩)])) := by
  have h' : laidMet Tryz.prog [] W ∧ handlesMet Tryz.prog laidL W := h
  obtain ⟨name, u, ty, e1, e2, e3, e4, e5⟩ := h'.2 _ (List.mem_singleton.2 rfl)
  have en : name = [101, 114, 114, 111, 114] := (Option.some.inj e1).symm
  subst en
  obtain rfl := Option.some.inj (asRt.symm.trans e2)
  have hm : ty ∈ (List.range 313).filter fun t => Tryz.prog.rowNamed t [101, 114, 114, 111, 114] := List.mem_filter.2 ⟨List.mem_range.2 (by rw [← asSize]; exact e3), e4⟩
  rw [asOneRow] at hm
  obtain rfl := List.mem_singleton.1 hm
  have hh : typeHandle Tryz.prog 69 = .pointer (some ⟨1, 69, none⟩) := by kernel_rfl
  rw [hh] at e5
  simpa using World.var?_cell asEt e5 0

noncomputable def laidWorld (os : Os) : World :=
  let w0 := World.holding Tryz.prog os ⟨#[], #[], []⟩
  { w0 with heap := w0.heap.modify 0 fun
      | .cells _ t frozen => .cells #[.iface 204 (.agg #[.pointer (some ⟨1, 69, none⟩)])] t frozen
      | o => o }
theorem laidWorld_met (os : Os) (args : Array Value) : laidMetH Tryz.prog laidL ((laidWorld os).forCall (fun _ _ => 0) ⟨#[], args, []⟩).memory :=
  laidMetH_of_parts (laidMet_nil _ _) (by kernel_rfl)

set_option maxRecDepth 100000 in
theorem liftedTake (os : Os) (started : os.Started) (H : Type) (enc : TypeId × Value → H) :
    ReturnsInHanded {} Tryz.checked os 3 .any (fun w args => (Rows.fnExactTakeSpec.pre enc Tryz.prog Tryz.f3 [] false w args ∧ laidMetH Tryz.prog laidL w) ∧ sizedMet enc Tryz.prog Tryz.f3 (OpenSpec.ofChange Rows.fnExactTakeSpec) false w args)
      (Rows.fnExactTakeSpec.post enc Tryz.prog Tryz.f3 false true false false) := by
  refine returnsInHanded_of_change_and (C := Tryz.checked) (X := fun w _ => laidMetH Tryz.prog laidL w) (fun _ _ _ hh h => h.of_heap hh) ownTake started (by kernel_rfl) Tryz.func3
    (ChangeSpec.witness_at (enc := enc) (C := Tryz.checked) (os := os) (X := fun w _ => laidMetH Tryz.prog laidL w) false (laidWorld os) #[.agg #[.slice none 0 0, .slice none 0 0]] 8 rfl (by kernel_rfl) (by kernel_rfl) (by kernel_rfl) (by kernel_rfl) (by kernel_rfl) (laidWorld_met os _)) ?_
  intro W base args ds gs before hval0 hW _ _ hL _
  have hval : ∀ (j : Nat) t v, Tryz.f3.params[j]? = some t → args[j]? = some v → Value.okWide Tryz.prog W .any base t v := hval0
  have hW' := hW
  obtain ⟨p, q, hA0, hV, rfl, hfz, hnd⟩ := hW
  have hA : DataW.TrodAll enc Tryz.prog W 0 (fun _ => true) true Tryz.f3.params.toList args.toList ds p := hA0
  rw [Tryz.params3] at hA hval
  obtain ⟨v0, vs0, d0, ds0, p0, q0, hargs, rfl, rfl, h0, r0⟩ := trodAll_cons hA
  obtain ⟨rfl, rfl, rfl⟩ := trodAll_nil r0
  obtain rfl : args = #[v0] := by cases args; simp_all
  obtain ⟨rfl, rfl⟩ := trodVars_none hV
  have k0 := h0
  have lt0 : ∀ x ∈ p0, x.block < W.heap.size := by obtain ⟨m, hm⟩ := k0; exact DataW.trod_lt m _ _ _ hm
  obtain ⟨g, l, hg, rfl, ha⟩ := openDisk (hval 0 25 v0 rfl rfl) h0
  have hgl := handle_of_laid hL
  clear hA0 hval0
  refine (lawTake g l W hg ha hgl).mono fun e W' ⟨he, bel⟩ => ?_
  subst he
  exact ⟨_, rfl, _, _, _, [], _, [], hW', trodAll_mk1 (shut_bool Tryz.underlying4 _), (trodAll_cons_mk (Below.trod laidOutTake (by kernel_rfl) (of_decide_eq_true (by kernel_rfl)) k0 bel lt0) trodAll_mk0), rfl, bel.frame _, fun h => by cases h⟩

set_option maxRecDepth 100000 in
theorem take_row_holds : Rows.FnExactTakeSaid :=
  OpenClaim.holds_of_wide 3 Tryz.f3 rfl rfl rfl rfl rfl rfl rfl ⟨rfl, rfl, rfl, rfl, rfl⟩ rfl rfl rfl rfl rfl (by kernel_rfl) Tryz.func3 (by kernel_rfl)
    (of_decide_eq_true (by kernel_rfl)) (by unfold Func.isWrapper; first | (rw [if_pos (by decide +kernel)]; kernel_rfl) | (rw [if_neg (by decide +kernel)]; exact ⟨rfl, rfl⟩))
    (fun os started H enc _ => liftedTake os started H enc)

set_option maxRecDepth 100000 in
theorem take_card_holds : Rows.FnExactTakeCardSaid :=
  Claim7.holds_tied_plain_at .later [] [.handle] true (true, "79f80a209d3db358829380292b781817fe38d943028dc76762a4740bab2bf752") true
    take_row_holds (fun _ h => by cases h) (by kernel_rfl) (fun _ h => by cases h) fnExactTake_row_tie rfl ⟨rfl, rfl⟩ (by kernel_rfl) rfl
    (fun f fn hf hfn => by
      obtain rfl : f = 3 := Option.some.inj ((show Tryz.prog.funcNamed "loop.example/chest/laws.FnExactTake" = some 3 by kernel_rfl).symm.trans hf) |>.symm
      obtain rfl : fn = Tryz.f3 := (Option.some.inj (Tryz.func3.symm.trans hfn)).symm
      exact ⟨by kernel_rfl, fun j t ht => by
        rw [Tryz.params3] at ht
        have h3 : t = 25 := by
          rcases j with _ | j
          · simpa using ht.symm
          · simp at ht
        subst h3
        exact (show Tryz.prog.wantsStandIn 25 = false by kernel_rfl)⟩)
    (by kernel_rfl)

end Go.Proofs.YthjddpkegooobacGreatDoor
