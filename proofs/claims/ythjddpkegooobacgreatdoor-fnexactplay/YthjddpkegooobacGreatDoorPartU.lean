import Derived.Laws.BytesArg
import Derived.Deep.QuietTactic
import Derived.BigQuiet
import Derived.WalkSmall
import Derived.Laws.EntriesVeiled
import Derived.Deep.OwnRows
import Derived.Test.YthjddpkegooobacGreatDoorPartT
namespace Go.Proofs.YthjddpkegooobacGreatDoor
open Go.RowKit
set_option maxRecDepth 100000
set_option maxHeartbeats 8000000
def TSpK (t : TK) (w : World) (e : Ending) (w' : World) : Prop := ∃ na nc, e = .returned (t.val na nc) ∧ (∀ w'', Kept (fun z => z < w.heap.size) w' w'' → NodesAt w''.heap.size w'' na t.g.nodes) ∧ Below w.heap.size w w'
theorem specTake_K (d : DD) (l : DL) (w : World) (hd : d.Ok) (ha : DAt w l d) : Calls Tryz.prog 6 #[d.val l] w (TSpK d.takeT w) := by
 have hA := gal (gal (gre w) (.cells #[.slice l.ba d.blocks.length l.bc, .slice l.wa d.waiting.length l.wc] 37)) (.cells #[.int .i64 0, .int .i64 0, .int .i64 0, .int .i64 0, .string ⟨#[]⟩, .int .i64 0, .slice none 0 0] 33)
 have hX0 := (DBox.new w d l 37).grow (gal (gre _) (.cells #[.int .i64 0, .int .i64 0, .int .i64 0, .int .i64 0, .string ⟨#[]⟩, .int .i64 0, .slice none 0 0] 33))
 have hR0 := V7.new_at (w.alloc (.cells #[.slice l.ba d.blocks.length l.bc, .slice l.wa d.waiting.length l.wc] 37)) (.int .i64 0) (.int .i64 0) (.int .i64 0) (.int .i64 0) (.string ⟨#[]⟩) (.int .i64 0) (.slice none 0 0) 33 (w.heap.size + 1) (by simp)
 cases hok : d.ok with
 | false =>
  have ht : d.takeT = ⟨3, 0, zeroG⟩ := if_pos hok
  have ht' : Hid _ := ht
  have hok' : Hid _ := hok
  clear hok ht
  rw [ht'.out]
  go_enter Tryz.func6, Tryz.ntmps6
  go_wp2_with (go_at_call 25; refine (specDiskOk_any d l _ hd (ha.grow hA)).mono ?_; rintro e w2 ⟨rfl, hb2⟩; rw [hok'.out]; have hR2 := hR0.grow hb2; obtain ⟨_, r0, r1, r2, r3, r4, r5, r6, rf_⟩ := id hR2)
  have hA2 := gca hA hb2
  obtain ⟨hV9, hK9⟩ := hR2.put (.int .i64 3) (.int .i64 0) (.int .i64 0) (.int .i64 0) (.string ⟨#[]⟩) (.int .i64 0) (.slice none 0 0)
  generalize (((((((w2.setCell ⟨w.heap.size + 1, 0, none⟩ (.int .i64 3)).setCell ⟨w.heap.size + 1, 1, none⟩ (.int .i64 0)).setCell ⟨w.heap.size + 1, 2, none⟩ (.int .i64 0)).setCell ⟨w.heap.size + 1, 3, none⟩ (.int .i64 0)).setCell ⟨w.heap.size + 1, 4, none⟩ (.string ⟨#[]⟩)).setCell ⟨w.heap.size + 1, 5, none⟩ (.int .i64 0)).setCell ⟨w.heap.size + 1, 6, none⟩ (.slice none 0 0)) = w9 at hV9 hK9 ⊢
  obtain ⟨_, q0, q1, q2, q3, q4, q5, q6, _⟩ := id hV9
  exact bodyPost_ret (v := (TK.mk 3 0 zeroG).val none 0) (by simp [results, Tryz.results6, go_sem, q0, q1, q2, q3, q4, q5, q6, zeroG]) rfl ⟨none, 0, rfl, fun _ _ i hi => absurd hi (Nat.not_lt_zero _), hA2.trans (hK9.below hA2.size (fun z hz e => by omega))⟩
 | true =>
  have hok' : Hid _ := hok
  have hf := DD.fit hok
  obtain ⟨k, hk⟩ := hid_ex d.newestOf
  have hkb := newest_byteT hf hd
  rw [← hk.out] at hkb
  obtain ⟨hkb1, hkb2⟩ := hkb
  cases hko : k.ok with
  | false =>
   have ht : d.takeT = ⟨1, 0, zeroG⟩ := (if_neg (by rw [hok]; simp)).trans (if_pos (by rw [← hk.out]; exact hko))
   have ht' : Hid _ := ht
   have hko' : Hid _ := hko
   clear hok ht hko
   rw [ht'.out]
   go_enter Tryz.func6, Tryz.ntmps6
   go_upto_region 4 with (first
    | (go_at_call 25; refine (specDiskOk_any d l _ hd (ha.grow hA)).mono ?_; rintro e w2 ⟨rfl, hb2⟩; rw [hok'.out]; obtain ⟨_, x0, x1⟩ := hX0.grow hb2)
    | (go_at_call 26; refine (l4newest_any d l _ hf hd (ha.grow (gca hA hb2))).mono ?_; rw [← hk.out]; rintro e w3 ⟨oa, oc, rfl, hcp, hbt, _, hb3⟩))
   have hV4 := V4.new_at w3 (.bool k.ok) (.int .i64 k.gen) (.int .i64 k.slot) (.slice oa k.bytes.length oc) 60 w3.heap.size rfl
   have hb4 := gal (gca (gca hA hb2) hb3) (.cells #[.bool k.ok, .int .i64 k.gen, .int .i64 k.slot, .slice oa k.bytes.length oc] 60)
   have hR4 := (hR0.grow hb2).grow (gal hb3 (.cells #[.bool k.ok, .int .i64 k.gen, .int .i64 k.slot, .slice oa k.bytes.length oc] 60))
   generalize w3.alloc (.cells #[.bool k.ok, .int .i64 k.gen, .int .i64 k.slot, .slice oa k.bytes.length oc] 60) = w4 at hV4 hb4 hR4 ⊢
   rw [hko'.out] at hV4
   obtain ⟨_, v0, v1, v2, v3, vf⟩ := id hV4
   obtain ⟨_, r0, r1, r2, r3, r4, r5, r6, rf_⟩ := id hR4
   clear x0 x1
   go_wp2
   obtain ⟨hV9, hK9⟩ := hR4.put (.int .i64 1) (.int .i64 0) (.int .i64 0) (.int .i64 0) (.string ⟨#[]⟩) (.int .i64 0) (.slice none 0 0)
   generalize (((((((w4.setCell ⟨w.heap.size + 1, 0, none⟩ (.int .i64 1)).setCell ⟨w.heap.size + 1, 1, none⟩ (.int .i64 0)).setCell ⟨w.heap.size + 1, 2, none⟩ (.int .i64 0)).setCell ⟨w.heap.size + 1, 3, none⟩ (.int .i64 0)).setCell ⟨w.heap.size + 1, 4, none⟩ (.string ⟨#[]⟩)).setCell ⟨w.heap.size + 1, 5, none⟩ (.int .i64 0)).setCell ⟨w.heap.size + 1, 6, none⟩ (.slice none 0 0)) = w9 at hV9 hK9 ⊢
   obtain ⟨_, q0, q1, q2, q3, q4, q5, q6, _⟩ := id hV9
   exact bodyPost_ret (v := (TK.mk 1 0 zeroG).val none 0) (by simp [results, Tryz.results6, go_sem, q0, q1, q2, q3, q4, q5, q6, zeroG]) rfl ⟨none, 0, rfl, fun _ _ i hi => absurd hi (Nat.not_lt_zero _), hb4.trans (hK9.below hb4.size (fun z hz e => by omega))⟩
  | true =>
   obtain ⟨ok, hbo⟩ := hid_ex (unB k.bytes).1
   obtain ⟨u, hu⟩ := hid_ex (unB k.bytes).2
   obtain ⟨tt, htt⟩ := hid_ex d.takeT
   rw [← htt.out]
   go_enter Tryz.func6, Tryz.ntmps6
   go_upto_region 7 with (first
    | (go_at_call 25; refine (specDiskOk_any d l _ hd (ha.grow hA)).mono ?_; rintro e w2 ⟨rfl, hb2⟩; rw [hok'.out]; obtain ⟨_, x0, x1⟩ := hX0.grow hb2)
    | (go_at_call 26; refine (l4newest_any d l _ hf hd (ha.grow (gca hA hb2))).mono ?_; rw [← hk.out]; rintro e w3 ⟨oa, oc, rfl, hcp, hbt, _, hb3⟩)
    | (go_at_call 27; refine (specUnpack_K oa oc k.bytes _ (hbt.grow (gal (gre _) (.cells #[.bool true, .int .i64 k.gen, .int .i64 k.slot, .slice oa k.bytes.length oc] 60))) hcp.out (by unfold maxLen; omega) hkb1).mono ?_; rintro e w5 ⟨ua, uc, rfl, _, hN5, hgs, hb5⟩; rw [sUnB_eq _ hgs, ← hu.out] at hN5; rw [sUnB_eq _ hgs, ← hbo.out, ← hu.out]))
   have hV4 := V4.new_at w3 (.bool true) (.int .i64 k.gen) (.int .i64 k.slot) (.slice oa k.bytes.length oc) 60 w3.heap.size rfl
   have hb4 := gal (gca (gca hA hb2) hb3) (.cells #[.bool true, .int .i64 k.gen, .int .i64 k.slot, .slice oa k.bytes.length oc] 60)
   have hR4 := (hR0.grow hb2).grow (gal hb3 (.cells #[.bool true, .int .i64 k.gen, .int .i64 k.slot, .slice oa k.bytes.length oc] 60))
   generalize w3.alloc (.cells #[.bool true, .int .i64 k.gen, .int .i64 k.slot, .slice oa k.bytes.length oc] 60) = w4 at hV4 hb4 hR4 hb5 hN5 ⊢
   generalize w3.heap.size = PK at hV4 ⊢
   have hS6 := Six.new w5 ok u.root (.slice ua u.nodes.length uc) 63
   have hb6 := gal hb5 (.cells #[.bool ok, .int .i64 u.root.kind, .int .i64 u.root.num, .string u.root.text, .int .i64 u.root.node, .slice ua u.nodes.length uc] 63)
   have hKu : Kept (fun z => z < w4.heap.size) w5 (w5.alloc (.cells #[.bool ok, .int .i64 u.root.kind, .int .i64 u.root.num, .string u.root.text, .int .i64 u.root.node, .slice ua u.nodes.length uc] 63)) := (Kept.refl _ w5).alloc _
   have hR4l := hR4.lt
   have hV6 := hV4.grow hb6
   have hR6 := hR4.grow hb6
   have hA6 := gca hb4 hb6
   generalize w5.alloc (.cells #[.bool ok, .int .i64 u.root.kind, .int .i64 u.root.num, .string u.root.text, .int .i64 u.root.node, .slice ua u.nodes.length uc] 63) = w6 at hS6 hb6 hV6 hR6 hA6 hKu ⊢
   generalize w5.heap.size = PU at hS6 ⊢
   obtain ⟨_, v0, v1, v2, v3, vf⟩ := id hV6
   obtain ⟨_, s0, s1, s2, s3, s4, s5, sf⟩ := id hS6
   obtain ⟨_, r0, r1, r2, r3, r4, r5, r6, rf_⟩ := id hR6
   have hR6l := hR6.lt
   cases ok with
   | false =>
    have ht : tt = ⟨2, k.gen, zeroG⟩ := htt.out.trans ((if_neg (by rw [hok]; simp)).trans ((if_neg (by rw [← hk.out, hko]; simp)).trans ((if_pos (by rw [← hk.out]; exact hbo.out.symm)).trans (by rw [← hk.out]))))
    have ht' : Hid _ := ht
    clear ht hok hko
    go_wp2
    obtain ⟨hV9, hK9⟩ := hR6.put (.int .i64 2) (.int .i64 k.gen) (.int .i64 0) (.int .i64 0) (.string ⟨#[]⟩) (.int .i64 0) (.slice none 0 0)
    generalize (((((((w6.setCell ⟨w.heap.size + 1, 0, none⟩ (.int .i64 2)).setCell ⟨w.heap.size + 1, 1, none⟩ (.int .i64 k.gen)).setCell ⟨w.heap.size + 1, 2, none⟩ (.int .i64 0)).setCell ⟨w.heap.size + 1, 3, none⟩ (.int .i64 0)).setCell ⟨w.heap.size + 1, 4, none⟩ (.string ⟨#[]⟩)).setCell ⟨w.heap.size + 1, 5, none⟩ (.int .i64 0)).setCell ⟨w.heap.size + 1, 6, none⟩ (.slice none 0 0)) = w9 at hV9 hK9 ⊢
    obtain ⟨_, q0, q1, q2, q3, q4, q5, q6, _⟩ := id hV9
    exact bodyPost_ret (v := (TK.mk 2 k.gen zeroG).val none 0) (by simp [results, Tryz.results6, go_sem, q0, q1, q2, q3, q4, q5, q6, zeroG]) rfl (by rw [ht'.out]; exact ⟨none, 0, rfl, fun _ _ i hi => absurd hi (Nat.not_lt_zero _), hA6.trans (hK9.below hA6.size (fun z hz e => by omega))⟩)
   | true =>
    have ht : tt = ⟨0, k.gen, u⟩ := htt.out.trans ((if_neg (by rw [hok]; simp)).trans ((if_neg (by rw [← hk.out, hko]; simp)).trans ((if_neg (by rw [← hk.out, ← hbo.out]; simp)).trans (by rw [← hk.out, ← hu.out]))))
    have ht' : Hid _ := ht
    clear ht hok hko
    go_wp2
    obtain ⟨hV9, hK9⟩ := hR6.put (.int .i64 0) (.int .i64 k.gen) (.int .i64 u.root.kind) (.int .i64 u.root.num) (.string u.root.text) (.int .i64 u.root.node) (.slice ua u.nodes.length uc)
    have hN9 := fun w'' (hK'' : Kept (fun z => z < w.heap.size) _ w'') => hN5 w'' (hKu.trans ((hK9.mono (q := fun z => z < w4.heap.size) (fun k _ e => by omega)).trans (hK''.mono (q := fun z => z < w4.heap.size) (fun k _ e => by have := hb4.size; omega)) (fun _ _ e => e)) (fun _ _ e => e))
    generalize (((((((w6.setCell ⟨w.heap.size + 1, 0, none⟩ (.int .i64 0)).setCell ⟨w.heap.size + 1, 1, none⟩ (.int .i64 k.gen)).setCell ⟨w.heap.size + 1, 2, none⟩ (.int .i64 u.root.kind)).setCell ⟨w.heap.size + 1, 3, none⟩ (.int .i64 u.root.num)).setCell ⟨w.heap.size + 1, 4, none⟩ (.string u.root.text)).setCell ⟨w.heap.size + 1, 5, none⟩ (.int .i64 u.root.node)).setCell ⟨w.heap.size + 1, 6, none⟩ (.slice ua u.nodes.length uc)) = w9 at hV9 hK9 hN9 ⊢
    obtain ⟨_, q0, q1, q2, q3, q4, q5, q6, _⟩ := id hV9
    exact bodyPost_ret (v := (TK.mk 0 k.gen u).val ua uc) (by simp [results, Tryz.results6, go_sem, q0, q1, q2, q3, q4, q5, q6]) rfl (by rw [ht'.out]; exact ⟨ua, uc, rfl, hN9, hA6.trans (hK9.below hA6.size (fun z hz e => by omega))⟩)
def mtLoop : Nat → Nat → ByteArray → ByteArray
 | 0, _, s => s
 | f + 1, j, s => if j = 0 then s else mtLoop f (j / 10) (strOfNums [48 + (j : Int) % 10] ++ s)
def mt (k : Nat) : ByteArray := ⟨#[109]⟩ ++ mtLoop (k + 1) k ⟨#[]⟩
theorem mtLoop_zero (f : Nat) (s : ByteArray) : mtLoop f 0 s = s := by cases f <;> simp [mtLoop]
theorem mtLoop_step {f j : Nat} (s : ByteArray) (hj : j ≠ 0) (hf : j < f) : mtLoop f j s = mtLoop (f - 1) (j / 10) (strOfNums [48 + (j : Int) % 10] ++ s) := by
 cases f with
 | zero => omega
 | succ f => simp [mtLoop, hj]
theorem markText_any (k : Nat) (w : World) (h0 : 0 < k) (hk : k ≤ 1099511627776) :
  Calls Tryz.prog 46 #[.int .i64 k] w fun e w' => e = .returned (.string (mt k)) ∧ Below w.heap.size w w' := by
 have hd : ¬ ((k : Int) ≤ 0) := by omega
 go_enter Tryz.func46, Tryz.ntmps46
 go_wp2
 go_loopw [0, 3] (fun i o ws => ∃ (j f : Nat) (s : ByteArray), i = .int .i64 j ∧ o = .string s ∧ j < f ∧ Hid (mtLoop f j s = mtLoop (k + 1) k ⟨#[]⟩) ∧ s.size + j ≤ k ∧ Below w.heap.size w ws) (fun i _ _ => (intOf i).toNat)
 case atStart => exact ⟨k, k + 1, ⟨#[]⟩, rfl, rfl, by omega, rfl, by show 0 + k ≤ k; omega, gre _⟩
 case round =>
  obtain ⟨j, f, s, rfl, rfl, hf, hm, hsz, hb⟩ := hrel
  by_cases hj : j = 0
  ·
   subst hj
   have hd2 : ¬ ((0 : Int) < ((0 : Nat) : Int)) := by omega
   have hc : ¬ (9223372036854775807 < 1 + s.size) := by omega
   have hm2 : Hid (mt k = ⟨#[109]⟩ ++ s) := by have h1 := hm.out; rw [mtLoop_zero] at h1; show mt k = _; unfold mt; rw [← h1]
   go_wp2
   go_ret
   exact ⟨by rw [hm2.out]; rfl, hb⟩
  ·
   have hd2 : (0 : Int) < (j : Int) := by omega
   obtain ⟨d, hdd⟩ : ∃ d, Hid (d = strOfNums [48 + (j : Int) % 10]) := ⟨_, rfl⟩
   have hds : d.size = 1 := by rw [hdd.out]; rfl
   have hconv : (convert 58 9 (.slice (some ⟨wr.heap.size, 0, none⟩) 1 1)).run Tryz.prog (wr.alloc (.cells #[.int .u8 (48 + (j : Int) % 10)] 5)) = .ok (.string d) (wr.alloc (.cells #[.int .u8 (48 + (j : Int) % 10)] 5)) := by
    rw [hdd.out]
    exact run_convert_bytes_arg _ 58 5 Tryz.underlying58 Tryz.underlying5 wr.heap.size 0 1 1 [48 + (j : Int) % 10] rfl (fun i hi => by have e : i = 0 := (by omega); subst e; simp) 9 Tryz.underlying9
   have hc : ¬ (9223372036854775807 < d.size + s.size) := by omega
   have hnext : Hid (mtLoop (f - 1) (j / 10) (d ++ s) = mtLoop (k + 1) k ⟨#[]⟩) := by rw [hdd.out, ← mtLoop_step s hj hf]; exact hm.out
   have hsz2 : (d ++ s).size + j / 10 ≤ k := by rw [ByteArray.size_append]; omega
   go_wp2
   go_roundw
   case rel => exact ⟨j / 10, f - 1, d ++ s, by go_num, rfl, by omega, hnext, hsz2, gal hb _⟩
   case measure => simp [intOf]; omega
structure WRow (w : World) (b n : Nat) : Prop where
 lt : b < w.heap.size
 c : ∀ i, i < n → ∃ v, w.cell? ⟨b, i, none⟩ = some v
 f : ∀ o, w.frozen? ⟨b, o, none⟩ = false
theorem WRow.kept {p : Nat → Prop} {w w' : World} {b n : Nat} (h : WRow w b n) (k : Kept p w w') (hn : ¬ p b) : WRow w' b n :=
 ⟨Nat.lt_of_lt_of_le h.lt k.size, fun i hi => let ⟨v, hv⟩ := h.c i hi; ⟨v, k.cell hv hn⟩, fun o => (World.frozen?_of_block (w := w) (k.block b h.lt hn)).trans (h.f o)⟩
theorem WRow.set {w : World} {b n : Nat} (h : WRow w b n) (p : Addr) (u : Value) : WRow (w.setCell p u) b n :=
 ⟨by have := h.lt; simpa [World.setCell] using this, fun i hi => by
  obtain ⟨v, hv⟩ := h.c i hi
  by_cases e : p = ⟨b, i, none⟩
  · subst e; exact ⟨u, World.cell?_setCell_same _ _ _ hv⟩
  · exact ⟨v, (World.cell?_setCell_other _ _ _ _ (fun e2 => e e2)).trans hv⟩, fun o => by rw [World.frozen?_setCell]; exact h.f o⟩
def markV (k : Nat) : GV := ⟨(k : Int), (k : Int) + 1, mt (k + 2), (k : Int) + 1 + 1 + 1⟩
def markVs (k n : Nat) : List GV := (List.range n).map fun j => markV (k + 4 * j)
theorem ValAt.set_far {w : World} {b off : Nat} {v : GV} (h : ValAt w b off v) {o : Nat} (ho : o < off ∨ off + 4 ≤ o) (u : Value) : ValAt (w.setCell ⟨b, o, none⟩ u) b off v := by
 refine ⟨?_, ?_, ?_, ?_⟩
 · exact (World.cell?_setCell_other _ _ _ _ (by simp <;> omega)).trans h.kind
 · exact (World.cell?_setCell_other _ _ _ _ (by simp <;> omega)).trans h.num
 · exact (World.cell?_setCell_other _ _ _ _ (by simp <;> omega)).trans h.text
 · exact (World.cell?_setCell_other _ _ _ _ (by simp <;> omega)).trans h.node
theorem mark_one {w w1 : World} {b o q : Nat} {n : Nat} (hr : WRow w b n) (ho : o + 4 ≤ n) (hb : Below ((w.setCell ⟨b, o, none⟩ (.int .i64 (q : Int))).setCell ⟨b, o + 1, none⟩ (.int .i64 ((q : Int) + 1))).heap.size ((w.setCell ⟨b, o, none⟩ (.int .i64 (q : Int))).setCell ⟨b, o + 1, none⟩ (.int .i64 ((q : Int) + 1))) w1) :
  ValAt ((w1.setCell ⟨b, o + 2, none⟩ (.string (mt (q + 2)))).setCell ⟨b, o + 3, none⟩ (.int .i64 ((q : Int) + 1 + 1 + 1))) b o (markV q) := by
 have hr2 := (hr.set ⟨b, o, none⟩ (.int .i64 (q : Int))).set ⟨b, o + 1, none⟩ (.int .i64 ((q : Int) + 1))
 have hr3 := hr2.kept (Kept.of_below hb (fun _ => False)) (fun e => e)
 obtain ⟨v0, c0⟩ := hr.c o (by omega)
 obtain ⟨v1, c1⟩ := (hr.set ⟨b, o, none⟩ (.int .i64 (q : Int))).c (o + 1) (by omega)
 obtain ⟨v2, c2⟩ := hr3.c (o + 2) (by omega)
 obtain ⟨v3, c3⟩ := (hr3.set ⟨b, o + 2, none⟩ (.string (mt (q + 2)))).c (o + 3) (by omega)
 refine ⟨?_, ?_, ?_, ?_⟩
 ·
  refine (World.cell?_setCell_other _ _ _ _ (by simp)).trans ((World.cell?_setCell_other _ _ _ _ (by simp)).trans ?_)
  exact cell_later hb ((World.cell?_setCell_other _ _ _ _ (by simp)).trans (World.cell?_setCell_same _ _ _ c0))
 ·
  refine (World.cell?_setCell_other _ _ _ _ (by simp)).trans ((World.cell?_setCell_other _ _ _ _ (by simp)).trans ?_)
  exact cell_later hb (World.cell?_setCell_same _ _ _ c1)
 · exact (World.cell?_setCell_other _ _ _ _ (by simp)).trans (World.cell?_setCell_same _ _ _ c2)
 · exact World.cell?_setCell_same _ _ _ c3
structure MState (b n k : Nat) (w ws : World) (j : Nat) : Prop where
 kept : Kept (fun x => x = b) w ws
 row : WRow ws b (n * 4)
 done : ∀ i, i < j → ValAt ws b (i * 4) (markV (k + 4 * i))
theorem MState.step {b n k : Nat} {w ws w1 : World} {j q : Nat} (h : MState b n k w ws j) (hj : j < n) (hq : q = k + 4 * j) (hb : Below ((ws.setCell ⟨b, j * 4, none⟩ (.int .i64 (q : Int))).setCell ⟨b, j * 4 + 1, none⟩ (.int .i64 ((q : Int) + 1))).heap.size ((ws.setCell ⟨b, j * 4, none⟩ (.int .i64 (q : Int))).setCell ⟨b, j * 4 + 1, none⟩ (.int .i64 ((q : Int) + 1))) w1) :
  MState b n k w ((w1.setCell ⟨b, j * 4 + 2, none⟩ (.string (mt (q + 2)))).setCell ⟨b, j * 4 + 3, none⟩ (.int .i64 ((q : Int) + 1 + 1 + 1))) (j + 1) where
 kept := ((((h.kept.set (fun _ => rfl) _).set (fun _ => rfl) _).trans (Kept.of_below hb (fun _ => False)) (fun _ _ e => e.elim)).set (fun _ => rfl) _).set (fun _ => rfl) _
 row := ((((h.row.set _ _).set _ _).kept (Kept.of_below hb (fun _ => False)) (fun e => e)).set _ _).set _ _
 done := fun i hi => by
  by_cases e : i = j
  · subst e; subst hq; exact mark_one h.row (by omega) hb
  ·
   have hlt := h.row.lt
   have h1 := ((h.done i (by omega)).set_far (o := j * 4) (by omega) (.int .i64 (q : Int))).set_far (o := j * 4 + 1) (by omega) (.int .i64 ((q : Int) + 1))
   have h2 := h1.below hb (by simpa [World.setCell] using hlt)
   exact (h2.set_far (by omega) _).set_far (by omega) _
theorem markValS_any (b n cap k : Nat) (w : World) (hk0 : 0 < k) (hk : k + 4 * n ≤ 1099511627776) (hr : WRow w b (n * 4)) :
  Calls Tryz.prog 85 #[.slice (some ⟨b, 0, none⟩) n cap, .int .i64 k] w fun e w' => e = .returned (.int .i64 ((k + 4 * n : Nat) : Int)) ∧ MState b n k w w' n := by
 go_enter Tryz.func85, Tryz.ntmps85
 go_wp2
 go_loopw [1, 5] (fun kk i ws => ∃ (j q : Nat), j ≤ n ∧ q = k + 4 * j ∧ kk = .int .i64 (q : Int) ∧ i = .int .i64 (j : Int) ∧ MState b n k w ws j) (fun _ i _ => n - (intOf i).toNat)
 case atStart => exact ⟨0, k, Nat.zero_le _, by omega, rfl, rfl, Kept.refl _ _, hr, fun i hi => absurd hi (Nat.not_lt_zero _)⟩
 case round =>
  obtain ⟨j, q, hj, hq, rfl, rfl, hD⟩ := hrel
  by_cases hlt : j < n
  ·
   have i0 : (0 : Int) ≤ (j : Int) := by omega
   have i1 : (j : Int) < (n : Int) := by omega
   obtain ⟨v0, c0⟩ := hD.row.c (j * 4) (by omega)
   obtain ⟨v1, c1⟩ := (hD.row.set ⟨b, j * 4, none⟩ (.int .i64 (q : Int))).c (j * 4 + 1) (by omega)
   have hf := hD.row.f
   have hqq : q + 4 ≤ 1099511627776 := by omega
   have hq' : Hid _ := hq
   clear hq
   have hs2 := (hD.row.set ⟨b, j * 4, none⟩ (.int .i64 (q : Int))).set ⟨b, j * 4 + 1, none⟩ (.int .i64 ((q : Int) + 1))
   go_wp2_with (go_at_call 46; rw [show ((q : Int) + 1 + 1) = ((q + 2 : Nat) : Int) by omega]; refine (markText_any (q + 2) _ (by omega) (by omega)).mono ?_; rintro e w1 ⟨rfl, hb1⟩; rw [← show ((q : Int) + 1 + 1) = ((q + 2 : Nat) : Int) by omega]; have hs3 := hs2.kept (Kept.of_below hb1 (fun _ => False)) (fun e => e); obtain ⟨v2, c2⟩ := hs3.c (j * 4 + 2) (by omega); obtain ⟨v3, c3⟩ := (hs3.set ⟨b, j * 4 + 2, none⟩ (.string (mt (q + 2)))).c (j * 4 + 3) (by omega); have hf3 := hs3.f)
   have hfin := hD.step hlt hq'.out hb1
   go_roundw
   case rel => exact ⟨j + 1, q + 4, by omega, by have := hq'.out; omega, by go_num, by go_num, hfin⟩
   case measure => simp [intOf]; omega
  ·
   have e : j = n := by omega
   subst e
   go_wp2
   go_ret
   exact ⟨by rw [← hq]; rfl, hD⟩
theorem MState.at_ {b n k : Nat} {w ws : World} (h : MState b n k w ws n) {B : Nat} (hB : b < B) : ValsAt B ws (some ⟨b, 0, none⟩) (markVs k n) := fun i hi => by
 have hi' : i < n := by simpa [markVs] using hi
 refine ⟨b, 0, rfl, hB, ?_⟩
 have e : (markVs k n)[i]! = markV (k + 4 * i) := by rw [getElem!_pos _ i hi]; simp [markVs]
 rw [e, Nat.zero_add]
 exact h.done i hi'
theorem markVs_length (k n : Nat) : (markVs k n).length = n := by simp [markVs]
def mEnd (k : Nat) : List GN → Nat
 | [] => k
 | n :: r => mEnd (k + 1 + 4 * n.vals.length) r
def markNs (k : Nat) : List GN → List GN
 | [] => []
 | n :: r => ⟨(k : Int), markVs (k + 1) n.vals.length⟩ :: markNs (k + 1 + 4 * n.vals.length) r
theorem mEnd_snoc (l : List GN) (n : GN) : ∀ k, mEnd k (l ++ [n]) = mEnd k l + 1 + 4 * n.vals.length := by
 induction l with
 | nil => intro k; rfl
 | cons x r ih => intro k; simp only [List.cons_append, mEnd, ih]
theorem mEnd_le (l : List GN) : ∀ k, k ≤ mEnd k l := by
 induction l with
 | nil => intro k; exact Nat.le_refl _
 | cons x r ih => intro k; have := ih (k + 1 + 4 * x.vals.length); simp only [mEnd]; omega
theorem mEnd_append (l r : List GN) : ∀ k, mEnd k (l ++ r) = mEnd (mEnd k l) r := by
 induction l with
 | nil => intro k; rfl
 | cons x t ih => intro k; simp only [List.cons_append, mEnd, ih]
theorem mEnd_take_succ (l : List GN) (k j : Nat) (h : j < l.length) : mEnd k (l.take (j + 1)) = mEnd k (l.take j) + 1 + 4 * l[j]!.vals.length := by
 rw [take_snoc l j h, mEnd_snoc]
theorem mEnd_take_le (l : List GN) (k j : Nat) : mEnd k (l.take j) ≤ mEnd k l := by
 conv => rhs; rw [← List.take_append_drop j l, mEnd_append]
 exact mEnd_le _ _
theorem mEnd_sz (l : List GN) : ∀ k, (mEnd k l : Int) ≤ k + 4 * (l.length + szNodes l) := by
 induction l with
 | nil => intro k; simp [mEnd, szNodes]
 | cons x r ih =>
  intro k
  have h1 := ih (k + 1 + 4 * x.vals.length)
  have h2 := szVals_nonneg x.vals
  simp only [mEnd, szNodes, GN.sz, List.length_cons]
  omega
theorem markNs_length (l : List GN) : ∀ k, (markNs k l).length = l.length := by
 induction l with
 | nil => intro k; rfl
 | cons x r ih => intro k; simp only [markNs, List.length_cons, ih]
theorem markNs_at (l : List GN) : ∀ (k j : Nat), j < l.length → (markNs k l)[j]! = ⟨((mEnd k (l.take j) : Nat) : Int), markVs (mEnd k (l.take j) + 1) l[j]!.vals.length⟩ := by
 induction l with
 | nil => intro k j h; exact absurd h (Nat.not_lt_zero _)
 | cons x r ih =>
  intro k j h
  cases j with
  | zero => simp [markNs, mEnd]
  | succ j =>
   have h1 := ih (k + 1 + 4 * x.vals.length) j (by simpa using h)
   simpa [markNs, mEnd] using h1
structure MG (w : World) (na : Option Addr) (ns : List GN) (va : Nat → Option Addr) (vc : Nat → Nat) : Prop where
 nodes : 0 < ns.length → ∃ g, na = some ⟨g, 0, none⟩ ∧ WRow w g (ns.length * 2)
 sl : ∀ g, na = some ⟨g, 0, none⟩ → ∀ i, i < ns.length → w.cell? ⟨g, i * 2 + 1, none⟩ = some (.slice (va i) ns[i]!.vals.length (vc i))
 vals : ∀ i, i < ns.length → 0 < ns[i]!.vals.length → ∃ b, va i = some ⟨b, 0, none⟩ ∧ WRow w b (ns[i]!.vals.length * 4)
 apn : ∀ i, i < ns.length → Far (va i) na
 apv : ∀ i j, i < j → j < ns.length → Far (va i) (va j)
theorem MG.far {w : World} {na : Option Addr} {ns : List GN} {va : Nat → Option Addr} {vc : Nat → Nat} (h : MG w na ns va vc) {i j : Nat} (hi : i < ns.length) (hj : j < ns.length) (hij : i ≠ j) : Far (va i) (va j) := by
 rcases Nat.lt_or_gt_of_ne hij with e | e
 · exact h.apv i j e hj
 · exact (h.apv j i e hi).symm
theorem owns_wrow {w : World} {base t size n cap : Nat} {a : Option Addr} {xs : List Value} (ho : w.ownsRow base t size (.slice a n cap) n xs) (hn : 0 < n) : ∃ b, a = some ⟨b, 0, none⟩ ∧ WRow w b (n * size) := by
 rcases ho.2 with ⟨_, h0⟩ | ⟨g, cap', cur, hv, hb, hg, hc1, hc2, hc3, _⟩
 · omega
 ·
  simp only [Value.slice.injEq] at hv
  obtain ⟨rfl, _, rfl⟩ := hv
  have hsz : n * size ≤ cur.size := by rw [hc3]; exact Nat.mul_le_mul_right _ hc1
  refine ⟨g, rfl, (Array.getElem?_eq_some_iff.1 hg).1, fun i hi => ⟨cur[i]'(by omega), ?_⟩, fun o => ?_⟩
  · simp [World.cell?, hg, show i < cur.size by omega]
  · simp [World.frozen?, hg]
theorem OwnG.mg {w : World} {base : Nat} {na : Option Addr} {nc : Nat} {nl : List NL} (h : OwnG w base na nc nl) : MG w na (nl.map (·.n)) (fun i => nl[i]!.a) (fun i => nl[i]!.cap) := by
 have hlen : (nl.map (·.n)).length = nl.length := by simp
 have e : ∀ i, i < nl.length → (nl.map (·.n))[i]! = (nl[i]!).n := fun i hi => by rw [getElem!_pos _ i (by simpa using hi), getElem!_pos nl i hi]; simp
 refine ⟨fun hn => ?_, fun g hg i hi => ?_, fun i hi hv => ?_, fun i hi => ?_, fun i j hij hj => ?_⟩
 · rw [hlen] at hn ⊢; exact owns_wrow h.nodes hn
 ·
  have hi' : i < nl.length := by omega
  obtain ⟨g1, ha, _, _, c1⟩ := owns_cell h.nodes ((flatMap_get NL.two_length nl i 1 hi' (by decide)).trans rfl)
  rw [hg] at ha
  obtain rfl := some_addr ha
  rw [e i hi', c1]
 ·
  have hi' : i < nl.length := by omega
  rw [e i hi'] at hv ⊢
  exact owns_wrow (h.vals _ (mem_at hi')) hv
 · exact h.apn _ (mem_at (by omega))
 · exact h.apv i j hij (by omega)
theorem OwnNodes.mg {w : World} {N : Nat} {bs : Nat → Nat} {ns : List GN} (h : OwnNodes w N bs ns) : MG w (some ⟨N, 0, none⟩) ns (fun i => some ⟨bs i, 0, none⟩) (fun i => ns[i]!.vals.length) := by
 obtain ⟨f, hr, hn⟩ := h
 refine ⟨fun _ => ⟨N, rfl, hr.lt, fun i hi => ⟨_, hr.cell hi⟩, hr.frozen⟩, fun g hg i hi => ?_, fun i hi hv => ?_, fun i hi => ?_, fun i j hij hj => ?_⟩
 ·
  obtain rfl := some_addr hg
  obtain ⟨h0, h1, _⟩ := hn i hi
  rw [← h1]; exact hr.cell (by omega)
 ·
  obtain ⟨_, _, ⟨f2, hr2, _⟩, _⟩ := hn i hi
  exact ⟨bs i, rfl, hr2.lt, fun j hj => ⟨_, hr2.cell hj⟩, hr2.frozen⟩
 ·
  intro b hb hx
  have e1 := some_addr hb
  have e2 := some_addr hx
  have := (hn i hi).2.2.2.1
  omega
 ·
  intro b hb hx
  have e1 := some_addr hb
  have e2 := some_addr hx
  have := (hn j hj).2.2.2.2 i hij
  omega
theorem ValsAt.kept {p : Nat → Prop} {w w' : World} {B B' : Nat} {a : Option Addr} {vs : List GV} (h : ValsAt B w a vs) (k : Kept p w w') (hB : B ≤ w.heap.size) (hB' : B ≤ B') (hn : ∀ b off, a = some ⟨b, off, none⟩ → ¬ p b) : ValsAt B' w' a vs := fun i hi => by
 obtain ⟨b, off, ha, hb, hv⟩ := h i hi
 exact ⟨b, off, ha, by omega, hv.same (k.block b (by omega) (hn b off ha))⟩
structure NM (w ws : World) (na : Option Addr) (ns : List GN) (va : Nat → Option Addr) (vc : Nat → Nat) (k j : Nat) : Prop where
 kept : Kept (fun b => na = some ⟨b, 0, none⟩ ∨ ∃ i, i < ns.length ∧ va i = some ⟨b, 0, none⟩) w ws
 mg : MG ws na ns va vc
 tags : ∀ g, na = some ⟨g, 0, none⟩ → ∀ i, i < j → ws.cell? ⟨g, i * 2, none⟩ = some (.int .i64 (mEnd k (ns.take i) : Nat))
 vals : ∀ i, i < j → ValsAt ws.heap.size ws (va i) (markVs (mEnd k (ns.take i) + 1) ns[i]!.vals.length)
theorem NM.step {w ws w2 : World} {na : Option Addr} {ns : List GN} {va : Nat → Option Addr} {vc : Nat → Nat} {k j g : Nat} (h : NM w ws na ns va vc k j) (hj : j < ns.length) (hg : na = some ⟨g, 0, none⟩)
  (hK : Kept (fun x => va j = some ⟨x, 0, none⟩) (ws.setCell ⟨g, j * 2, none⟩ (.int .i64 (mEnd k (ns.take j) : Nat))) w2) (hw : 0 < ns[j]!.vals.length → ∃ b, va j = some ⟨b, 0, none⟩ ∧ WRow w2 b (ns[j]!.vals.length * 4))
  (hv : ValsAt w2.heap.size w2 (va j) (markVs (mEnd k (ns.take j) + 1) ns[j]!.vals.length)) : NM w w2 na ns va vc k (j + 1) := by
 have hS := (Kept.refl (fun b => b = g) ws).set (a := ⟨g, j * 2, none⟩) (fun _ => rfl) (.int .i64 (mEnd k (ns.take j) : Nat))
 have hsz : (ws.setCell ⟨g, j * 2, none⟩ (.int .i64 (mEnd k (ns.take j) : Nat))).heap.size = ws.heap.size := by simp [World.setCell]
 have hK2 : Kept (fun b => b = g ∨ va j = some ⟨b, 0, none⟩) ws w2 := (hS.mono (fun _ _ e => Or.inl e)).trans hK (fun _ _ e => Or.inr e)
 have hgj : ¬ va j = some ⟨g, 0, none⟩ := fun e => h.mg.apn j hj g e hg
 obtain ⟨g', hg', hwr⟩ := h.mg.nodes (by omega)
 rw [hg] at hg'
 obtain rfl := some_addr hg'
 refine ⟨h.kept.trans hK2 (fun b _ hp => ?_), ⟨fun _ => ⟨g, hg, (hwr.set _ _).kept hK hgj⟩, fun g1 hg1 i hi => ?_, fun i hi hl => ?_, h.mg.apn, h.mg.apv⟩, fun g1 hg1 i hi => ?_, fun i hi => ?_⟩
 ·
  rcases hp with e | e
  · exact Or.inl (by rw [hg, e])
  · exact Or.inr ⟨j, hj, e⟩
 ·
  rw [hg] at hg1
  obtain rfl := some_addr hg1
  refine hK.cell ?_ hgj
  rw [World.cell?_setCell_other _ _ _ _ (by simp <;> omega)]
  exact h.mg.sl g hg i hi
 ·
  by_cases e : i = j
  · subst e; exact hw hl
  ·
   obtain ⟨b, hb, hr⟩ := h.mg.vals i hi hl
   exact ⟨b, hb, hr.kept hK2 (fun hp => hp.elim (fun e2 => h.mg.apn i hi b hb (by rw [e2, hg])) (fun e2 => h.mg.far hi hj e b hb e2))⟩
 ·
  rw [hg] at hg1
  obtain rfl := some_addr hg1
  refine hK.cell ?_ hgj
  by_cases e : i = j
  ·
   subst e
   obtain ⟨v, hv⟩ := hwr.c (i * 2) (by omega)
   exact World.cell?_setCell_same _ _ _ hv
  ·
   rw [World.cell?_setCell_other _ _ _ _ (by simp <;> omega)]
   exact h.tags g hg i (by omega)
 ·
  by_cases e : i = j
  · subst e; exact hv
  ·
   have hi' : i < ns.length := by omega
   by_cases hl : 0 < ns[i]!.vals.length
   ·
    obtain ⟨b, hb, hr⟩ := h.mg.vals i hi' hl
    refine (h.vals i (by omega)).kept hK2 (Nat.le_refl _) hK2.size (fun b2 off hb2 hp => ?_)
    rw [hb] at hb2
    simp at hb2
    obtain ⟨rfl, _⟩ := hb2
    exact hp.elim (fun e2 => h.mg.apn i hi' b hb (by rw [e2, hg])) (fun e2 => h.mg.far hi' hj e b hb e2)
   ·
    intro x hx
    rw [markVs_length] at hx
    omega
theorem NM.at_ {w ws : World} {na : Option Addr} {ns : List GN} {va : Nat → Option Addr} {vc : Nat → Nat} {k : Nat} (h : NM w ws na ns va vc k ns.length) : NodesAt ws.heap.size ws na (markNs k ns) := fun i hi => by
 rw [markNs_length] at hi
 obtain ⟨g, hg, hwr⟩ := h.mg.nodes (by omega)
 refine ⟨g, 0, va i, vc i, hg, hwr.lt, ?_⟩
 rw [markNs_at ns k i hi, Nat.zero_add]
 refine ⟨h.tags g hg i hi, ?_, h.vals i hi⟩
 simp only [markVs_length]
 exact h.mg.sl g hg i hi
theorem markValS_none (a : Option Addr) (cap k : Nat) (w : World) :
  Calls Tryz.prog 85 #[.slice a 0 cap, .int .i64 k] w fun e w' => e = .returned (.int .i64 (k : Int)) ∧ Below w.heap.size w w' := by
 go_enter Tryz.func85, Tryz.ntmps85
 go_wp2
 go_loopw [1, 5] (fun kk i ws => kk = .int .i64 (k : Int) ∧ i = .int .i64 0 ∧ Below w.heap.size w ws) (fun _ _ _ => 0)
 case atStart => exact ⟨rfl, rfl, gre _⟩
 case round =>
  obtain ⟨rfl, rfl, hb⟩ := hrel
  go_wp2
  go_ret
  exact ⟨rfl, hb⟩
theorem markValS_row (a : Option Addr) (n cap k : Nat) (w : World) (hk0 : 0 < k) (hk : k + 4 * n ≤ 1099511627776) (hr : 0 < n → ∃ b, a = some ⟨b, 0, none⟩ ∧ WRow w b (n * 4)) :
  Calls Tryz.prog 85 #[.slice a n cap, .int .i64 k] w fun e w' => e = .returned (.int .i64 ((k + 4 * n : Nat) : Int)) ∧ Kept (fun x => a = some ⟨x, 0, none⟩) w w' ∧ (0 < n → ∃ b, a = some ⟨b, 0, none⟩ ∧ WRow w' b (n * 4)) ∧ ValsAt w'.heap.size w' a (markVs k n) := by
 by_cases hn : 0 < n
 ·
  obtain ⟨b, rfl, hw⟩ := hr hn
  refine (markValS_any b n cap k w hk0 hk hw).mono ?_
  rintro e w' ⟨rfl, h⟩
  exact ⟨rfl, h.kept.mono (fun x _ hx => by rw [hx]), fun _ => ⟨b, rfl, h.row⟩, h.at_ h.row.lt⟩
 ·
  obtain rfl : n = 0 := by omega
  refine (markValS_none a cap k w).mono ?_
  rintro e w' ⟨rfl, hb⟩
  exact ⟨rfl, Kept.of_below hb _, fun h => absurd h (Nat.lt_irrefl _), fun i hi => absurd hi (by rw [markVs_length]; omega)⟩
theorem markNodeS_any (na : Option Addr) (nc : Nat) (ns : List GN) (va : Nat → Option Addr) (vc : Nat → Nat) (k : Nat) (w : World) (_hk0 : 0 < k) (hk : mEnd k ns ≤ 1099511627776) (hl : ns.length ≤ maxLen) (h : MG w na ns va vc) :
  Calls Tryz.prog 47 #[.slice na ns.length nc, .int .i64 k] w fun e w' => e = .returned (.int .i64 (mEnd k ns : Nat)) ∧ NM w w' na ns va vc k ns.length := by
 unfold maxLen at hl
 go_enter Tryz.func47, Tryz.ntmps47
 go_wp2
 go_loopw [1, 5] (fun kk i ws => ∃ (j q : Nat), j ≤ ns.length ∧ q = mEnd k (ns.take j) ∧ kk = .int .i64 (q : Int) ∧ i = .int .i64 (j : Int) ∧ NM w ws na ns va vc k j) (fun _ i _ => ns.length - (intOf i).toNat)
 case atStart => exact ⟨0, k, Nat.zero_le _, rfl, rfl, rfl, Kept.refl _ _, h, fun _ _ i hi => absurd hi (Nat.not_lt_zero _), fun i hi => absurd hi (Nat.not_lt_zero _)⟩
 case round =>
  obtain ⟨j, q, hj, hq, rfl, rfl, hD⟩ := hrel
  by_cases hlt : j < ns.length
  ·
   have i0 : (0 : Int) ≤ (j : Int) := by omega
   have i1 : (j : Int) < (ns.length : Int) := by omega
   obtain ⟨g, rfl, hwr⟩ := hD.mg.nodes (by omega)
   obtain ⟨v0, c0⟩ := hwr.c (j * 2) (by omega)
   have c1 := hD.mg.sl g rfl j hlt
   have c1' := (World.cell?_setCell_other wr ⟨g, j * 2, none⟩ ⟨g, j * 2 + 1, none⟩ (.int .i64 (q : Int)) (by simp)).trans c1
   have hf := hwr.f
   have h1 := mEnd_take_le ns k (j + 1)
   have h2 := mEnd_take_succ ns k j hlt
   have h3 := mEnd_le (ns.take j) k
   have hqq : q + 1 + 4 * ns[j]!.vals.length ≤ 1099511627776 := by omega
   have hq0 : k ≤ q := by omega
   have hvr : 0 < ns[j]!.vals.length → ∃ b, va j = some ⟨b, 0, none⟩ ∧ WRow (wr.setCell ⟨g, j * 2, none⟩ (.int .i64 (q : Int))) b (ns[j]!.vals.length * 4) := fun hl => by
    obtain ⟨b, hb, hr⟩ := hD.mg.vals j hlt hl
    exact ⟨b, hb, hr.set _ _⟩
   obtain ⟨n, hn⟩ : ∃ n, Hid (n = ns[j]!.vals.length) := ⟨_, rfl⟩
   rw [← hn.out] at c1 c1' hqq hvr
   have hq' : Hid _ := hq
   have h2' : Hid _ := h2
   clear h1 h2 h3 c1 hq
   go_wp2_with (go_at_call 85; rw [show ((q : Int) + 1) = ((q + 1 : Nat) : Int) by omega]; refine (markValS_row (va j) n (vc j) (q + 1) _ (by omega) (by omega) hvr).mono ?_; rintro e w2 ⟨rfl, hK2, hw2, hv2⟩)
   have hfin := hD.step hlt rfl (by rw [← hq'.out]; exact hK2) (by rw [← hn.out]; exact hw2) (by rw [← hq'.out, ← hn.out]; exact hv2)
   have hqe : Hid (q + 1 + 4 * n = mEnd k (ns.take (j + 1))) := by have h9 := h2'.out; have h8 := hq'.out; have h7 := hn.out; show _ = _; omega
   refine ⟨⟨j + 1, q + 1 + 4 * n, by omega, hqe.out, by go_num, by go_num, hfin⟩, ?_⟩
   simp [intOf]; omega
  ·
   have e : j = ns.length := by omega
   subst e
   rw [List.take_length] at hq
   subst hq
   go_wp2
   go_ret
   exact ⟨rfl, hD⟩
theorem MG.kept {p : Nat → Prop} {w w' : World} {na : Option Addr} {ns : List GN} {va : Nat → Option Addr} {vc : Nat → Nat} (h : MG w na ns va vc) (k : Kept p w w') (hn : ∀ b, na = some ⟨b, 0, none⟩ → ¬ p b) (hv : ∀ i, i < ns.length → ∀ b, va i = some ⟨b, 0, none⟩ → ¬ p b) : MG w' na ns va vc :=
 ⟨fun h0 => let ⟨g, hg, hr⟩ := h.nodes h0; ⟨g, hg, hr.kept k (hn g hg)⟩, fun g hg i hi => k.cell (h.sl g hg i hi) (hn g hg), fun i hi h0 => let ⟨b, hb, hr⟩ := h.vals i hi h0; ⟨b, hb, hr.kept k (hv i hi b hb)⟩, h.apn, h.apv⟩
def Touch (na : Option Addr) (n : Nat) (va : Nat → Option Addr) (b : Nat) : Prop := na = some ⟨b, 0, none⟩ ∨ ∃ i, i < n ∧ va i = some ⟨b, 0, none⟩
theorem heldValS_any (a : Option Addr) (n cap k : Nat) (w : World) (hk0 : 0 < k) (hk : k + 4 * n ≤ 1099511627776) (ha : ValsAt w.heap.size w a (markVs k n)) :
  Calls Tryz.prog 86 #[.slice a n cap, .int .i64 k] w fun e w' => e = .returned (.int .i64 ((k + 4 * n : Nat) : Int)) ∧ Below w.heap.size w w' := by
 go_enter Tryz.func86, Tryz.ntmps86
 go_wp2
 go_loopw [1, 5] (fun kk i ws => ∃ (j q : Nat), j ≤ n ∧ q = k + 4 * j ∧ kk = .int .i64 (q : Int) ∧ i = .int .i64 (j : Int) ∧ Below w.heap.size w ws) (fun _ i _ => n - (intOf i).toNat)
 case atStart => exact ⟨0, k, Nat.zero_le _, by omega, rfl, rfl, gre _⟩
 case round =>
  obtain ⟨j, q, hj, hq, rfl, rfl, hb⟩ := hrel
  by_cases hlt : j < n
  ·
   have i0 : (0 : Int) ≤ (j : Int) := by omega
   have i1 : (j : Int) < (n : Int) := by omega
   obtain ⟨v, b, off, hvk, _, rfl, hbs, hva⟩ := ha.get (by rw [markVs_length]; exact hlt)
   have hv : v = markV q := by rw [hvk.out, getElem!_pos _ j (by rw [markVs_length]; exact hlt), hq]; simp [markVs]
   subst hv
   have hva := hva.below hb hbs
   have c0 : wr.cell? ⟨b, off + j * 4, none⟩ = some (.int .i64 (q : Int)) := hva.kind
   have c1 : wr.cell? ⟨b, off + j * 4 + 1, none⟩ = some (.int .i64 ((q : Int) + 1)) := hva.num
   have c2 : wr.cell? ⟨b, off + j * 4 + 2, none⟩ = some (.string (mt (q + 2))) := hva.text
   have c3 : wr.cell? ⟨b, off + j * 4 + 3, none⟩ = some (.int .i64 ((q : Int) + 1 + 1 + 1)) := hva.node
   have hqq : q + 4 ≤ 1099511627776 := by omega
   have hq' : Hid _ := hq
   clear hq ha hvk hva
   go_wp2
   refine wp_regionU (fun u => u.cell? ⟨b, off + j * 4 + 2, none⟩ = some (.string (mt (q + 2)))) 99 (by kernel_rfl) c2 (fun hS0 => ?_)
   refine anyU_tk (i := 0) rfl hS0 (fun u hSu => by (try dsimp only at hSu); go_simp <;> with_reducible rfl) ?_
   refine anyU_tk (i := 1) rfl hS0 (fun u hSu => by (try dsimp only at hSu); go_simp <;> with_reducible rfl) ?_
   refine anyU_tk (i := 2) rfl hS0 (fun u hSu => by (try dsimp only at hSu); go_simp <;> with_reducible rfl) ?_
   refine anyU_tk (i := 3) rfl hS0 (fun u hSu => by (try dsimp only at hSu); go_simp <;> with_reducible rfl) ?_
   refine anyU_tk (i := 4) rfl hS0 (fun u hSu => by (try dsimp only at hSu); go_simp <;> with_reducible rfl) ?_
   refine anyU_tk (i := 5) rfl hS0 (fun u hSu => by (try dsimp only at hSu); go_simp <;> with_reducible rfl) ?_
   simp only [Act.put, List.getElem_toArray, List.getElem_cons_zero, List.getElem_cons_succ, List.setIfInBounds_toArray, List.set_cons_zero, List.set_cons_succ]
   refine anyU_one (i := 6) (by kernel_rfl) rfl (fun K hK => ?_)
   go_simp
   rw [show ((q : Int) + 1 + 1) = ((q + 2 : Nat) : Int) by omega]
   refine (markText_any (q + 2) _ (by omega) (by omega)).mono ?_
   rintro e w1 ⟨rfl, hb1⟩
   rw [← show ((q : Int) + 1 + 1) = ((q + 2 : Nat) : Int) by omega]
   have hb2 := gca (gdr hb) hb1
   have c3' := cell_later hb1 (show wr.drew.cell? _ = _ from c3)
   have hS1 := cell_later hb1 hS0
   refine hK.out _ _ hS1 ?_
   clear hK
   refine anyU_one (i := 7) (by kernel_rfl) rfl (fun K hK => ?_)
   go_simp
   refine hK.out _ _ hS1 ?_
   clear hK
   refine anyU_done (by kernel_rfl) ?_
   clear c0 c1 c2 c3 hS0
   go_wp2
   go_roundw
   case rel => exact ⟨j + 1, q + 4, by omega, by have := hq'.out; omega, by go_num, by go_num, hb2⟩
   case measure => simp [intOf]; omega
  ·
   have e : j = n := by omega
   subst e
   go_wp2
   go_ret
   exact ⟨by rw [← hq]; rfl, hb⟩
theorem heldNodeS_any (na : Option Addr) (nc : Nat) (ns : List GN) (k : Nat) (w : World) (hk0 : 0 < k) (hk : mEnd k ns ≤ 1099511627776) (hl : ns.length ≤ maxLen) (ha : NodesAt w.heap.size w na (markNs k ns)) :
  Calls Tryz.prog 49 #[.slice na ns.length nc, .int .i64 k] w fun e w' => e = .returned (.int .i64 (mEnd k ns : Nat)) ∧ Below w.heap.size w w' := by
 unfold maxLen at hl
 go_enter Tryz.func49, Tryz.ntmps49
 go_wp2
 go_loopw [1, 5] (fun kk i ws => ∃ (j q : Nat), j ≤ ns.length ∧ q = mEnd k (ns.take j) ∧ kk = .int .i64 (q : Int) ∧ i = .int .i64 (j : Int) ∧ Below w.heap.size w ws) (fun _ i _ => ns.length - (intOf i).toNat)
 case atStart => exact ⟨0, k, Nat.zero_le _, rfl, rfl, rfl, gre _⟩
 case round =>
  obtain ⟨j, q, hj, hq, rfl, rfl, hb⟩ := hrel
  by_cases hlt : j < ns.length
  ·
   have i0 : (0 : Int) ≤ (j : Int) := by omega
   have i1 : (j : Int) < (ns.length : Int) := by omega
   obtain ⟨m, b, off, av, cv, hvk, _, rfl, hbs, hva⟩ := ha.get (by rw [markNs_length]; exact hlt)
   obtain ⟨n, hn⟩ : ∃ n, Hid (n = ns[j]!.vals.length) := ⟨_, rfl⟩
   have hm : m = ⟨(q : Int), markVs (q + 1) n⟩ := by rw [hvk.out, markNs_at ns k j hlt, hq, hn.out]
   subst hm
   have hva := hva.below hb hbs
   have c0 : wr.cell? ⟨b, off + j * 2, none⟩ = some (.int .i64 (q : Int)) := hva.tag
   have c1 : wr.cell? ⟨b, off + j * 2 + 1, none⟩ = some (.slice av n cv) := by have := hva.sl; rwa [markVs_length] at this
   have hv1 : ValsAt wr.heap.size wr av (markVs (q + 1) n) := hva.vals.mono hb.size
   have h1 := mEnd_take_le ns k (j + 1)
   have h2 := mEnd_take_succ ns k j hlt
   have h3 := mEnd_le (ns.take j) k
   have h4 := hn.out
   have hqq : q + 1 + 4 * n ≤ 1099511627776 := by omega
   have hq0 : k ≤ q := by omega
   have hqe : Hid (q + 1 + 4 * n = mEnd k (ns.take (j + 1))) := by show _ = _; omega
   clear h1 h2 h3 h4 hq ha hvk hva
   have hd : ¬ ((q : Int) + 1 + 4 * (n : Int) < 0) := by omega
   go_wp2_with (go_at_call 86; rw [show ((q : Int) + 1) = ((q + 1 : Nat) : Int) by omega]; refine (heldValS_any av n cv (q + 1) _ (by omega) (by omega) hv1).mono ?_; rintro e w2 ⟨rfl, hb2⟩)
   go_roundw
   case rel => exact ⟨j + 1, q + 1 + 4 * n, by omega, hqe.out, by go_num, by go_num, gca hb hb2⟩
   case measure => simp [intOf]; omega
  ·
   have e : j = ns.length := by omega
   subst e
   rw [List.take_length] at hq
   subst hq
   go_wp2
   go_ret
   exact ⟨rfl, hb⟩
theorem eqTaken_same (t : TK) (na nb : Option Addr) (nc nd : Nat) (w : World) (hg : t.g.Ok) (ha : NodesAt w.heap.size w na t.g.nodes) (hb : NodesAt w.heap.size w nb t.g.nodes) :
  Calls Tryz.prog 9 #[t.val na nc, t.val nb nd] w fun e w' => e = .returned (.bool true) ∧ Below w.heap.size w w' := by
 have hA : Below w.heap.size w ((w.alloc (.cells #[.int .i64 t.code, .int .i64 t.gen, .int .i64 t.g.root.kind, .int .i64 t.g.root.num, .string t.g.root.text, .int .i64 t.g.root.node, .slice na t.g.nodes.length nc] 33)).alloc (.cells #[.int .i64 t.code, .int .i64 t.gen, .int .i64 t.g.root.kind, .int .i64 t.g.root.num, .string t.g.root.text, .int .i64 t.g.root.node, .slice nb t.g.nodes.length nd] 33)) := gal (gal (gre w) _) _
 have h1 := (V7.new_at w (.int .i64 t.code) (.int .i64 t.gen) (.int .i64 t.g.root.kind) (.int .i64 t.g.root.num) (.string t.g.root.text) (.int .i64 t.g.root.node) (.slice na t.g.nodes.length nc) 33 w.heap.size rfl).grow (gal (gre _) (.cells #[.int .i64 t.code, .int .i64 t.gen, .int .i64 t.g.root.kind, .int .i64 t.g.root.num, .string t.g.root.text, .int .i64 t.g.root.node, .slice nb t.g.nodes.length nd] 33))
 have h2 := V7.new_at (w.alloc (.cells #[.int .i64 t.code, .int .i64 t.gen, .int .i64 t.g.root.kind, .int .i64 t.g.root.num, .string t.g.root.text, .int .i64 t.g.root.node, .slice na t.g.nodes.length nc] 33)) (.int .i64 t.code) (.int .i64 t.gen) (.int .i64 t.g.root.kind) (.int .i64 t.g.root.num) (.string t.g.root.text) (.int .i64 t.g.root.node) (.slice nb t.g.nodes.length nd) 33 (w.heap.size + 1) (by simp)
 have b0 : (t.code != t.code) = false := by simp
 have b1 : (t.gen != t.gen) = false := by simp
 go_enter Tryz.func9, Tryz.ntmps9
 go_upto_region 1 with fail
 generalize (w.alloc (.cells #[.int .i64 t.code, .int .i64 t.gen, .int .i64 t.g.root.kind, .int .i64 t.g.root.num, .string t.g.root.text, .int .i64 t.g.root.node, .slice na t.g.nodes.length nc] 33)).alloc (.cells #[.int .i64 t.code, .int .i64 t.gen, .int .i64 t.g.root.kind, .int .i64 t.g.root.num, .string t.g.root.text, .int .i64 t.g.root.node, .slice nb t.g.nodes.length nd] 33) = w1 at hA h1 h2 ⊢
 obtain ⟨_, p0, p1, p2, p3, p4, p5, p6, _⟩ := id h1
 obtain ⟨_, q0, q1, q2, q3, q4, q5, q6, _⟩ := id h2
 go_wp2_with (go_at_call 32; refine (eqGraph_same na nb nc nd t.g w1 hg (ha.grow hA) (hb.grow hA)).mono ?_; rintro e w2 ⟨rfl, hb2⟩)
 go_ret
 exact ⟨rfl, gca hA hb2⟩
theorem OwnG.touch {w : World} {base : Nat} {na : Option Addr} {nc : Nat} {nl : List NL} (h : OwnG w base na nc nl) {b : Nat} (hb : Touch na nl.length (fun i => nl[i]!.a) b) : base ≤ b ∧ b < w.heap.size := by
 rcases hb with e | ⟨i, hi, e⟩
 · exact h.nodes.lt b (by rw [e]; rfl)
 · exact (h.vals _ (mem_at hi)).lt b (by simp only at e; rw [e]; rfl)
theorem mEnd_small (l : List GN) (h : ∀ n, n ∈ l → n.vals.length ≤ 100) : ∀ k, mEnd k l ≤ k + 401 * l.length := by
 induction l with
 | nil => intro k; simp [mEnd]
 | cons x r ih =>
  intro k
  have h1 := ih (fun n hn => h n (List.mem_cons_of_mem _ hn)) (k + 1 + 4 * x.vals.length)
  have h2 := h x (List.mem_cons_self ..)
  simp only [mEnd, List.length_cons]
  omega
theorem crashKeeps_any (j K : Nat) (ka : Option Addr) (ks : List Bool) (kc : Nat) (w : World) (hj : j ≤ 1000) (_hl : ks.length ≤ maxLen) (hc : w.cell? ⟨K, 0, none⟩ = some (.slice ka ks.length kc)) (ha : BoolsAt w ka ks) :
  Calls Tryz.prog 153 #[.int .i64 j, .pointer (some ⟨K, 0, none⟩)] w fun e w' => e = .returned (.bool (keepOf ks j)) ∧ Below w.heap.size w w' := by
 by_cases hlt : j < ks.length
 ·
  obtain ⟨b, off, rfl, hb⟩ := ha j hlt
  have i0 : (0 : Int) ≤ (j : Int) := by omega
  have i1 : (j : Int) < (ks.length : Int) := by omega
  have he : Hid (keepOf ks j = ks[j]!) := by show _ = _; simp [keepOf, hlt]
  obtain ⟨x, hx⟩ := hid_ex ks[j]!
  rw [← hx.out] at hb
  go_enter Tryz.func153, Tryz.ntmps153
  go_wp2
  go_ret
  exact ⟨by rw [he.out, ← hx.out]; rfl, gre _⟩
 ·
  have i1 : ¬ ((j : Int) < (ks.length : Int)) := by omega
  have he : Hid (keepOf ks j = false) := by show _ = _; simp [keepOf]; omega
  go_enter Tryz.func153, Tryz.ntmps153
  go_wp2
  go_ret
  exact ⟨by rw [he.out]; rfl, gre _⟩
theorem BoolsAt.below {w w' : World} {a : Option Addr} {ks : List Bool} {p : Nat} (h : BoolsAt w a ks) (hb : Below p w w') (hp : ∀ b off, a = some ⟨b, off, none⟩ → 0 < ks.length → b < p) : BoolsAt w' a ks := fun i hi => by
 obtain ⟨b, off, ha, hc⟩ := h i hi
 exact ⟨b, off, ha, (World.cell?_of_block (w := w) (hb.block b (hp b off ha (by omega)))).trans hc⟩
theorem powerCrash_any (p : Nat) (bl : List (List Nat)) (pa : Option Addr) (pc : Nat) (ws : List DW) (K : Nat) (ka : Option Addr) (ks : List Bool) (kc : Nat) (w : World) (hw : ws.length ≤ 201) (hwb : ∀ x, x ∈ ws → 0 ≤ x.block ∧ x.block < 130) (hkl : ks.length ≤ maxLen) (hKp : K < p) (hKc0 : w.cell? ⟨K, 0, none⟩ = some (.slice ka ks.length kc)) (hKb0 : BoolsAt w ka ks) (hkp0 : ∀ b off, ka = some ⟨b, off, none⟩ → 0 < ks.length → b < p) (h : Dr w p bl pa pc ws (.func (.func 153) #[] #[.pointer (some ⟨K, 0, none⟩)])) :
  Calls Tryz.prog 154 #[.pointer (some ⟨p, 0, none⟩)] w fun e w' => e = .returned (.tuple #[]) ∧ Dr w' p (settleN (keepOf ks) bl ws ws.length) none 0 [] (.func (.func 153) #[] #[.pointer (some ⟨K, 0, none⟩)]) ∧ Below p w w' := by
 have hz65 := (zero_of_info zero_pending).1
 have x0 := h.d.ws
 have hpl0 := h.d.lt
 go_enter Tryz.func154, Tryz.ntmps154
 go_wp2
 go_loopw [9] (fun i wr => ∃ k : Nat, k ≤ ws.length ∧ i = .int .i64 k ∧ Dr wr p (settleN (keepOf ks) bl ws k) pa pc ws (.func (.func 153) #[] #[.pointer (some ⟨K, 0, none⟩)]) ∧ Below p w wr) (fun i _ => ws.length - (intOf i).toNat)
 case atStart => exact ⟨0, Nat.zero_le _, rfl, h, Below.refl _ _⟩
 case round =>
  obtain ⟨k, hk, rfl, hD, hb⟩ := hrel
  clear x0
  by_cases hlt : k < ws.length
  ·
   obtain ⟨g, rfl, hg1, hgl, hrg⟩ := owns_pend hD.own hD.w64 hlt
   obtain ⟨n, hn⟩ := hid_ex ws[k]!
   rw [← hn.out] at hrg
   have hnm : n ∈ ws := by rw [hn.out]; exact mem_at hlt
   have hn64 : Hid (n.bytes.length = 64) := h.w64 _ hnm
   have hpl : n.pc.length = 65 := pc_length hn64.out
   have hbl64 : (bcells n.bytes).length = 64 := by rw [bcells_length]; exact hn64.out
   obtain ⟨hn0, hn1⟩ := hwb n hnm
   obtain ⟨m, hm⟩ : ∃ m : Nat, n.block = (m : Int) := ⟨n.block.toNat, by omega⟩
   have i0 : (0 : Int) ≤ (k : Int) := by omega
   have i1 : (k : Int) < (ws.length : Int) := by omega
   go_upto_region 3 with (first
    | (refine wpList_load_mid rfl 194 _ rfl g (k * 65) rfl n.pc _ hrg Tryz.underlying194 rfl (by rw [size_pending, hpl]) ?_)
    | (refine wpList_alloc_big rfl 194 rfl _ hz65 ?_)
    | (refine wpList_store_new rfl 194 _ _ rfl _ n.pc.toArray rfl rfl (by rw [size_pending]; simp [hpl]) (by simp [zeros, hpl]) (all_oneCell_toArray pc_one) ?_))
   have hDA := hD.grow (gal (gre wr) (.cells n.pc.toArray 194))
   have hbA : Below p w (wr.alloc (.cells n.pc.toArray 194)) := hb.alloc (by have := hD.d.lt; omega) _
   have hrn := range_new wr n.pc 194
   have hr1 : (wr.alloc (.cells n.pc.toArray 194)).rangeAt wr.heap.size 1 (bcells n.bytes) := range_drop (cs := [.int .i64 n.block]) hrn
   have hq1 : (wr.alloc (.cells n.pc.toArray 194)).cell? ⟨wr.heap.size, 0, none⟩ = some (.int .i64 (m : Int)) := by rw [← hm]; exact hrn 0 _ rfl
   have hsC : (wr.alloc (.cells n.pc.toArray 194)).heap.size = wr.heap.size + 1 := by simp
   generalize wr.alloc (.cells n.pc.toArray 194) = wC at hDA hbA hr1 hq1 hsC ⊢
   clear hrn hrg
   generalize wr.heap.size = Q at hr1 hq1 hsC hgl ⊢
   have kf := hDA.d.kf
   have hm130 : m < 130 := by omega
   have j0 : (0 : Int) ≤ (m : Int) := by omega
   have j1 : (m : Int) < 130 := by omega
   have hmt : n.block.toNat = m := by omega
   have hmt' : Hid _ := hmt
   have hm' : Hid _ := hm
   have hn0' : Hid _ := hn0
   have hn1' : Hid _ := hn1
   clear hmt hm hn0 hn1
   have hKc : wC.cell? ⟨K, 0, none⟩ = some (.slice ka ks.length kc) := (World.cell?_of_block (w := w) (hbA.block K hKp)).trans hKc0
   have hKb : BoolsAt wC ka ks := hKb0.below hbA hkp0
   cases hkp : (keepOf ks) k with
   | true =>
    have hkp' : Hid _ := hkp
    have hst : Hid (settleN (keepOf ks) bl ws (k + 1) = setB (settleN (keepOf ks) bl ws k) n) := by show _ = _; simp only [settleN]; rw [if_pos hkp, ← hn.out]
    clear hkp
    go_upto_region 4 with (go_at_call 153; refine (crashKeeps_any k K ka ks kc _ (by omega) hkl hKc hKb).mono ?_; rintro e w2 ⟨rfl, hb2⟩; obtain ⟨hD2, hb2A, hq2, hr2⟩ : Dr w2 p (settleN (keepOf ks) bl ws k) (some ⟨g, 0, none⟩) pc ws (.func (.func 153) #[] #[.pointer (some ⟨K, 0, none⟩)]) ∧ Below p w w2 ∧ w2.cell? ⟨Q, 0, none⟩ = some (.int .i64 (m : Int)) ∧ w2.rangeAt Q 1 (bcells n.bytes) := ⟨hDA.grow hb2, hbA.trans (hb2.mono (by have := hDA.d.lt; omega)), cell_later hb2 hq1, range_grow hr1 hb2⟩; rw [hkp'.out])
    refine wp_regionU (fun u => u.cell? ⟨Q, 0, none⟩ = some (.int .i64 (m : Int)) ∧ u.rangeAt Q 1 (bcells n.bytes)) 8 (by kernel_rfl) ⟨hq2, hr2⟩ (fun hS0 => ?_)
    refine anyU_tk (i := 0) rfl hS0 (fun u hSu => by obtain ⟨s0, s1⟩ := hSu; go_simp <;> with_reducible rfl) ?_
    refine anyU_tk (i := 1) rfl hS0 (fun u hSu => by obtain ⟨s0, s1⟩ := hSu; go_simp <;> with_reducible rfl) ?_
    refine anyU_tk (i := 2) rfl hS0 (fun u hSu => by obtain ⟨s0, s1⟩ := hSu; go_simp <;> with_reducible rfl) ?_
    refine anyU_tk (i := 3) rfl hS0 (fun u hSu => by obtain ⟨s0, s1⟩ := hSu; go_simp <;> with_reducible rfl) ?_
    simp only [Act.put, List.getElem_toArray, List.getElem_cons_zero, List.getElem_cons_succ, List.setIfInBounds_toArray, List.set_cons_zero, List.set_cons_succ]
    refine anyU_take (i := 4) rfl (by kernel_rfl) (by kernel_rfl) (by kernel_rfl) (by kernel_rfl) (fun _ _ _ h => h) (yieldsIf_load_mid (by rfl) 136 (.tmp 23) rfl Q 1 (by rfl) (bcells n.bytes) _ (fun _ hS => hS.2) Tryz.underlying136 rfl (by rw [size_content, hbl64])) hS0 ?_
    simp only [Act.put, List.getElem_toArray, List.getElem_cons_zero, List.getElem_cons_succ, List.setIfInBounds_toArray, List.set_cons_zero, List.set_cons_succ]
    obtain ⟨s0, s1⟩ := id hS0
    refine anyU_one (i := 5) (by kernel_rfl) rfl (fun K hK => ?_)
    go_simp
    refine hK.out _ _ hS0 ?_
    clear hK
    refine anyU_one (i := 6) (by kernel_rfl) rfl (fun K hK => ?_)
    go_simp
    refine hK.out _ _ hS0 ?_
    clear hK
    refine anyU_one (i := 7) (by kernel_rfl) rfl (fun K hK => ?_)
    go_simp
    refine hK.out _ _ hS0 ?_
    clear hK
    refine anyU_last (by kernel_rfl) rfl (by kernel_rfl) (fun K hK => ?_)
    rw [if_pos (by rfl)]
    refine wp_store_mid 136 (.tmp 27) (.tmp 24) rfl p (m * 64) (bcells n.bytes).toArray (by rfl) (by rfl) (by rw [List.size_toArray, hbl64]; exact there_part (hD2.d.grow (gdr (gre w2))).th (Nat.zero_le _) (by omega)) (by rw [size_content, List.size_toArray, hbl64]) (all_oneCell_toArray cells_u8) ?_
    refine hK.out _ _ ?_
    clear hK
    simp only [Act.put, List.getElem_toArray, List.getElem_cons_zero, List.getElem_cons_succ]
    have hfin := (hD2.d.grow (gdr (gre w2))).setB (x := n) hn0'.out hn1'.out hn64.out
    rw [hmt'.out, ← hst.out] at hfin
    have hKs := Kept.setCells (p := fun z => z = p) (bcells n.bytes) (m * 64) (Kept.refl _ w2.drew) (fun _ => rfl)
    go_wp2
    go_roundw
    case rel => exact ⟨k + 1, by omega, by go_num, ⟨hfin, hKs.owns (hD2.grow (gdr (gre w2))).own (fun z hz e => by have := (hD2.own.lt z hz).1; omega), h.w64⟩, (hb2A.trans (gdr (gre w2) |>.mono (by have := hD2.d.lt; omega))).trans (hKs.below (by have := hD2.d.lt; show p ≤ w2.heap.size; omega) (fun z hz e => by omega))⟩
    case measure => simp [intOf]; omega
   | false =>
    have hkp' : Hid _ := hkp
    have hst : Hid (settleN (keepOf ks) bl ws (k + 1) = settleN (keepOf ks) bl ws k) := by show _ = _; simp only [settleN]; rw [if_neg (by rw [hkp]; exact Bool.false_ne_true)]
    clear hkp
    go_wp2_with (go_at_call 153; refine (crashKeeps_any k K ka ks kc _ (by omega) hkl hKc hKb).mono ?_; rintro e w2 ⟨rfl, hb2⟩; rw [hkp'.out])
    go_roundw
    case rel => exact ⟨k + 1, by omega, by go_num, by rw [hst.out]; exact hDA.grow hb2, hbA.trans (hb2.mono (by have := hDA.d.lt; omega))⟩
    case measure => simp [intOf]; omega
  ·
   obtain rfl : k = ws.length := by omega
   have x0 := hD.d.ws
   have xf := hD.d.frozen (o := 8320) (by decide)
   have hfin := hD.d.setW (.slice none 0 0)
   go_wp2
   first | go_end0 | refine bodyPost_ret (results_none rfl _ _ _) rfl ?_
   exact ⟨rfl, ⟨hfin, owns_none _ _ _ _, fun x hx => (by cases hx)⟩, hb.trans ((Kept.one wr p 8320 _).below (by have := hD.d.lt; omega) (fun z hz e => by omega))⟩
theorem implBlank_any (w : World) : Calls Tryz.prog 43 #[] w (DPost blankD w) := by
 obtain ⟨Z, hZ⟩ := hid_ex driveZ.toArray
 have hz : ∀ u, (zeroValue 141).run Tryz.prog u = .ok (.agg Z) u := by rw [hZ.out]; exact (zero_of_info zero_drive).1
 have hw1 := gal (gre w) (.cells #[.slice none 0 0, .slice none 0 0] 37)
 have hs1 : (w.alloc (.cells #[.slice none 0 0, .slice none 0 0] 37)).heap.size = w.heap.size + 1 := by simp
 have r0 : (w.alloc (.cells #[.slice none 0 0, .slice none 0 0] 37)).cell? ⟨w.heap.size, 0, none⟩ = some (.slice none 0 0) := by simp
 have r1 : (w.alloc (.cells #[.slice none 0 0, .slice none 0 0] 37)).cell? ⟨w.heap.size, 1, none⟩ = some (.slice none 0 0) := by simp
 have rf : ∀ o, (w.alloc (.cells #[.slice none 0 0, .slice none 0 0] 37)).frozen? ⟨w.heap.size, o, none⟩ = false := fun o => by simp
 have hN0 := Drv.new (w.alloc (.cells #[.slice none 0 0, .slice none 0 0] 37))
 rw [← hZ.out, hs1] at hN0
 have hD0 : Dr _ (w.heap.size + 1) blankD.blocks none 0 [] .nilFunc := ⟨hN0, owns_none _ _ _ _, fun x hx => by cases hx⟩
 go_enter Tryz.func43, Tryz.ntmps43
 go_wp2_with (first
  | (refine wpList_alloc_big rfl 141 rfl Z hz ?_)
  | (go_at_call 79; refine (disk_any (w.heap.size + 1) blankD.blocks none 0 [] .nilFunc _ (by decide) hD0).mono ?_; rintro e w2 ⟨l, fa, ga, fc, gc, rfl, hmd, hb2⟩; have hb3 := gca (gal (gre _) (.cells Z 141)) hb2; have z0 := cell_later hb3 r0; have z1 := cell_later hb3 r1; have zf : ∀ o, w2.frozen? ⟨w.heap.size, o, none⟩ = false := (fun o => (hb3.frozen (p := ⟨w.heap.size, o, none⟩) (by show w.heap.size < _; omega)).trans (rf o))))
 obtain ⟨c0, c1, K⟩ := ret2 (A := .slice l.ba blankD.blocks.length l.bc) (B := .slice l.wa 0 l.wc) z0 z1
 refine bodyPost_ret (v := blankD.val l) (by simp [results, Tryz.results43, go_sem, c0, c1]; rfl) rfl ⟨l, fa, ga, fc, gc, rfl, MD.last (d := blankD) hmd K (by simp; omega) (by simp; omega) K.size, ?_⟩
 exact (gca hw1 hb3).trans (K.below (by have := hb3.size; omega) (fun z hz e => by omega))
theorem implCrash_any (d : DD) (l : DL) (ka : Option Addr) (ks : List Bool) (kc : Nat) (w : World) (hd : d.Ok) (ha : DAt w l d) (hkl : ks.length ≤ maxLen) (hk0 : BoolsAt w ka ks) : Calls Tryz.prog 125 #[d.val l, .slice ka ks.length kc] w (DPost (d.settle (keepOf ks)) w) := by
 have hmf : ∀ (fn : Fn) (first cap : Array Value) (w : World), (Instr.makeFunc fn first cap).run Tryz.prog w = .ok (.func fn first cap) w := fun _ _ _ _ => rfl
 have hA := gal (gal (gal (gre w) (.cells #[.slice l.ba d.blocks.length l.bc, .slice l.wa d.waiting.length l.wc] 37)) (.cells #[.slice ka ks.length kc] 82)) (.cells #[.slice none 0 0, .slice none 0 0] 37)
 have hX0 := (DBox.new w d l 37).grow (gal (gal (gre _) (.cells #[.slice ka ks.length kc] 82)) (.cells #[.slice none 0 0, .slice none 0 0] 37))
 have hR0 := VB.new_at ((w.alloc (.cells #[.slice l.ba d.blocks.length l.bc, .slice l.wa d.waiting.length l.wc] 37)).alloc (.cells #[.slice ka ks.length kc] 82)) (.slice none 0 0) (.slice none 0 0) 37 (w.heap.size + 1 + 1) (by simp)
 have hK0 : (((w.alloc (.cells #[.slice l.ba d.blocks.length l.bc, .slice l.wa d.waiting.length l.wc] 37)).alloc (.cells #[.slice ka ks.length kc] 82)).alloc (.cells #[.slice none 0 0, .slice none 0 0] 37)).cell? ⟨w.heap.size + 1, 0, none⟩ = some (.slice ka ks.length kc) := by
  have e1 : (w.alloc (.cells #[.slice l.ba d.blocks.length l.bc, .slice l.wa d.waiting.length l.wc] 37)).heap.size = w.heap.size + 1 := by simp
  refine cell_later (gal (gre _) _) ?_
  rw [← e1]; simp
 have hkf0 : ∀ b off, ka = some ⟨b, off, none⟩ → 0 < ks.length → b < w.heap.size := fun b off e h0 => by
  obtain ⟨b', off', e', hc'⟩ := hk0 0 h0
  have h1 := World.block_lt_of_cell? _ _ hc'
  rw [e] at e'
  have h2 := congrArg (fun q => q.map Addr.block) e'
  simp at h1 h2
  omega
 cases hok : d.ok with
 | false =>
  have hok' : Hid _ := hok
  clear hok
  rw [settle_no hok'.out]
  go_enter Tryz.func125, Tryz.ntmps125
  go_wp2_with (go_at_call 61; refine (implDiskOk_any d l _ hd (ha.grow hA)).mono ?_; rintro e w2 ⟨rfl, hb2⟩; rw [hok'.out]; obtain ⟨z0, z1, zf⟩ := hR0.grow hb2)
  obtain ⟨c0, c1, K⟩ := ret2 (A := .slice none 0 0) (B := .slice none 0 0) z0 z1
  refine bodyPost_ret (v := .agg #[.slice none 0 0, .slice none 0 0]) (by simp [results, Tryz.results125, go_sem, c0, c1]) rfl (DPost.zero ?_)
  exact (gca hA hb2).trans (K.below (gca hA hb2).size (fun z hz e => by omega))
 | true =>
  have hok' : Hid _ := hok
  clear hok
  have hfit := DD.fit hok'.out
  rw [settle_yes hok'.out]
  obtain ⟨d', hd'⟩ := hid_ex (DD.mk (settleN (keepOf ks) d.blocks d.waiting d.waiting.length) [])
  rw [← hd'.out]
  go_enter Tryz.func125, Tryz.ntmps125
  go_upto_region 4 with (first
   | (go_at_call 61; refine (implDiskOk_any d l _ hd (ha.grow hA)).mono ?_; rintro e w2 ⟨rfl, hb2⟩; rw [hok'.out]; obtain ⟨_, x0, x1⟩ := hX0.grow hb2)
   | (go_at_call 105; refine (driveOf_any d l _ hfit (ha.grow (gca hA hb2))).mono ?_; rintro e w3 ⟨p, pa, pc, rfl, hp3, hDr, hb3⟩))
  have hR3 := (hR0.grow hb2).grow hb3
  have hb3A := gca (gca hA hb2) hb3
  have hRp : w.heap.size + 1 + 1 < p := by have := (hR0.grow hb2).lt; omega
  have hwp : w.heap.size ≤ p := by have := (gca hA hb2).size; omega
  have hkp : ∀ b off, ka = some ⟨b, off, none⟩ → 0 < ks.length → b < p := fun b off e h0 => Nat.lt_of_lt_of_le (hkf0 b off e h0) hwp
  have kf := hDr.d.kf
  have kz := hDr.d.frozen (o := 8321) (by decide)
  have hKc3 := cell_later hb3 (cell_later hb2 hK0)
  have hKb3 := hk0.grow hb3A
  go_upto_region 5 with fail
  have hD4 := hDr.d.setK (.func (.func 153) #[] #[.pointer (some ⟨w.heap.size + 1, 0, none⟩)])
  have K4 := Kept.one w3 p 8321 (.func (.func 153) #[] #[.pointer (some ⟨w.heap.size + 1, 0, none⟩)])
  have hO4 := K4.owns hDr.own (fun z hz e => by have := (hDr.own.lt z hz).1; omega)
  have hR4 := hR3.kept K4 (by omega)
  have hb4 := hb3A.trans (K4.below hb3A.size (fun z hz e => by omega))
  have hDr4 : Dr (w3.setCell ⟨p, 8321, none⟩ (.func (.func 153) #[] #[.pointer (some ⟨w.heap.size + 1, 0, none⟩)])) p d.blocks pa pc d.waiting (.func (.func 153) #[] #[.pointer (some ⟨w.heap.size + 1, 0, none⟩)]) := ⟨hD4, hO4, hDr.w64⟩
  have hKc4 := K4.cell hKc3 (by omega)
  have hKb4 : BoolsAt _ ka ks := hKb3.below (K4.below (B := p) (Nat.le_of_lt hDr.d.lt) (fun z hz e => by omega)) hkp
  generalize w3.setCell ⟨p, 8321, none⟩ (.func (.func 153) #[] #[.pointer (some ⟨w.heap.size + 1, 0, none⟩)]) = w4 at hD4 K4 hO4 hR4 hb4 hDr4 hKc4 hKb4 ⊢
  clear hD4 K4 hO4 hDr kf kz hR3 hb3A
  go_upto_region 6 with (go_at_call 154; refine (powerCrash_any p d.blocks pa pc d.waiting (w.heap.size + 1) ka ks kc _ (by have := hfit.wl; omega) (fun x hx => ⟨(hfit.wb x hx).1, (hfit.wb x hx).2.1⟩) hkl (by omega) hKc4 hKb4 hkp hDr4).mono ?_; rintro e w5 ⟨rfl, hDr5, hb5⟩)
  have hR5 := hR4.below hb5 hRp
  have hb5A := hb4.trans (hb5.mono hwp)
  go_upto_region 99 with (go_at_call 79; refine (disk_any p _ none 0 [] _ _ (by decide) hDr5).mono ?_; rw [← hd'.out]; rintro e w6 ⟨l6, fa, ga, fc, gc, rfl, hmd, hb6⟩; obtain ⟨z0, z1, zf⟩ := hR5.grow hb6)
  obtain ⟨c0, c1, K⟩ := ret2 (A := .slice l6.ba d'.blocks.length l6.bc) (B := .slice l6.wa d'.waiting.length l6.wc) z0 z1
  have hb6A := gca hb5A hb6
  refine bodyPost_ret (v := d'.val l6) (by simp [results, Tryz.results125, go_sem, c0, c1]) rfl ⟨l6, fa, ga, fc, gc, rfl, hmd.last K (by have := hR5.lt; omega) (by have := hb5A.size; omega) K.size, ?_⟩
  exact hb6A.trans (K.below hb6A.size (fun z hz e => by omega))


end Go.Proofs.YthjddpkegooobacGreatDoor
