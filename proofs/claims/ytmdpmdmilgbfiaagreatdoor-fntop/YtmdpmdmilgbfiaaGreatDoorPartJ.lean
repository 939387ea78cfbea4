import Derived.Test.YtmdpmdmilgbfiaaGreatDoorPartI
namespace Go.Proofs.YtmdpmdmilgbfiaaGreatDoor
open Go.RowKit
set_option maxRecDepth 100000
set_option maxHeartbeats 8000000
def OPost (ys : List Nat) (w : World) (e : Ending) (w' : World) : Prop := ∃ oa c, e = .returned (.slice oa ys.length c) ∧ w'.ownsRow w.heap.size 5 1 (.slice oa ys.length c) ys.length (bcells ys) ∧ Below w.heap.size w w'
theorem l3read_own (d : DD) (l : DL) (m : Nat) (w : World) (hd : d.Fit) (ha : DAt w l d) (hm : m < 130) : Calls Tryz.prog 134 #[d.val l, .int .i64 (m : Int)] w (OPost (readN d.blocks d.waiting (m : Int) d.waiting.length) w) := by
 obtain ⟨ys, hys⟩ := hid_ex (readN d.blocks d.waiting (m : Int) d.waiting.length)
 rw [← hys.out]
 have hA := gal (gre w) (.cells #[.slice l.ba d.blocks.length l.bc, .slice l.wa d.waiting.length l.wc] 46)
 have hX0 := DBox.new w d l 46
 have hwl := hd.wl
 go_enter Tryz.func134, Tryz.ntmps134
 go_wp2
 generalize w.alloc (.cells #[.slice l.ba d.blocks.length l.bc, .slice l.wa d.waiting.length l.wc] 46) = wA at hA hX0 ⊢
 go_loopw [5] (fun i wr => ∃ j : Nat, j ≤ d.waiting.length ∧ i = .int .i64 ((j : Int) - 1) ∧ Hid (ys = readN d.blocks d.waiting (m : Int) j) ∧ Below wA.heap.size wA wr) (fun i _ => (intOf i + 1).toNat)
 case atStart => exact ⟨d.waiting.length, Nat.le_refl _, by go_num, hys, gre _⟩
 case round =>
  obtain ⟨j, hj, rfl, hr, hb⟩ := hrel
  have hX := hX0.grow hb
  have x0 := hX.c0
  have x1 := hX.c1
  have hB := gca hA hb
  cases j with
  | zero =>
   have hlt : m < d.blocks.length := by rw [hd.bl]; exact hm
   obtain ⟨n, b, off, av, cv, hvk, hvm, hba, c0, hva⟩ := (ha.b.grow hB).get hlt
   rw [hba] at x0
   have hn64 := hd.bb n hvm
   have hyn : Hid (ys = n) := by show _ = _; rw [hr.out, hvk.out]; simp [readN]
   have i0 : (0 : Int) ≤ (m : Int) := by omega
   have i1 : (m : Int) < (d.blocks.length : Int) := by omega
   have hn64' : Hid _ := hn64
   clear hn64
   rw [show ((0 : Nat) : Int) - 1 = -1 by rfl]
   go_wp2_with (go_at_call 110; refine (l2copy_any av n cv _ (by rw [hn64'.out]; decide) hva).mono ?_; rintro e w2 ⟨oa, oc, rfl, hown, hb2⟩)
   go_ret
   exact ⟨oa, oc, by rw [hyn.out]; rfl, by rw [hyn.out]; exact owns_le hown hB.size, gca hB hb2⟩
  | succ k =>
   have hlt : k < d.waiting.length := by omega
   obtain ⟨n, b, off, av, cv, hvk, hvm, hba, c0, c1, hva⟩ := (ha.w.grow hB).get hlt
   rw [hba] at x1
   have hn64 := (hd.wb n hvm).2.2
   have i0 : (0 : Int) ≤ (k : Int) := by omega
   have i1 : (k : Int) < (d.waiting.length : Int) := by omega
   have i2 : ((k : Int) ≥ 0) := by omega
   have hn64' : Hid _ := hn64
   clear hn64
   rw [show ((k + 1 : Nat) : Int) - 1 = (k : Int) by omega]
   by_cases heq : n.block = (m : Int)
   ·
    have t1 : (n.block == (m : Int)) = true := by simp [heq]
    have hyn : Hid (ys = n.bytes) := by show _ = _; rw [hr.out]; simp only [readN]; rw [← hvk.out, if_pos heq]
    have heq' : Hid _ := heq
    clear heq
    go_wp2_with (go_at_call 110; refine (l2copy_any av n.bytes cv _ (by rw [hn64'.out]; decide) hva).mono ?_; rintro e w2 ⟨oa, oc, rfl, hown, hb2⟩)
    go_ret
    exact ⟨oa, oc, by rw [hyn.out]; rfl, by rw [hyn.out]; exact owns_le hown hB.size, gca hB hb2⟩
   ·
    have t1 : (n.block == (m : Int)) = false := by simpa using heq
    have hst : Hid (ys = readN d.blocks d.waiting (m : Int) k) := by show _ = _; rw [hr.out]; simp only [readN]; rw [← hvk.out, if_neg heq]
    clear heq
    go_wp2
    go_roundw
    case rel => exact ⟨k, by omega, by go_num, hst, hb⟩
    case measure => first | (simp [intOf]; done) | (simp [intOf]; omega)
def DD.rd (d : DD) (m : Nat) : List Nat := readN d.blocks d.waiting (m : Int) d.waiting.length
theorem DD.rd_len {d : DD} (h : d.Fit) {m : Nat} (hm : m < 130) : (d.rd m).length = 64 :=
 readN_mem (p := fun x => x.length = 64) h.bb (fun x hx => (h.wb x hx).2.2) (by rw [h.bl]; simpa using hm) _ (Nat.le_refl _)
theorem DD.rd_byte {d : DD} (h : d.Fit) (ho : d.Ok) {m : Nat} (hm : m < 130) : ∀ x, x ∈ d.rd m → x < 256 :=
 readN_mem (p := fun b => ∀ x, x ∈ b → x < 256) (fun b hb => (ho.bb b hb).byte) (fun x hx => (ho.wb x hx).byte) (by rw [h.bl]; simpa using hm) _ (Nat.le_refl _)
theorem sLow_some : ∀ (k i n : Nat) (r : List Nat), k ≤ r.length → ∃ x, sLow k i n r = some (x, r.drop k)
 | 0, _, n, r, _ => ⟨n, rfl⟩
 | k + 1, i, n, x :: r, h => by
  obtain ⟨y, hy⟩ := sLow_some k (i + 1) (orU n x (8 * i)) r (by simpa using h)
  exact ⟨y, hy⟩
theorem head_three {bs : List Nat} {g l s : Nat} {r1 r2 r3 : List Nat} (h1 : sLow 8 0 0 (bs.drop 4) = some (g, r1)) (h2 : sLow 8 0 0 r1 = some (l, r2)) (h3 : sLow 8 0 0 r2 = some (s, r3)) {x : HH} (hx : x.Is bs) : (g : Int) = x.gen ∧ (l : Int) = x.len ∧ wrap64 (s : Int) = x.sum := by
 have hr := rng_i64 hx.rng
 have e0 : ∀ n : Int, (n : Int) = n := fun _ => rfl
 have hb : ∀ (n : Int) (r : List Nat), sLow 8 0 0 (lowB 8 (u64n n) ++ r) = some (u64n n, r) := fun n r => by
  have h := sLow_back 8 0 0 (u64n n) r (by omega) (by simp)
  rw [h]
  have e1 : u64n n % 2 ^ (8 * 8) = u64n n := Nat.mod_eq_of_lt (u64n_lt n)
  rw [e1]; simp
 rw [hx.eq, headB_drop, hb] at h1
 injection h1 with h1
 injection h1 with e1 e1'
 rw [← e1', hb] at h2
 injection h2 with h2
 injection h2 with e2 e2'
 rw [← e2', hb] at h3
 injection h3 with h3
 injection h3 with e3 e3'
 have hs := hx.sum
 unfold I64 at hs
 refine ⟨?_, ?_, ?_⟩
 · rw [← e1]; unfold u64n; omega
 · rw [← e2]; unfold u64n; omega
 · rw [← e3]; unfold u64n wrap64; omega
theorem SR.new {w : World} {oa : Option Addr} {bs : List Nat} {c : Nat} (ha : BytesAt w oa bs) (hc : bs.length ≤ c) (hl : bs.length ≤ 4096) (hb : ∀ x, x ∈ bs → x < 256) (k : Nat) (hk : k ≤ bs.length + 2) (z : Int) (hz : z = (k : Int)) : SR (w.alloc (.cells #[.slice oa bs.length c, .int .i64 z, .bool false] 171)) w.heap.size oa c bs k false := by
 subst hz
 have hA := gal (gre w) (.cells #[.slice oa bs.length c, .int .i64 (k : Int), .bool false] 171)
 exact ⟨by simp, by simp, by simp, by simp, fun o => by simp, ha.low.below hA, hc, hl, hb, hk⟩
theorem owns_capH {w : World} {base n cap : Nat} {a : Option Addr} {t : TypeId} {k : Nat} {xs : List Value} (h : w.ownsRow base t k (.slice a n cap) n xs) : n ≤ cap := by
 rcases h.2 with ⟨_, h2⟩ | ⟨g, c, cur, h1, _, _, h4, _⟩
 · omega
 ·
  injection h1 with _ _ e
  omega
structure HV (w : World) (R : Nat) (h : HH) : Prop where
 box : HBox w R h.ok h.gen h.len h.sum
 f : ∀ o, w.frozen? ⟨R, o, none⟩ = false
theorem HV.kept {p : Nat → Prop} {w w' : World} {b : Nat} {h : HH} (hv : HV w b h) (k : Kept p w w') (hn : ¬ p b) : HV w' b h :=
 ⟨hv.box.kept k hn, fun o => (World.frozen?_of_block (w := w) (a := ⟨b, o, none⟩) (k.block b hv.box.lt hn)).trans (hv.f o)⟩
theorem HV.grow {w w' : World} {b : Nat} {h : HH} (hv : HV w b h) (k : Below w.heap.size w w') : HV w' b h := hv.kept (Kept.of_below k (fun _ => False)) (fun e => e)
theorem HV.new_at (w : World) (h : HH) (t : TypeId) (R : Nat) (hR : R = w.heap.size) : HV (w.alloc (.cells #[.bool h.ok, .int .i64 h.gen, .int .i64 h.len, .int .i64 h.sum] t)) R h := by
 subst hR
 exact ⟨HBox.new w _ _ _ _ _, fun o => by simp⟩
theorem ret4 {w : World} {R : Nat} {h : HH} (hv : HV w R h) (A B C D : Value) :
  (w.setCell ⟨R, 0, none⟩ A).cell? ⟨R, 0, none⟩ = some A ∧ ((w.setCell ⟨R, 0, none⟩ A).setCell ⟨R, 1, none⟩ B).cell? ⟨R, 1, none⟩ = some B ∧ (((w.setCell ⟨R, 0, none⟩ A).setCell ⟨R, 1, none⟩ B).setCell ⟨R, 2, none⟩ C).cell? ⟨R, 2, none⟩ = some C ∧ ((((w.setCell ⟨R, 0, none⟩ A).setCell ⟨R, 1, none⟩ B).setCell ⟨R, 2, none⟩ C).setCell ⟨R, 3, none⟩ D).cell? ⟨R, 3, none⟩ = some D ∧
   Kept (fun b => b = R) w ((((w.setCell ⟨R, 0, none⟩ A).setCell ⟨R, 1, none⟩ B).setCell ⟨R, 2, none⟩ C).setCell ⟨R, 3, none⟩ D) := by
 refine ⟨World.cell?_setCell_same _ _ _ hv.box.c0, World.cell?_setCell_same _ _ _ ((World.cell?_setCell_other _ _ _ _ (by simp)).trans hv.box.c1), World.cell?_setCell_same _ _ _ (((World.cell?_setCell_other _ _ _ _ (by simp)).trans (World.cell?_setCell_other _ _ _ _ (by simp))).trans hv.box.c2), World.cell?_setCell_same _ _ _ ((((World.cell?_setCell_other _ _ _ _ (by simp)).trans (World.cell?_setCell_other _ _ _ _ (by simp))).trans (World.cell?_setCell_other _ _ _ _ (by simp))).trans hv.box.c3), ?_⟩
 exact ((((Kept.refl (fun b => b = R) w).set (a := ⟨R, 0, none⟩) (fun _ => rfl) A).set (a := ⟨R, 1, none⟩) (fun _ => rfl) B).set (a := ⟨R, 2, none⟩) (fun _ => rfl) C).set (a := ⟨R, 3, none⟩) (fun _ => rfl) D
theorem sEight_known (b : Nat) (sa : Option Addr) (cap : Nat) (bs : List Nat) (at_ : Nat) (x : Nat) (r : List Nat) (w : World) (hR : SR w b sa cap bs at_ false) (hx : Hid (sLow 8 0 0 (bs.drop at_) = some (x, r))) :
  Calls Tryz.prog 137 #[.pointer (some ⟨b, 0, none⟩)] w fun e w' => e = .returned (.int .u64 (x : Int)) ∧ (∃ at', SR w' b sa cap bs at' false ∧ Hid (bs.drop at' = r)) ∧ Kept (fun k => k = b) w w' :=
 (sEight_any b sa cap bs at_ false w hR).mono fun e w' ⟨hK, y, at', bad', he, _, hS, _, hr⟩ => by
  rcases hr.out.2 rfl with ⟨rfl, e1⟩ | ⟨_, e1⟩
  ·
   rw [hx.out] at e1
   injection e1 with e1
   injection e1 with e2 e3
   subst e2
   exact ⟨he, ⟨at', hS, e3.symm⟩, hK⟩
  ·
   rw [hx.out] at e1
   cases e1
structure HRead (bs : List Nat) (g l s : Nat) (r1 r2 r3 : List Nat) : Prop where
 e1 : sLow 8 0 0 (bs.drop 4) = some (g, r1)
 e2 : sLow 8 0 0 r1 = some (l, r2)
 e3 : sLow 8 0 0 r2 = some (s, r3)
theorem hread {bs : List Nat} (h : bs.length = 64) : ∃ g l s r1 r2 r3, HRead bs g l s r1 r2 r3 := by
 obtain ⟨g, hg⟩ := sLow_some 8 0 0 (bs.drop 4) (by rw [List.length_drop]; omega)
 obtain ⟨l, hl⟩ := sLow_some 8 0 0 ((bs.drop 4).drop 8) (by rw [List.length_drop, List.length_drop]; omega)
 obtain ⟨s, hs⟩ := sLow_some 8 0 0 (((bs.drop 4).drop 8).drop 8) (by rw [List.length_drop, List.length_drop, List.length_drop]; omega)
 exact ⟨g, l, s, _, _, _, hg, hl, hs⟩
theorem l4head_any (d : DD) (l : DL) (m : Nat) (w : World) (hf : d.Fit) (ho : d.Ok) (ha : DAt w l d) (hm : m < 130) :
  Calls Tryz.prog 133 #[d.val l, .int .i64 (m : Int)] w fun e w' => e = .returned (headOf (d.rd m)).val ∧ Below w.heap.size w w' := by
 obtain ⟨bs, hbs⟩ := hid_ex (d.rd m)
 have hbl : Hid (bs.length = 64) := by show _ = _; rw [hbs.out]; exact DD.rd_len hf hm
 have hbb : ∀ x, x ∈ bs → x < 256 := by rw [hbs.out]; exact DD.rd_byte hf ho hm
 rw [← hbs.out]
 obtain ⟨G, L, S, r1, r2, r3, hE⟩ := hread hbl.out
 have E1 : Hid _ := hE.e1
 have E2 : Hid _ := hE.e2
 have E3 : Hid _ := hE.e3
 have hA := gal (gal (gre w) (.cells #[.slice l.ba d.blocks.length l.bc, .slice l.wa d.waiting.length l.wc] 46)) (.cells #[.bool false, .int .i64 0, .int .i64 0, .int .i64 0] 65)
 have hR0 := HV.new_at (w.alloc (.cells #[.slice l.ba d.blocks.length l.bc, .slice l.wa d.waiting.length l.wc] 46)) noH 65 (w.heap.size + 1) (by simp)
 have hno : ∀ P : Prop, (P → False) → ((1000000000000 : Int) < (G : Int) ∨ (4096 : Int) < (L : Int) ∨ headOkB true (G : Int) (L : Int) = false ∨ headB (G : Int) (L : Int) (wrap64 (S : Int)) ≠ bs) → headOf bs = noH := fun _ _ h => headOf_no fun x hx => by
  obtain ⟨e1, e2, e3⟩ := head_three hE.e1 hE.e2 hE.e3 hx
  have hr := rng_i64 hx.rng
  rcases h with h | h | h | h
  · omega
  · omega
  · rw [e1, e2, hx.rng] at h; cases h
  · rw [e1, e2, e3] at h; exact h hx.eq.symm
 go_enter Tryz.func133, Tryz.ntmps133
 by_cases t1 : (1000000000000 : Int) < (G : Int)
 ·
  rw [hno False id (Or.inl t1)]
  go_upto_region 99 with (first
     | (go_at_call 134; refine (l3read_own d l m _ hf (ha.grow hA) hm).mono ?_; rw [show readN d.blocks d.waiting (m : Int) d.waiting.length = bs from hbs.out.symm]; rintro e w1 ⟨oa, c, rfl, hO, hb1⟩; have hlc : bs.length ≤ c := owns_capH hO; have hS0 := SR.new (owns_bytes hO) hlc (by have := hbl.out; omega) hbb 4 (by have := hbl.out; omega) 4 rfl; have hAt := owns_bytes hO; have hRl := (hR0.grow hb1).box.lt; have hb2 := gal hb1 (.cells #[.slice oa bs.length c, .int .i64 4, .bool false] 171))
     | (go_at_call 137; refine (sEight_known _ _ _ _ _ S r3 _ hS2 (by show _ = _; rw [d2.out]; exact E3.out)).mono ?_; rintro e w4 ⟨rfl, ⟨at3, hS3, d3⟩, hK3⟩; have hR4 := (((hR0.grow hb2).kept hK1 (by omega)).kept hK2 (by omega)).kept hK3 (by omega); obtain ⟨⟨_, z0, z1, z2, z3⟩, zf⟩ := id hR4; have hB2 := gca hA hb2; have hB3 := hB2.trans (hK1.below (B := w.heap.size) hB2.size (fun k hk e => by omega)); have hB4 := hB3.trans (hK2.below (B := w.heap.size) hB3.size (fun k hk e => by omega)); have hB5 := hB4.trans (hK3.below (B := w.heap.size) hB4.size (fun k hk e => by omega)); have hK := (hK1.trans hK2 (fun _ _ h => h)).trans hK3 (fun _ _ h => h))
     | (go_at_call 137; refine (sEight_known _ _ _ _ _ L r2 _ hS1 (by show _ = _; rw [d1.out]; exact E2.out)).mono ?_; rintro e w3 ⟨rfl, ⟨at2, hS2, d2⟩, hK2⟩)
     | (go_at_call 137; refine (sEight_known _ _ _ _ _ G r1 _ hS0 E1).mono ?_; rintro e w2 ⟨rfl, ⟨at1, hS1, d1⟩, hK1⟩))
  obtain ⟨c0, c1, c2, c3, K⟩ := ret4 hR4 (.bool false) (.int .i64 0) (.int .i64 0) (.int .i64 0)
  exact bodyPost_ret (v := noH.val) (by simp [results, Tryz.results133, go_sem, c0, c1, c2, c3]) rfl ⟨rfl, hB5.trans (K.below (B := w.heap.size) hB5.size (fun k hk e => by omega))⟩
 ·
  by_cases t2 : (4096 : Int) < (L : Int)
  ·
   rw [hno False id (Or.inr (Or.inl t2))]
   go_upto_region 99 with (first
      | (go_at_call 134; refine (l3read_own d l m _ hf (ha.grow hA) hm).mono ?_; rw [show readN d.blocks d.waiting (m : Int) d.waiting.length = bs from hbs.out.symm]; rintro e w1 ⟨oa, c, rfl, hO, hb1⟩; have hlc : bs.length ≤ c := owns_capH hO; have hS0 := SR.new (owns_bytes hO) hlc (by have := hbl.out; omega) hbb 4 (by have := hbl.out; omega) 4 rfl; have hAt := owns_bytes hO; have hRl := (hR0.grow hb1).box.lt; have hb2 := gal hb1 (.cells #[.slice oa bs.length c, .int .i64 4, .bool false] 171))
      | (go_at_call 137; refine (sEight_known _ _ _ _ _ S r3 _ hS2 (by show _ = _; rw [d2.out]; exact E3.out)).mono ?_; rintro e w4 ⟨rfl, ⟨at3, hS3, d3⟩, hK3⟩; have hR4 := (((hR0.grow hb2).kept hK1 (by omega)).kept hK2 (by omega)).kept hK3 (by omega); obtain ⟨⟨_, z0, z1, z2, z3⟩, zf⟩ := id hR4; have hB2 := gca hA hb2; have hB3 := hB2.trans (hK1.below (B := w.heap.size) hB2.size (fun k hk e => by omega)); have hB4 := hB3.trans (hK2.below (B := w.heap.size) hB3.size (fun k hk e => by omega)); have hB5 := hB4.trans (hK3.below (B := w.heap.size) hB4.size (fun k hk e => by omega)); have hK := (hK1.trans hK2 (fun _ _ h => h)).trans hK3 (fun _ _ h => h))
      | (go_at_call 137; refine (sEight_known _ _ _ _ _ L r2 _ hS1 (by show _ = _; rw [d1.out]; exact E2.out)).mono ?_; rintro e w3 ⟨rfl, ⟨at2, hS2, d2⟩, hK2⟩)
      | (go_at_call 137; refine (sEight_known _ _ _ _ _ G r1 _ hS0 E1).mono ?_; rintro e w2 ⟨rfl, ⟨at1, hS1, d1⟩, hK1⟩))
   obtain ⟨c0, c1, c2, c3, K⟩ := ret4 hR4 (.bool false) (.int .i64 0) (.int .i64 0) (.int .i64 0)
   exact bodyPost_ret (v := noH.val) (by simp [results, Tryz.results133, go_sem, c0, c1, c2, c3]) rfl ⟨rfl, hB5.trans (K.below (B := w.heap.size) hB5.size (fun k hk e => by omega))⟩
  ·
   have hgw : wrap64 (G : Int) = (G : Int) := by unfold wrap64; omega
   have hlw : wrap64 (L : Int) = (L : Int) := by unfold wrap64; omega
   cases t3 : headOkB true (G : Int) (L : Int) with
   | false =>
    have t3' : Hid _ := t3
    rw [hno False id (Or.inr (Or.inr (Or.inl t3)))]
    clear t3
    go_upto_region 99 with (first
       | (go_at_call 149; refine (l4headok_any true (G : Int) (L : Int) (wrap64 (S : Int)) _).mono ?_; rintro e w6 ⟨rfl, hb6⟩; rw [t3'.out]; have hR6 := hR5.grow hb6; have hH6 := hHw.grow hb6; obtain ⟨⟨_, z0, z1, z2, z3⟩, zf⟩ := id hR6; obtain ⟨⟨_, y0, y1, y2, y3⟩, yf⟩ := id hH6)
       | (go_at_call 134; refine (l3read_own d l m _ hf (ha.grow hA) hm).mono ?_; rw [show readN d.blocks d.waiting (m : Int) d.waiting.length = bs from hbs.out.symm]; rintro e w1 ⟨oa, c, rfl, hO, hb1⟩; have hlc : bs.length ≤ c := owns_capH hO; have hS0 := SR.new (owns_bytes hO) hlc (by have := hbl.out; omega) hbb 4 (by have := hbl.out; omega) 4 rfl; have hAt := owns_bytes hO; have hRl := (hR0.grow hb1).box.lt; have hb2 := gal hb1 (.cells #[.slice oa bs.length c, .int .i64 4, .bool false] 171))
       | (go_at_call 137; refine (sEight_known _ _ _ _ _ S r3 _ hS2 (by show _ = _; rw [d2.out]; exact E3.out)).mono ?_; rintro e w4 ⟨rfl, ⟨at3, hS3, d3⟩, hK3⟩; have hR4 := (((hR0.grow hb2).kept hK1 (by omega)).kept hK2 (by omega)).kept hK3 (by omega); obtain ⟨⟨_, z0, z1, z2, z3⟩, zf⟩ := id hR4; have hB2 := gca hA hb2; have hB3 := hB2.trans (hK1.below (B := w.heap.size) hB2.size (fun k hk e => by omega)); have hB4 := hB3.trans (hK2.below (B := w.heap.size) hB3.size (fun k hk e => by omega)); have hB5 := hB4.trans (hK3.below (B := w.heap.size) hB4.size (fun k hk e => by omega)); have hK := (hK1.trans hK2 (fun _ _ h => h)).trans hK3 (fun _ _ h => h); have hHw := HV.new_at w4 ⟨true, (G : Int), (L : Int), wrap64 (S : Int)⟩ 65 w4.heap.size rfl; have hb5 := gal (gre w4) (.cells #[.bool true, .int .i64 (G : Int), .int .i64 (L : Int), .int .i64 (wrap64 (S : Int))] 65); have hR5 := hR4.grow hb5; have hAt5 : BytesAt _ oa bs := hS3.low.at_.grow hb5)
       | (go_at_call 137; refine (sEight_known _ _ _ _ _ L r2 _ hS1 (by show _ = _; rw [d1.out]; exact E2.out)).mono ?_; rintro e w3 ⟨rfl, ⟨at2, hS2, d2⟩, hK2⟩)
       | (go_at_call 137; refine (sEight_known _ _ _ _ _ G r1 _ hS0 E1).mono ?_; rintro e w2 ⟨rfl, ⟨at1, hS1, d1⟩, hK1⟩))
    obtain ⟨c0, c1, c2, c3, K⟩ := ret4 hR6 (.bool false) (.int .i64 0) (.int .i64 0) (.int .i64 0)
    exact bodyPost_ret (v := noH.val) (by simp [results, Tryz.results133, go_sem, c0, c1, c2, c3]) rfl ⟨rfl, (gca (gca hB5 hb5) hb6).trans (K.below (B := w.heap.size) (gca (gca hB5 hb5) hb6).size (fun k hk e => by omega))⟩
   | true =>
    have t3' : Hid _ := t3
    by_cases t4 : headB (G : Int) (L : Int) (wrap64 (S : Int)) = bs
    ·
     have t4' : Hid (decide (headB (G : Int) (L : Int) (wrap64 (S : Int)) = bs) = true) := decide_eq_true t4
     rw [headOf_yes (x := ⟨true, (G : Int), (L : Int), wrap64 (S : Int)⟩) ⟨rfl, t3, by unfold I64 wrap64; simp only; omega, t4.symm⟩]
     clear t3 t4
     go_upto_region 99 with (first
        | (go_at_call 149; refine (l4headok_any true (G : Int) (L : Int) (wrap64 (S : Int)) _).mono ?_; rintro e w6 ⟨rfl, hb6⟩; rw [t3'.out]; have hR6 := hR5.grow hb6; have hH6 := hHw.grow hb6; obtain ⟨⟨_, z0, z1, z2, z3⟩, zf⟩ := id hR6; obtain ⟨⟨_, y0, y1, y2, y3⟩, yf⟩ := id hH6)
        | (go_at_call 112; refine (l4block_any true (G : Int) (L : Int) (wrap64 (S : Int)) _).mono ?_; rintro e w7 ⟨oa7, c7, rfl, hO7, hb7⟩)
        | (go_at_call 104; refine (l2equal_any oa7 oa (headB (G : Int) (L : Int) (wrap64 (S : Int))) bs c7 c _ (by rw [headB_length]; decide) (by rw [hbl.out]; decide) (owns_atH hO7) (hAt5.grow (gca hb6 hb7))).mono ?_; rintro e w8 ⟨rfl, hb8⟩; rw [t4'.out]; have hR8 := (hR6.grow hb7).grow hb8; have hH8 := (hH6.grow hb7).grow hb8; obtain ⟨⟨_, z0, z1, z2, z3⟩, zf⟩ := id hR8; obtain ⟨⟨_, y0, y1, y2, y3⟩, yf⟩ := id hH8)
        | (go_at_call 134; refine (l3read_own d l m _ hf (ha.grow hA) hm).mono ?_; rw [show readN d.blocks d.waiting (m : Int) d.waiting.length = bs from hbs.out.symm]; rintro e w1 ⟨oa, c, rfl, hO, hb1⟩; have hlc : bs.length ≤ c := owns_capH hO; have hS0 := SR.new (owns_bytes hO) hlc (by have := hbl.out; omega) hbb 4 (by have := hbl.out; omega) 4 rfl; have hAt := owns_bytes hO; have hRl := (hR0.grow hb1).box.lt; have hb2 := gal hb1 (.cells #[.slice oa bs.length c, .int .i64 4, .bool false] 171))
        | (go_at_call 137; refine (sEight_known _ _ _ _ _ S r3 _ hS2 (by show _ = _; rw [d2.out]; exact E3.out)).mono ?_; rintro e w4 ⟨rfl, ⟨at3, hS3, d3⟩, hK3⟩; have hR4 := (((hR0.grow hb2).kept hK1 (by omega)).kept hK2 (by omega)).kept hK3 (by omega); obtain ⟨⟨_, z0, z1, z2, z3⟩, zf⟩ := id hR4; have hB2 := gca hA hb2; have hB3 := hB2.trans (hK1.below (B := w.heap.size) hB2.size (fun k hk e => by omega)); have hB4 := hB3.trans (hK2.below (B := w.heap.size) hB3.size (fun k hk e => by omega)); have hB5 := hB4.trans (hK3.below (B := w.heap.size) hB4.size (fun k hk e => by omega)); have hK := (hK1.trans hK2 (fun _ _ h => h)).trans hK3 (fun _ _ h => h); have hHw := HV.new_at w4 ⟨true, (G : Int), (L : Int), wrap64 (S : Int)⟩ 65 w4.heap.size rfl; have hb5 := gal (gre w4) (.cells #[.bool true, .int .i64 (G : Int), .int .i64 (L : Int), .int .i64 (wrap64 (S : Int))] 65); have hR5 := hR4.grow hb5; have hAt5 : BytesAt _ oa bs := hS3.low.at_.grow hb5)
        | (go_at_call 137; refine (sEight_known _ _ _ _ _ L r2 _ hS1 (by show _ = _; rw [d1.out]; exact E2.out)).mono ?_; rintro e w3 ⟨rfl, ⟨at2, hS2, d2⟩, hK2⟩)
        | (go_at_call 137; refine (sEight_known _ _ _ _ _ G r1 _ hS0 E1).mono ?_; rintro e w2 ⟨rfl, ⟨at1, hS1, d1⟩, hK1⟩))
     obtain ⟨c0, c1, c2, c3, K⟩ := ret4 hR8 (.bool true) (.int .i64 (G : Int)) (.int .i64 (L : Int)) (.int .i64 (wrap64 (S : Int)))
     have hB8 := gca (gca (gca (gca hB5 hb5) hb6) hb7) hb8
     exact bodyPost_ret (v := headV true (G : Int) (L : Int) (wrap64 (S : Int))) (by simp [results, Tryz.results133, go_sem, c0, c1, c2, c3]) rfl ⟨rfl, hB8.trans (K.below (B := w.heap.size) hB8.size (fun k hk e => by omega))⟩
    ·
     have t4' : Hid (decide (headB (G : Int) (L : Int) (wrap64 (S : Int)) = bs) = false) := decide_eq_false t4
     rw [hno False id (Or.inr (Or.inr (Or.inr t4)))]
     clear t3 t4
     go_upto_region 99 with (first
        | (go_at_call 149; refine (l4headok_any true (G : Int) (L : Int) (wrap64 (S : Int)) _).mono ?_; rintro e w6 ⟨rfl, hb6⟩; rw [t3'.out]; have hR6 := hR5.grow hb6; have hH6 := hHw.grow hb6; obtain ⟨⟨_, z0, z1, z2, z3⟩, zf⟩ := id hR6; obtain ⟨⟨_, y0, y1, y2, y3⟩, yf⟩ := id hH6)
        | (go_at_call 112; refine (l4block_any true (G : Int) (L : Int) (wrap64 (S : Int)) _).mono ?_; rintro e w7 ⟨oa7, c7, rfl, hO7, hb7⟩)
        | (go_at_call 104; refine (l2equal_any oa7 oa (headB (G : Int) (L : Int) (wrap64 (S : Int))) bs c7 c _ (by rw [headB_length]; decide) (by rw [hbl.out]; decide) (owns_atH hO7) (hAt5.grow (gca hb6 hb7))).mono ?_; rintro e w8 ⟨rfl, hb8⟩; rw [t4'.out]; have hR8 := (hR6.grow hb7).grow hb8; have hH8 := (hH6.grow hb7).grow hb8; obtain ⟨⟨_, z0, z1, z2, z3⟩, zf⟩ := id hR8; obtain ⟨⟨_, y0, y1, y2, y3⟩, yf⟩ := id hH8)
        | (go_at_call 134; refine (l3read_own d l m _ hf (ha.grow hA) hm).mono ?_; rw [show readN d.blocks d.waiting (m : Int) d.waiting.length = bs from hbs.out.symm]; rintro e w1 ⟨oa, c, rfl, hO, hb1⟩; have hlc : bs.length ≤ c := owns_capH hO; have hS0 := SR.new (owns_bytes hO) hlc (by have := hbl.out; omega) hbb 4 (by have := hbl.out; omega) 4 rfl; have hAt := owns_bytes hO; have hRl := (hR0.grow hb1).box.lt; have hb2 := gal hb1 (.cells #[.slice oa bs.length c, .int .i64 4, .bool false] 171))
        | (go_at_call 137; refine (sEight_known _ _ _ _ _ S r3 _ hS2 (by show _ = _; rw [d2.out]; exact E3.out)).mono ?_; rintro e w4 ⟨rfl, ⟨at3, hS3, d3⟩, hK3⟩; have hR4 := (((hR0.grow hb2).kept hK1 (by omega)).kept hK2 (by omega)).kept hK3 (by omega); obtain ⟨⟨_, z0, z1, z2, z3⟩, zf⟩ := id hR4; have hB2 := gca hA hb2; have hB3 := hB2.trans (hK1.below (B := w.heap.size) hB2.size (fun k hk e => by omega)); have hB4 := hB3.trans (hK2.below (B := w.heap.size) hB3.size (fun k hk e => by omega)); have hB5 := hB4.trans (hK3.below (B := w.heap.size) hB4.size (fun k hk e => by omega)); have hK := (hK1.trans hK2 (fun _ _ h => h)).trans hK3 (fun _ _ h => h); have hHw := HV.new_at w4 ⟨true, (G : Int), (L : Int), wrap64 (S : Int)⟩ 65 w4.heap.size rfl; have hb5 := gal (gre w4) (.cells #[.bool true, .int .i64 (G : Int), .int .i64 (L : Int), .int .i64 (wrap64 (S : Int))] 65); have hR5 := hR4.grow hb5; have hAt5 : BytesAt _ oa bs := hS3.low.at_.grow hb5)
        | (go_at_call 137; refine (sEight_known _ _ _ _ _ L r2 _ hS1 (by show _ = _; rw [d1.out]; exact E2.out)).mono ?_; rintro e w3 ⟨rfl, ⟨at2, hS2, d2⟩, hK2⟩)
        | (go_at_call 137; refine (sEight_known _ _ _ _ _ G r1 _ hS0 E1).mono ?_; rintro e w2 ⟨rfl, ⟨at1, hS1, d1⟩, hK1⟩))
     obtain ⟨c0, c1, c2, c3, K⟩ := ret4 hR8 (.bool false) (.int .i64 0) (.int .i64 0) (.int .i64 0)
     exact bodyPost_ret (v := noH.val) (by simp [results, Tryz.results133, go_sem, c0, c1, c2, c3]) rfl ⟨rfl, (gca (gca (gca (gca hB5 hb5) hb6) hb7) hb8).trans (K.below (B := w.heap.size) (gca (gca (gca (gca hB5 hb5) hb6) hb7) hb8).size (fun k hk e => by omega))⟩
def DD.cat (d : DD) (f : Nat) : Nat → List Nat
  | 0 => []
  | j + 1 => d.cat f j ++ d.rd (f + j)
theorem DD.cat_len {d : DD} (h : d.Fit) {f : Nat} : ∀ {j : Nat}, f + j ≤ 130 → (d.cat f j).length = 64 * j
  | 0, _ => rfl
  | j + 1, hj => by
    have h1 := DD.cat_len h (f := f) (j := j) (by omega)
    have h2 := DD.rd_len h (m := f + j) (by omega)
    simp only [DD.cat, List.length_append, h1, h2]
    omega
theorem DD.cat_byte {d : DD} (h : d.Fit) (ho : d.Ok) {f : Nat} : ∀ {j : Nat}, f + j ≤ 130 → ∀ x, x ∈ d.cat f j → x < 256
  | 0, _ => fun x hx => by cases hx
  | j + 1, hj => fun x hx => by
    rcases List.mem_append.1 hx with e | e
    · exact DD.cat_byte h ho (j := j) (by omega) x e
    · exact DD.rd_byte h ho (m := f + j) (by omega) x e
theorem DD.cat_take {d : DD} (h : d.Fit) {f : Nat} {j k n : Nat} (hjk : j ≤ k) (hk : f + k ≤ 130) (hn : n ≤ 64 * j) : (d.cat f k).take n = (d.cat f j).take n := by
  induction k with
  | zero => obtain rfl : j = 0 := by omega
            rfl
  | succ k ih =>
    by_cases e : j = k + 1
    · subst e; rfl
    · rw [DD.cat, List.take_append_of_le_length (by rw [DD.cat_len h (by omega)]; omega)]
      exact ih (by omega) (by omega)
def firstOf (slot : Nat) : Nat := 2 + slot * 64
def DD.img (d : DD) (slot n : Nat) : List Nat := (d.cat (firstOf slot) 64).take n
theorem DD.img_len {d : DD} (h : d.Fit) {slot n : Nat} (hs : slot < 2) (hn : n ≤ 4096) : (d.img slot n).length = n := by
  unfold DD.img firstOf
  rw [List.length_take, DD.cat_len h (by omega)]
  omega
theorem DD.img_byte {d : DD} (h : d.Fit) (ho : d.Ok) {slot n : Nat} (hs : slot < 2) : ∀ x, x ∈ d.img slot n → x < 256 := fun x hx =>
  DD.cat_byte h ho (by unfold firstOf; omega) x (List.mem_of_mem_take hx)
theorem DD.img_part {d : DD} (h : d.Fit) {slot n j : Nat} (hs : slot < 2) (hj : j ≤ 64) (hn : n ≤ 64 * j) : (d.cat (firstOf slot) j).take n = d.img slot n :=
  (DD.cat_take h hj (by unfold firstOf; omega) hn).symm
structure KK where
  ok : Bool
  gen : Int
  slot : Int
  bytes : List Nat
def noK : KK := ⟨false, 0, 0, []⟩
abbrev KK.val (k : KK) (a : Option Addr) (c : Nat) : Value := .agg #[.bool k.ok, .int .i64 k.gen, .int .i64 k.slot, .slice a k.bytes.length c]
def DD.slotOf (d : DD) (slot : Nat) : KK :=
  if (headOf (d.rd slot)).ok = true ∧ wrap64 (sumN (d.img slot (headOf (d.rd slot)).len.toNat) : Int) = (headOf (d.rd slot)).sum then ⟨true, (headOf (d.rd slot)).gen, (slot : Int), d.img slot (headOf (d.rd slot)).len.toNat⟩ else noK
def DD.newestOf (d : DD) : KK := if (d.slotOf 1).ok = true ∧ ((d.slotOf 0).ok = false ∨ (d.slotOf 0).gen < (d.slotOf 1).gen) then d.slotOf 1 else d.slotOf 0
def DD.newest (d : DD) : KK := if d.ok = true then d.newestOf else noK
structure KK.Fine (k : KK) (slot : Nat) : Prop where
  no : k.ok = false → k = noK
  gen : k.ok = true → 1 ≤ k.gen ∧ k.gen ≤ 1000000000000
  slot : k.ok = true → k.slot = (slot : Int)
  len : k.bytes.length ≤ 4096
theorem DD.slot_fine {d : DD} (h : d.Fit) {slot : Nat} (hs : slot < 2) : (d.slotOf slot).Fine slot := by
  unfold DD.slotOf
  rcases headOf_cases (d.rd slot) with hh | hh
  · have hr := rng_i64 hh.rng
    split
    · exact ⟨fun e => (by cases e), fun _ => hr.1, fun _ => rfl, by rw [DD.img_len h hs (by omega)]; omega⟩
    · exact ⟨fun _ => rfl, fun e => (by cases e), fun e => (by cases e), Nat.zero_le _⟩
  · rw [if_neg (fun e => by rw [hh] at e; cases e.1)]
    exact ⟨fun _ => rfl, fun e => (by cases e), fun e => (by cases e), Nat.zero_le _⟩
theorem newest_steps {a b : KK} (ha : a.Fine 0) (hb : b.Fine 1) : (if b.ok = true ∧ (a.ok = false ∨ a.gen < b.gen) then b else a) = (if (if noK.gen < a.gen then a else noK).gen < b.gen then b else (if noK.gen < a.gen then a else noK)) := by
  have e1 : (if noK.gen < a.gen then a else noK) = a := by
    cases hk : a.ok with
    | false => rw [ha.no hk]; simp [noK]
    | true => rw [if_pos (by have := ha.gen hk; simp [noK]; omega)]
  rw [e1]
  cases hk : b.ok with
  | false =>
    rw [hb.no hk]
    have : ¬ (a.gen < noK.gen) := by
      cases hka : a.ok with
      | false => rw [ha.no hka]; simp
      | true => have := ha.gen hka; simp [noK]; omega
    rw [if_neg (by simp [noK]), if_neg this]
  | true =>
    cases hka : a.ok with
    | false =>
      rw [if_pos ⟨rfl, Or.inl rfl⟩, ha.no hka, if_pos (by have := hb.gen hk; simp [noK]; omega)]
    | true =>
      by_cases hlt : a.gen < b.gen
      · rw [if_pos ⟨rfl, Or.inr hlt⟩, if_pos hlt]
      · rw [if_neg (fun e => by rcases e.2 with e | e; cases e; exact hlt e), if_neg hlt]
def cutOf (im : List Nat) (j : Nat) : List Nat := (im.drop (64 * j)).take 64
def blkOf (im : List Nat) (j : Nat) : List Nat := cutOf im j ++ List.replicate (64 - (cutOf im j).length) 0
theorem cutOf_len (im : List Nat) (j : Nat) : (cutOf im j).length ≤ 64 := by simp [cutOf]; omega
theorem blkOf_len (im : List Nat) (j : Nat) : (blkOf im j).length = 64 := by
 have := cutOf_len im j
 simp [blkOf]; omega
theorem blkOf_byte {im : List Nat} (h : ∀ x, x ∈ im → x < 256) (j : Nat) : ∀ x, x ∈ blkOf im j → x < 256 := fun x hx => by
 rcases List.mem_append.1 hx with e | e
 · exact h x (List.mem_of_mem_drop (List.mem_of_mem_take e))
 · rw [List.eq_of_mem_replicate e]; decide
def nBlk (im : List Nat) : Nat := (im.length + 63) / 64
def KK.other (k : KK) : Nat := if k.ok = true ∧ k.slot = 0 then 1 else 0
theorem KK.other_lt (k : KK) : k.other < 2 := by unfold KK.other; split <;> omega
def imgOps (s : Nat) (im : List Nat) (j : Nat) : List OP := (List.range j).map fun i => ⟨false, ((firstOf s + i : Nat) : Int), blkOf im i⟩
theorem imgOps_succ (s : Nat) (im : List Nat) (j : Nat) : imgOps s im (j + 1) = imgOps s im j ++ [⟨false, ((firstOf s + j : Nat) : Int), blkOf im j⟩] := by simp [imgOps, List.range_succ]
theorem imgOps_len (s : Nat) (im : List Nat) (j : Nat) : (imgOps s im j).length = j := by simp [imgOps]
def headO (k : KK) (im : List Nat) : OP := ⟨false, (k.other : Int), headB (k.gen + 1) (im.length : Int) (wrap64 (sumN im : Int))⟩
def DD.lay (d : DD) (im : List Nat) : List OP := if d.newestOf.gen = 1000000000000 then [] else imgOps d.newestOf.other im (nBlk im) ++ [syncO, headO d.newestOf im, syncO]
def DD.ops (d : DD) (im : List Nat) : List OP := if d.ok = true ∧ d.waiting = [] ∧ im ≠ [] ∧ im.length ≤ 4096 then d.lay im else []
structure LO where
 x : OP
 a : Option Addr
 cap : Nat
 deriving Inhabited
def LO.three (y : LO) : List Value := [.bool y.x.sync, .int .i64 y.x.block, .slice y.a y.x.bytes.length y.cap]
theorem LO.three_length (y : LO) : y.three.length = 3 := rfl
def oCells (l : List LO) : List Value := l.flatMap LO.three
theorem oCells_app (l m : List LO) : oCells (l ++ m) = oCells l ++ oCells m := by simp [oCells]
theorem oCells_get : ∀ (l : List LO) (i j : Nat), i < l.length → j < 3 → (oCells l)[i * 3 + j]? = (l[i]!.three)[j]?
 | [], i, j, h, _ => absurd h (Nat.not_lt_zero _)
 | y :: r, 0, j, _, hj => by
  rw [oCells, List.flatMap_cons, Nat.zero_mul, Nat.zero_add, List.getElem?_append_left (by rw [LO.three_length]; exact hj)]
  rfl
 | y :: r, i + 1, j, h, hj => by
  have hlt : i < r.length := by simpa using h
  have ih := oCells_get r i j hlt hj
  rw [oCells, List.flatMap_cons, List.getElem?_append_right (by rw [LO.three_length, Nat.add_mul]; omega), LO.three_length, show (i + 1) * 3 + j - 3 = i * 3 + j by rw [Nat.add_mul]; omega]
  rw [oCells] at ih
  rw [ih]
  simp
theorem owns_isO {w : World} {base size n cap : Nat} {a : Option Addr} {xs : List Value} (h : w.ownsRow base 101 size (.slice a n cap) n xs) {z : Nat} (hz : (Value.slice a n cap).ownBlock = some z) : IsO w z ∧ base ≤ z := by
 have ha := owns_addr h hz
 rcases h.2 with ⟨e, _⟩ | ⟨g, cap', cur, hv, hb, hg, _⟩
 ·
  simp at e
  rw [e.1] at ha
  cases ha
 ·
  simp only [Value.slice.injEq] at hv
  rw [ha] at hv
  obtain rfl := some_addr hv.1
  exact ⟨⟨cur, hg⟩, hb⟩
theorem MB.leO {w : World} {lo lo' : Nat} {oa : Option Addr} {ys : List Nat} (h : MB w lo oa ys) (hl : lo' ≤ lo) : MB w lo' oa ys := by
 rcases h with h | ⟨G, n, h1, h2, h3⟩
 · exact Or.inl h
 · exact Or.inr ⟨G, n, h1, by omega, h3⟩
theorem owns_mbO {w : World} {base n c : Nat} {oa : Option Addr} {bs : List Nat} (h : w.ownsRow base 5 1 (.slice oa n c) n (bcells bs)) (hl : bs.length = n) : MB w base oa bs := by
 rcases h.2 with ⟨e, e2⟩ | ⟨g, cap, cur, hv, hb, hg, h1, h2, h3, h4⟩
 · exact Or.inl (List.eq_nil_of_length_eq_zero (by omega))
 ·
  injection hv with e1 _ e3
  subst e1
  refine Or.inr ⟨g, cap, rfl, hb, cur, hg, by omega, by omega, fun i hi => ?_⟩
  have h5 : (cur.toList.take (n * 1))[i]? = (bcells bs)[i]? := by rw [h4]
  rw [List.getElem?_take_of_lt (by omega), Array.getElem?_toList, bcells_get hi] at h5
  exact h5
structure SO (base : Nat) (wr : World) (oa : Option Addr) (oc : Nat) (lo : List LO) : Prop where
 own : wr.ownsRow base 101 3 (.slice oa lo.length oc) lo.length (oCells lo)
 byt : ∀ y, y ∈ lo → MB wr base y.a y.x.bytes
 far : lo.Pairwise fun y z => y.x.bytes ≠ [] → z.x.bytes ≠ [] → Apart y.a z.a
theorem MB.keptO {p : Nat → Prop} {w w' : World} {lo : Nat} {oa : Option Addr} {ys : List Nat} (h : MB w lo oa ys) (k : Kept p w w') (hp : ∀ b, lo ≤ b → IsB w b → ¬ p b) : MB w' lo oa ys := by
 rcases h with rfl | ⟨G, n, rfl, hG, hB⟩
 · exact Or.inl rfl
 · exact Or.inr ⟨G, n, rfl, hG, hB.kept k (hp G hG hB.isB)⟩
theorem MB.growO {w w' : World} {lo : Nat} {oa : Option Addr} {ys : List Nat} (h : MB w lo oa ys) (hb : Below w.heap.size w w') : MB w' lo oa ys := h.keptO (Kept.of_below hb (fun _ => False)) (fun _ _ _ e => e)
theorem zrow_made (w : World) (M : Array Value) (hM : M = madeCells #[Value.int .u8 0] 64) : ZRow (w.alloc (.cells M 5)) w.heap.size 64 [] := by
 subst hM
 have h1 := rowIs_made_any w #[Value.int .u8 0] 64 5
 have e : (fun i => (#[Value.int .u8 0])[i % (#[Value.int .u8 0]).size]!) = (fun i : Nat => Value.int .u8 ((([] : List Nat)[i]! : Nat) : Int)) := by
  funext i
  have : i % (#[Value.int .u8 0]).size = 0 := by simp [Nat.mod_one]
  rw [this, getElem!_neg ([] : List Nat) i (by simp)]
  rfl
 rw [e] at h1
 exact ⟨by simp, h1⟩
theorem SO.kept {p : Nat → Prop} {base : Nat} {w w' : World} {oa : Option Addr} {oc : Nat} {lo : List LO} (h : SO base w oa oc lo) (K : Kept p w w') (hp : ∀ z, p z → base ≤ z → ¬ IsO w z ∧ ¬ IsB w z) : SO base w' oa oc lo :=
 ⟨K.owns h.own (fun z hz e => let r := owns_isO h.own hz; (hp z e r.2).1 r.1), fun y hy => (h.byt y hy).keptO K (fun z hz hB e => (hp z e hz).2 hB), h.far⟩
theorem SO.grow {base : Nat} {w w' : World} {oa : Option Addr} {oc : Nat} {lo : List LO} (h : SO base w oa oc lo) (hb : Below w.heap.size w w') : SO base w' oa oc lo := h.kept (Kept.of_below hb (fun _ => False)) (fun _ e => e.elim)
theorem SO.own_at {base : Nat} {w : World} {oa : Option Addr} {oc n : Nat} {lo : List LO} (h : SO base w oa oc lo) (hn : lo.length = n) : w.ownsRow base 101 3 (.slice oa n oc) n (oCells lo) := by subst hn; exact h.own
theorem SO.nil (base : Nat) (w : World) : SO base w none 0 [] := ⟨owns_none _ _ _ _, fun y hy => (by cases hy), List.Pairwise.nil⟩
theorem SO.le {base base' : Nat} {w : World} {oa : Option Addr} {oc : Nat} {lo : List LO} (h : SO base w oa oc lo) (hb : base' ≤ base) : SO base' w oa oc lo := ⟨owns_le h.own hb, fun y hy => (h.byt y hy).leO hb, h.far⟩
theorem SO.more {base : Nat} {w w5 : World} {oa : Option Addr} {oc : Nat} {lo ys : List LO} (h : SO base w oa oc lo) (hy : ∀ y, y ∈ ys → MB w base y.a y.x.bytes) (hfar : (lo ++ ys).Pairwise fun y z => y.x.bytes ≠ [] → z.x.bytes ≠ [] → Apart y.a z.a) {gg cc : Nat}
  (hown : w5.ownsRow base 101 3 (.slice (some ⟨gg, 0, none⟩) (lo.length + ys.length) cc) (lo.length + ys.length) (oCells lo ++ oCells ys)) (hgrow : w.grownBy w5 (Value.slice oa lo.length oc).ownBlock) : SO base w5 (some ⟨gg, 0, none⟩) cc (lo ++ ys) := by
 have K := Kept.of_grown hgrow
 refine ⟨by rw [oCells_app, List.length_append]; exact hown, fun x hx => ?_, hfar⟩
 have hb : ∀ {x : LO}, MB w base x.a x.x.bytes → MB w5 base x.a x.x.bytes := fun hx => hx.keptO K (fun z _ hB e => not_B_of_O (owns_isO h.own e).1 hB)
 rcases List.mem_append.1 hx with e | e
 · exact hb (h.byt x e)
 · exact hb (hy x e)
theorem SO.far1 {base : Nat} {w : World} {oa : Option Addr} {oc : Nat} {lo : List LO} (h : SO base w oa oc lo) {y : LO} (hy : ∀ b, y.x.bytes ≠ [] → y.a = some ⟨b, 0, none⟩ → w.heap.size ≤ b) : (lo ++ [y]).Pairwise fun y z => y.x.bytes ≠ [] → z.x.bytes ≠ [] → Apart y.a z.a := by
 refine List.pairwise_append.2 ⟨h.far, List.pairwise_singleton _ _, fun x hx z hz n1 n2 b e1 e2 => ?_⟩
 obtain rfl : z = y := by simpa using hz
 have := hy b n2 e2
 rcases h.byt x hx with e | ⟨G, n, h1, _, h2⟩
 · exact n1 e
 ·
  rw [e1] at h1
  obtain rfl := some_addr h1
  have := h2.lt
  omega
theorem SO.mo {base : Nat} {w : World} {oa : Option Addr} {oc : Nat} {lo : List LO} (h : SO base w oa oc lo) : MOs w base w.heap.size oa lo.length (fun i => (lo.map LO.x)[i]!.sync) (fun i => (lo.map LO.x)[i]!.block) (fun i => (lo.map LO.x)[i]!.bytes) (fun i => lo[i]!.a) (fun i => lo[i]!.cap) := by
 have ex : ∀ i, i < lo.length → (lo.map LO.x)[i]! = lo[i]!.x := fun i hi => by rw [getElem!_pos _ i (by simpa using hi), getElem!_pos lo i hi]; simp
 refine ⟨fun h0 => ?_, fun i hi => ?_, fun i j hij hj n1 n2 => ?_⟩
 ·
  obtain ⟨g, f, h1, h2, h3, h4, h5, h6⟩ := owns_row h.own h0
  refine ⟨g, oc * 3, f, h1, h2, h3, h4, Nat.mul_le_mul_right 3 h5, fun i hi => ?_⟩
  rw [ex i hi]
  exact ⟨h6 _ _ ((oCells_get lo i 0 hi (by omega)).trans rfl), h6 _ _ ((oCells_get lo i 1 hi (by omega)).trans rfl), h6 _ _ ((oCells_get lo i 2 hi (by omega)).trans rfl)⟩
 ·
  show BB w base w.heap.size lo[i]!.a (lo.map LO.x)[i]!.bytes
  rw [ex i hi]
  rcases h.byt _ (mem_at hi) with e | ⟨G, n, h1, h2, h3⟩
  · exact Or.inl e
  · exact Or.inr ⟨G, n, h1, h2, h3.lt, h3⟩
 ·
  have hi : i < lo.length := by omega
  show Apart lo[i]!.a lo[j]!.a
  have m1 : lo[i]!.x.bytes ≠ [] := by rw [← ex i hi]; exact n1
  have m2 : lo[j]!.x.bytes ≠ [] := by rw [← ex j hj]; exact n2
  have := List.pairwise_iff_getElem.1 h.far i j hi hj hij
  rw [getElem!_pos lo i hi] at m1 ⊢
  rw [getElem!_pos lo j hj] at m2 ⊢
  exact this m1 m2
theorem SO.at_ {base : Nat} {w : World} {oa : Option Addr} {oc : Nat} {lo : List LO} (h : SO base w oa oc lo) : OpsAt w oa (lo.map LO.x) := by
 have := h.mo
 rw [← List.length_map (f := LO.x)] at this
 exact this.at_
def OAns (ops : List OP) (w : World) (e : Ending) (w' : World) : Prop := ∃ oa oc lo, e = .returned (.slice oa ops.length oc) ∧ lo.map LO.x = ops ∧ SO w.heap.size w' oa oc lo ∧ Below w.heap.size w w'
theorem OAns.no {w w' : World} (h : Below w.heap.size w w') : OAns [] w (.returned (.slice none 0 0)) w' := ⟨none, 0, [], rfl, rfl, SO.nil _ _, h⟩
structure KK.Rng (k : KK) : Prop where
 g : 0 ≤ k.gen ∧ k.gen ≤ 1000000000000
 s : k.ok = true → k.slot = 0 ∨ k.slot = 1
theorem newest_rng {d : DD} (h : d.Fit) : d.newestOf.Rng := by
 have fine : ∀ (m : Nat) {k : KK}, m < 2 → k.Fine m → k.Rng := fun m k hm hk => by
  refine ⟨?_, fun e => by have := hk.slot e; omega⟩
  cases e : k.ok with
  | false => rw [hk.no e]; simp [noK]
  | true => have := hk.gen e; omega
 unfold DD.newestOf
 split
 · exact fine 1 (by decide) (DD.slot_fine h (by decide))
 · exact fine 0 (by decide) (DD.slot_fine h (by decide))
theorem cut_get {im : List Nat} {j t : Nat} (h : t < (cutOf im j).length) : 64 * j + t < im.length ∧ t < 64 ∧ (cutOf im j)[t]! = im[64 * j + t]! := by
 have h1 : t < 64 ∧ t < im.length - 64 * j := by simp [cutOf] at h; omega
 refine ⟨by omega, h1.1, ?_⟩
 rw [getElem!_pos _ t h, getElem!_pos im _ (by omega)]
 simp [cutOf]
theorem cut_len (im : List Nat) (j : Nat) : (cutOf im j).length = min 64 (im.length - 64 * j) := by simp [cutOf]
theorem wrapV {F : Nat} (h : F ≤ 200) : Value.int .i64 (wrap64 (F : Int)) = .int .i64 (F : Int) := by
 have e : wrap64 (F : Int) = (F : Int) := by unfold wrap64; omega
 rw [e]
theorem wrapI {F : Nat} (h : F ≤ 200) : Value.int .i64 (IntKind.i64.wrap (F : Int)) = .int .i64 (F : Int) := by
 have e : IntKind.i64.wrap (F : Int) = (F : Int) := by rw [IntKind.wrap_i64]; omega
 rw [e]
theorem nBlk_le {im : List Nat} (h : im.length ≤ 4096) : nBlk im ≤ 64 := by unfold nBlk; omega
theorem first_le {s j : Nat} (hs : s < 2) (hj : j ≤ 64) : firstOf s + j ≤ 200 := by unfold firstOf; omega
theorem nBlk_lt {im : List Nat} {j : Nat} : j < nBlk im ↔ 64 * j < im.length := by unfold nBlk; omega
theorem disk_any (p : Nat) (bl : List (List Nat)) (pa : Option Addr) (pc : Nat) (ws : List DW) (kv : Value) (w : World) (hw : ws.length ≤ 201) (h : Dr w p bl pa pc ws kv) :
  Calls Tryz.prog 57 #[.pointer (some ⟨p, 0, none⟩)] w fun e w' => ∃ l fa ga fc gc, e = .returned (DD.val ⟨bl, ws⟩ l) ∧ MD w' w.heap.size w'.heap.size l ⟨bl, ws⟩ fa ga fc gc ∧ Below w.heap.size w w' := by
 obtain ⟨j0, hj, hy0, hy1, hy2⟩ := info_parts info_bytes
 have hmk : ∀ u : World, (Instr.makeSlice 43 (.int .i64 130) (.int .i64 130)).run Tryz.prog u =
   .ok (.slice (some ⟨u.heap.size, 0, none⟩) 130 130) (u.alloc (.cells (madeCells #[.slice none 0 0] 130) 22)) := fun u => by
  have h := run_make (P := Tryz.prog) u 43 22 j0 _ Tryz.underlying43 hj hy0 .i64 .i64 (130 : Int) (130 : Int) (by omega) (Int.le_refl _) (by rw [hy2]; omega) (by omega)
  simpa [hy1, Value.cells] using h
 obtain ⟨M, hM⟩ := hid_ex (madeCells #[Value.slice none 0 0] 130)
 rw [← hM.out] at hmk
 have hlen := h.d.len
 have h64 := h.d.all64
 have hz64 := (zero_of_info zero_content).1
 have hSl := run_slice_content
 go_enter Tryz.func57, Tryz.ntmps57
 go_upto_region 2 with fail
 have hw1 := gal (gre w) (.cells #[.slice none 0 0, .slice none 0 0] 46)
 have hs1 : (w.alloc (.cells #[.slice none 0 0, .slice none 0 0] 46)).heap.size = w.heap.size + 1 := by simp
 have r0 : (w.alloc (.cells #[.slice none 0 0, .slice none 0 0] 46)).cell? ⟨w.heap.size, 0, none⟩ = some (.slice none 0 0) := by simp
 have r1 : (w.alloc (.cells #[.slice none 0 0, .slice none 0 0] 46)).cell? ⟨w.heap.size, 1, none⟩ = some (.slice none 0 0) := by simp
 have rf : ∀ o, (w.alloc (.cells #[.slice none 0 0, .slice none 0 0] 46)).frozen? ⟨w.heap.size, o, none⟩ = false := fun o => by simp
 generalize hR : w.heap.size = R at hs1 r0 r1 rf ⊢
 generalize w.alloc (.cells #[.slice none 0 0, .slice none 0 0] 46) = w1 at hw1 hs1 r0 r1 rf ⊢
 have hK0 : DkB w1 ((w1.alloc (.cells M 22)).alloc (.cells #[.slice (some ⟨R + 1, 0, none⟩) 130 130, .slice none 0 0] 46)) (R + 1) (R + 1 + 1) (.slice none 0 0) bl 0 (fun i => (#[Value.slice none 0 0] : Array Value)[i % (#[Value.slice none 0 0] : Array Value).size]!) (fun _ => 0) (fun _ => 0) := by
  have e2 : (w1.alloc (.cells M 22)).heap.size = R + 1 + 1 := by simp [hs1]
  refine ⟨?_, fun i hi => absurd hi (Nat.not_lt_zero _), ?_, ?_, fun o => ?_, gal (gal (gre _) _) _, by omega, by omega⟩
  ·
   have := rowIs_made_any w1 #[Value.slice none 0 0] 130 22
   rw [← hM.out, hs1] at this
   exact this.of_block (Below.heap_alloc _ _ _ (by omega))
  · rw [← e2]; simp
  · rw [← e2]; simp
  · rw [← e2]; simp
 generalize (w1.alloc (.cells M 22)).alloc (.cells #[.slice (some ⟨R + 1, 0, none⟩) 130 130, .slice none 0 0] 46) = w3 at hK0 ⊢
 obtain ⟨N, hN⟩ := hid_ex (R + 1)
 obtain ⟨V, hV⟩ := hid_ex (R + 1 + 1)
 rw [← hV.out, ← hN.out] at hK0
 rw [← hV.out, ← hN.out]
 clear hmk hM hj hy0 hy1 hy2
 have hDr3 := (h.grow hw1).grow hK0.bel
 go_wp2_with (refine wpList_load_mid rfl 107 _ rfl p 0 rfl (blCells bl) _ hDr3.d.whole Tryz.underlying107 rfl (by rw [size_contents, blCells_length bl h64, hlen]) ?_)
 clear hDr3
 go_loopw [14] (fun i wr => ∃ (k : Nat) (f : Nat → Value) (bs cs : Nat → Nat), k ≤ 130 ∧ i = .int .i64 k ∧ DkB w1 wr N V (.slice none 0 0) bl k f bs cs) (fun i _ => 130 - (intOf i).toNat)
 case atStart => exact ⟨0, _, _, _, Nat.zero_le _, rfl, hK0⟩
 case round =>
  obtain ⟨k, f, bs, cs, hk, rfl, hD⟩ := hrel
  by_cases hlt : k < 130
  ·
   obtain ⟨n, hn⟩ := hid_ex bl[k]!
   have hn64 : Hid (n.length = 64) := by show _ = _; rw [hn.out]; exact h64 _ (mem_at (by omega))
   have hcl : (bcells n).length = 64 := by rw [bcells_length]; exact hn64.out
   have i0 : (0 : Int) ≤ (k : Int) := by omega
   have i1 : (k : Int) < 130 := by omega
   go_upto_region 5 with (first
    | (refine wpList_index_contents rfl _ _ rfl bl k rfl rfl hlt hlen h64 ?_; rw [← hn.out])
    | (refine wpList_alloc_big rfl 106 rfl _ hz64 ?_)
    | (refine wpList_store_new rfl 106 _ _ rfl _ (bcells n).toArray rfl rfl (by rw [size_content]; simp [hcl]) (by simp [zeros, hcl]) (all_oneCell_toArray cells_u8) ?_))
   have hDA := hD.grow (gal (gre wr) (.cells (bcells n).toArray 106))
   have hby := bytes_range (range_new wr (bcells n) 106)
   have hsC : (wr.alloc (.cells (bcells n).toArray 106)).heap.size = wr.heap.size + 1 := by simp
   generalize wr.alloc (.cells (bcells n).toArray 106) = wC at hDA hby hsC ⊢
   generalize hQ : wr.heap.size = Q at hby hsC ⊢
   refine wp_regionU (fun u => u.cell? ⟨V, 0, none⟩ = some (.slice (some ⟨N, 0, none⟩) 130 130)) 6 (by kernel_rfl) hDA.v0 (fun hS0 => ?_)
   refine anyU_tk (i := 0) rfl hS0 (fun u hSu => by (try dsimp only at hSu); go_simp <;> with_reducible rfl) ?_
   refine anyU_tk (i := 1) rfl hS0 (fun u hSu => by (try dsimp only at hSu); go_simp <;> with_reducible rfl) ?_
   refine anyU_tk (i := 2) rfl hS0 (fun u hSu => by (try dsimp only at hSu); go_simp <;> with_reducible rfl) ?_
   refine anyU_tk (i := 3) rfl hS0 (fun u hSu => by (try dsimp only at hSu); go_simp <;> with_reducible rfl) ?_
   simp only [Act.put, List.getElem_toArray, List.getElem_cons_zero, List.getElem_cons_succ, List.setIfInBounds_toArray, List.set_cons_zero, List.set_cons_succ]
   refine anyU_one (i := 4) (by kernel_rfl) rfl (fun K hK => ?_)
   go_simp
   rw [show (64 : Nat) = n.length from hn64.out.symm]
   refine (bytesClone_any Q 0 n.length n _ (by rw [hn64.out]; decide) (by rw [hn64.out]; decide) (hby.grow (gdr (gre _)))).mono ?_
   rintro e w2 ⟨G, gcap, rfl, hG, hGr, hb2⟩
   have hD2 := hDA.grow (gca (gdr (gre wC)) hb2)
   rw [hn64.out]
   refine hK.out _ _ hD2.v0 ?_
   clear hK
   refine anyU_one (i := 5) (by kernel_rfl) rfl (fun K hK => ?_)
   go_simp
   refine hK.out _ _ hD2.v0 ?_
   clear hK
   have rc := hD2.row.cell (i := k) (by omega)
   have rf := hD2.row.frozen
   refine anyU_last (by kernel_rfl) rfl (by kernel_rfl) (fun K hK => ?_)
   go_simp
   refine hK.out _ _ ?_
   clear hK
   have hst := hD2.step (k := k) (G := G) (cap := gcap) (by rw [← hn.out]; exact hGr) (by have := World.block_lt_of_cell? _ _ hDA.v0; have h5 : wC.heap.size ≤ G := hG; simp at this; omega) (fun j hj => by have := (hDA.fs j hj).2.1.lt; have h5 : wC.heap.size ≤ G := hG; omega)
   go_wp2
   go_roundw
   case rel => exact ⟨k + 1, _, _, _, by omega, by go_num, hst⟩
   case measure => simp [intOf]; omega
  ·
   obtain rfl : k = 130 := by omega
   have hDr2 := (h.grow hw1).grow hD.bel
   have x2 := hDr2.d.ws
   obtain ⟨j0, hj, hy0, hy1, hy2⟩ := info_parts info_implWrite
   have hz65 := (zero_of_info zero_pending).1
   have hW0 : DkW w1 wr N V bl f bs cs none 0 [] (fun _ => 0) := ⟨hD, owns_none _ _ _ _, fun i hi => absurd hi (Nat.not_lt_zero _)⟩
   clear hD hK0 hDr2 hk hlt
   go_wp2
   go_loopw [30] (fun i wr => ∃ k : Nat, k ≤ ws.length ∧ i = .int .i64 k ∧ GWInv w1 wr N V bl f bs cs ws k) (fun i _ => ws.length - (intOf i).toNat)
   case atStart => exact ⟨0, Nat.zero_le _, rfl, none, 0, [], _, rfl, rfl, hW0⟩
   case round =>
    obtain ⟨k, hk, rfl, va, vc, lw, gs, hll, hlm, hD⟩ := hrel
    by_cases hlt : k < ws.length
    ·
     have hDrk := (h.grow hw1).grow hD.dk.bel
     obtain ⟨g, rfl, _, hgl, hrg⟩ := owns_pend hDrk.own hDrk.w64 hlt
     obtain ⟨n, hn⟩ := hid_ex ws[k]!
     rw [← hn.out] at hrg
     have hn64 : Hid (n.bytes.length = 64) := by show _ = _; rw [hn.out]; exact h.w64 _ (mem_at hlt)
     have hpl : n.pc.length = 65 := pc_length hn64.out
     have i0 : (0 : Int) ≤ (k : Int) := by omega
     have i1 : (k : Int) < (ws.length : Int) := by omega
     clear hDrk
     go_upto_region 10 with (first
      | (refine wpList_load_mid rfl 160 _ rfl g (k * 65) rfl n.pc _ hrg Tryz.underlying160 rfl (by rw [size_pending, hpl]) ?_)
      | (refine wpList_alloc_big rfl 160 rfl _ hz65 ?_)
      | (refine wpList_store_new rfl 160 _ _ rfl _ n.pc.toArray rfl rfl (by rw [size_pending]; simp [hpl]) (by simp [zeros, hpl]) (all_oneCell_toArray pc_one) ?_))
     have hDA := hD.grow (gal (gre wr) (.cells n.pc.toArray 160))
     have hrn := range_new wr n.pc 160
     have hby := bytes_range (range_drop (cs := [.int .i64 n.block]) hrn)
     have hq0 := hrn 0 _ rfl
     have hsC : (wr.alloc (.cells n.pc.toArray 160)).heap.size = wr.heap.size + 1 := by simp
     generalize wr.alloc (.cells n.pc.toArray 160) = wC at hDA hby hsC hq0 ⊢
     clear hrn
     generalize hQ : wr.heap.size = Q at hby hsC hq0 ⊢
     have hby2 : BytesAt wC (some ⟨Q, 1, none⟩) n.bytes := hby
     have hq02 : wC.cell? ⟨Q, 0, none⟩ = some (.int .i64 n.block) := hq0
     clear hby hq0
     have hSk : ∀ (u u' : World), Below u.heap.size u u' → (u.cell? ⟨V, 1, none⟩ = some (.slice va lw.length vc) ∧ u.cell? ⟨Q, 0, none⟩ = some (.int .i64 n.block)) → (u'.cell? ⟨V, 1, none⟩ = some (.slice va lw.length vc) ∧ u'.cell? ⟨Q, 0, none⟩ = some (.int .i64 n.block)) := fun u u' hb h => ⟨cell_later hb h.1, cell_later hb h.2⟩
     refine wp_regionU (fun u => u.cell? ⟨V, 1, none⟩ = some (.slice va lw.length vc) ∧ u.cell? ⟨Q, 0, none⟩ = some (.int .i64 n.block)) 11 (by kernel_rfl) ⟨hDA.dk.v1, hq02⟩ (fun hS0 => ?_)
     refine anyU_tk (i := 0) rfl hS0 (fun u hSu => by obtain ⟨s0, s1⟩ := hSu; go_simp <;> with_reducible rfl) ?_
     refine anyU_tk (i := 1) rfl hS0 (fun u hSu => by obtain ⟨s0, s1⟩ := hSu; go_simp <;> with_reducible rfl) ?_
     refine anyU_tk (i := 2) rfl hS0 (fun u hSu => by obtain ⟨s0, s1⟩ := hSu; go_simp <;> with_reducible rfl) ?_
     refine anyU_tk (i := 3) rfl hS0 (fun u hSu => by obtain ⟨s0, s1⟩ := hSu; go_simp <;> with_reducible rfl) ?_
     refine anyU_tk (i := 4) rfl hS0 (fun u hSu => by obtain ⟨s0, s1⟩ := hSu; go_simp <;> with_reducible rfl) ?_
     refine anyU_tk (i := 5) rfl hS0 (fun u hSu => by obtain ⟨s0, s1⟩ := hSu; go_simp <;> with_reducible rfl) ?_
     simp only [Act.put, List.getElem_toArray, List.getElem_cons_zero, List.getElem_cons_succ, List.setIfInBounds_toArray, List.set_cons_zero, List.set_cons_succ]
     refine anyU_one (i := 6) (by kernel_rfl) rfl (fun K hK => ?_)
     go_simp
     rw [show (64 : Nat) = n.bytes.length from hn64.out.symm]
     refine (bytesClone_any Q 1 n.bytes.length n.bytes _ (by rw [hn64.out]; decide) (by rw [hn64.out]; decide) (hby2.grow (gdr (gre _)))).mono ?_
     rintro e w2 ⟨G, gcap, rfl, hG, hGr, hb2⟩
     have hD2 := hDA.grow (gca (gdr (gre wC)) hb2)
     have hS2 := hSk _ _ hb2 hS0
     refine hK.out _ _ hS2 ?_
     clear hK
     refine anyU_one (i := 7) (by kernel_rfl) rfl (fun K hK => ?_)
     go_simp
     refine hK.out _ _ hS2 ?_
     clear hK
     have hB3 := gal (gre w2) (.cells #[.int .i64 n.block, .slice (some ⟨G, 0, none⟩) n.bytes.length gcap] 125)
     have hS3 := hSk _ _ hB3 hS2
     have hS3' : Hid _ := hS3
     clear hS3
     refine anyU_one (i := 8) (by kernel_rfl) rfl (fun K hK => ?_)
     go_simp
     refine hK.out _ _ hS3'.out ?_
     clear hK
     have hD3 := hD2.grow hB3
     have hsz3 : (w2.alloc (.cells #[.int .i64 n.block, .slice (some ⟨G, 0, none⟩) n.bytes.length gcap] 125)).heap.size = w2.heap.size + 1 := by simp
     have hnew := World.news_of_block (cs := #[.int .i64 n.block, .slice (some ⟨G, 0, none⟩) n.bytes.length gcap]) (t := 125) (fr := (0, 0)) (blk_new_at w2 (.cells #[.int .i64 n.block, .slice (some ⟨G, 0, none⟩) n.bytes.length gcap] 125) _ rfl)
     have hGr3 := hGr.of_block (hB3.block _ hGr.lt)
     have hGl := hGr.lt
     have hlw := hll.out
     have hVs := World.block_lt_of_cell? wC ⟨V, 0, none⟩ hDA.dk.v0
     have hs2 := hb2.size
     have hsD : wC.drew.heap.size = wC.heap.size := rfl
     generalize w2.alloc (.cells #[.int .i64 n.block, .slice (some ⟨G, 0, none⟩) n.bytes.length gcap] 125) = w3' at hB3 hS3' hD3 hsz3 hnew hGr3 ⊢
     refine anyU_one (i := 9) (by kernel_rfl) rfl (fun K hK => ?_)
     refine step_append_lies _ (by rfl) (.tmp 35) (.tmp 42) 44 rfl (V + 1) 125 j0 _ 2 32 Tryz.underlying44 hj hy0 hy1 hy2 rfl (by decide) (.slice va lw.length vc) lw.length (wCells lw) (by rfl) hD3.own ⟨w2.heap.size, 0, none⟩ 1 1 [.int .i64 n.block, .slice (some ⟨G, 0, none⟩) n.bytes.length gcap] (by rfl) rfl hnew (by simp [Value.oneCell']) (by decide) (by unfold maxLen; omega) (by omega) (by simp at hVs; omega) (w2.heap.size + 1) hsz3 ?_
     intro gg cc w5 hown5 hgrow5 hat5 hlt5
     have hst := hD3.step hGr3 (by simp at hVs; omega) (fun j hj => by have := (hDA.dk.fs j hj).2.1.lt; omega) (fun j hj => by have := (hDA.byt j hj).2.1.lt; omega) hown5 hgrow5
     have K5 := Kept.of_grown hgrow5
     have hz : ∀ z, (Value.slice va lw.length vc).ownBlock = some z → IsW wr z ∧ V + 1 ≤ z := fun z hz => owns_isW hD.own hz
     have hS5 : w5.cell? ⟨V, 1, none⟩ = some (.slice va lw.length vc) ∧ w5.cell? ⟨Q, 0, none⟩ = some (.int .i64 n.block) := ⟨K5.cell hS3'.out.1 (fun e => by have := (hz _ e).2; omega), K5.cell hS3'.out.2 (fun e => by obtain ⟨c, hc⟩ := (hz _ e).1; have := (Array.getElem?_eq_some_iff.1 hc).1; omega)⟩
     have vf5 : ∀ o, w5.frozen? ⟨V, o, none⟩ = false := fun o => by have := hst.dk.vf o; rwa [World.frozen?_setCell] at this
     refine hK.out _ _ hS5 ?_
     clear hK
     simp only [Act.put, List.getElem_toArray, List.getElem_cons_zero, List.getElem_cons_succ, List.setIfInBounds_toArray, List.set_cons_zero, List.set_cons_succ]
     refine anyU_one (i := 10) (by kernel_rfl) rfl (fun K hK => ?_)
     go_simp
     refine hK.out _ _ hS5 ?_
     clear hK
     obtain ⟨v5, _⟩ := id hS5
     refine anyU_last (by kernel_rfl) rfl (by kernel_rfl) (fun K hK => ?_)
     go_simp
     refine hK.out _ _ ?_
     clear hK
     go_wp2
     go_roundw
     case rel => exact ⟨k + 1, by omega, by go_num, some ⟨gg, 0, none⟩, cc, lw ++ [⟨n, some ⟨G, 0, none⟩, gcap⟩], _, by show _ = _; rw [List.length_append, hlw]; rfl, by show _ = _; rw [List.map_append, hlm.out, take_snoc _ _ hlt, ← hn.out]; rfl, by rw [hlw] at hst; exact hst⟩
     case measure => simp [intOf]; omega
    ·
     obtain rfl : k = ws.length := by omega
     rw [List.take_length] at hlm
     have y0 := hD.dk.v0
     have y1 := hD.dk.v1
     have z0 := cell_later hD.dk.bel r0
     have z1 := cell_later hD.dk.bel r1
     have zf : ∀ o, wr.frozen? ⟨R, o, none⟩ = false := fun o => (hD.dk.bel.frozen (p := ⟨R, o, none⟩) (by show R < w1.heap.size; omega)).trans (rf o)
     have hmd := hD.md hlen h64
     rw [hlm.out] at hmd
     have K := ((Kept.refl (fun b => b = R) wr).set (a := ⟨R, 0, none⟩) (fun _ => rfl) (.slice (some ⟨N, 0, none⟩) 130 130)).set (a := ⟨R, 1, none⟩) (fun _ => rfl) (.slice va lw.length vc)
     have hmd2 := (hmd.out K (fun b hb _ e => by omega)).mono (lo' := w.heap.size) (hi' := ((wr.setCell ⟨R, 0, none⟩ (.slice (some ⟨N, 0, none⟩) 130 130)).setCell ⟨R, 1, none⟩ (.slice va lw.length vc)).heap.size) (by omega) K.size
     have hbel : Below w.heap.size w ((wr.setCell ⟨R, 0, none⟩ (.slice (some ⟨N, 0, none⟩) 130 130)).setCell ⟨R, 1, none⟩ (.slice va lw.length vc)) := gse (gse (gca hw1 hD.dk.bel) (by show w.heap.size ≤ R; omega) _) (by show w.heap.size ≤ R; omega) _
     have c0 := World.cell?_setCell_same wr ⟨R, 0, none⟩ (.slice (some ⟨N, 0, none⟩) 130 130) z0
     have c1 := World.cell?_setCell_same (wr.setCell ⟨R, 0, none⟩ (.slice (some ⟨N, 0, none⟩) 130 130)) ⟨R, 1, none⟩ (.slice va lw.length vc) ((World.cell?_setCell_other wr ⟨R, 0, none⟩ ⟨R, 1, none⟩ (.slice (some ⟨N, 0, none⟩) 130 130) (by simp)).trans z1)
     clear hmd hW0 K hlen h64
     go_wp2
     refine bodyPost_ret (v := .agg #[.slice (some ⟨N, 0, none⟩) 130 130, .slice va lw.length vc]) (by simp [results, Tryz.results57, go_sem, c0, c1]) rfl ⟨⟨some ⟨N, 0, none⟩, 130, va, vc⟩, _, _, _, _, ?_, hmd2, hbel⟩
     rw [DD.val, hll.out, h.d.len]
def DPost (d : DD) (w : World) (e : Ending) (w' : World) : Prop := ∃ l fa ga fc gc, e = .returned (d.val l) ∧ MD w' w.heap.size w'.heap.size l d fa ga fc gc ∧ Below w.heap.size w w'
theorem MD.last {w w' : World} {lo hi R : Nat} {l : DL} {d : DD} {fa ga : Nat → Option Addr} {fc gc : Nat → Nat} (h : MD w lo hi l d fa ga fc gc) (K : Kept (fun b => b = R) w w') (hR : R < lo) {lo' : Nat} (h1 : lo' ≤ lo) (h2 : hi ≤ w'.heap.size) : MD w' lo' w'.heap.size l d fa ga fc gc :=
 (h.out K (fun b hb _ e => by omega)).mono h1 h2
theorem ret2 {w : World} {R : Nat} {A B va vb : Value} (z0 : w.cell? ⟨R, 0, none⟩ = some va) (z1 : w.cell? ⟨R, 1, none⟩ = some vb) :
  (w.setCell ⟨R, 0, none⟩ A).cell? ⟨R, 0, none⟩ = some A ∧ ((w.setCell ⟨R, 0, none⟩ A).setCell ⟨R, 1, none⟩ B).cell? ⟨R, 1, none⟩ = some B ∧ Kept (fun b => b = R) w ((w.setCell ⟨R, 0, none⟩ A).setCell ⟨R, 1, none⟩ B) :=
 ⟨World.cell?_setCell_same _ _ _ z0, World.cell?_setCell_same _ _ _ ((World.cell?_setCell_other _ _ _ _ (by simp)).trans z1), ((Kept.refl (fun b => b = R) w).set (a := ⟨R, 0, none⟩) (fun _ => rfl) A).set (a := ⟨R, 1, none⟩) (fun _ => rfl) B⟩
def BOwn (w : World) (e : Ending) (w' : World) : Prop := ∃ (lb : List LB) (ba : Option Addr) (bc : Nat), e = .returned (blankD.val ⟨ba, bc, none, 0⟩) ∧ lb.map (·.l) = blankD.blocks ∧ SB w.heap.size w' ba bc lb ∧ Below w.heap.size w w'
def BInv (w wr : World) (R V k : Nat) : Prop := ∃ (lb : List LB) (ba : Option Addr) (bc : Nat), Hid (lb.length = k) ∧ Hid (lb.map (·.l) = List.replicate k (List.replicate 64 0)) ∧ SB (V + 1) wr ba bc lb ∧ VB wr V (.slice ba lb.length bc) (.slice none 0 0) ∧ VB wr R (.slice none 0 0) (.slice none 0 0) ∧ Below w.heap.size w wr
theorem owns_made {w : World} {base n : Nat} (hb : base ≤ w.heap.size) (hn : n ≤ maxLen) : (w.alloc (.cells (madeCells #[.int .u8 0] n) 5)).ownsRow base 5 1 (.slice (some ⟨w.heap.size, 0, none⟩) n n) n (bcells (List.replicate n 0)) := by
 refine ⟨by simp [bcells], Or.inr ⟨w.heap.size, n, _, rfl, hb, blk_new_at _ _ _ rfl, Nat.le_refl _, hn, by rw [size_madeCells]; omega, ?_⟩⟩
 apply List.ext_getElem?
 intro i
 by_cases hi : i < n
 ·
  rw [List.getElem?_take_of_lt (by omega), Array.getElem?_toList]
  simp [madeCells, bcells, hi, Nat.mod_one]
 · rw [List.getElem?_eq_none (by simp; omega), List.getElem?_eq_none (by simp [bcells]; omega)]
theorem SB.leB {base base' : Nat} {w : World} {ba : Option Addr} {bc : Nat} {lb : List LB} (h : SB base w ba bc lb) (hb : base' ≤ base) : SB base' w ba bc lb := ⟨owns_le h.own hb, fun y hy => owns_le (h.byt y hy) hb⟩
end Go.Proofs.YtmdpmdmilgbfiaaGreatDoor
