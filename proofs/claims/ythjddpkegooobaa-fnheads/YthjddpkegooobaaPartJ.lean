import Derived.Test.YthjddpkegooobaaPartI

/-
  SHEAD: the specification's HeadOf. Own work.
-/
namespace Go.Proofs.Ythjddpkegooobaa
open Go.RowKit

/-- what a block reads as -/
def DD.rd (d : DD) (m : Nat) : List Nat := readN d.blocks d.waiting (m : Int) d.waiting.length
theorem DD.rd_len {d : DD} (h : d.Fit) {m : Nat} (hm : m < 130) : (d.rd m).length = 64 :=
  readN_mem (p := fun x => x.length = 64) h.bb (fun x hx => (h.wb x hx).2.2) (by rw [h.bl]; simpa using hm) _ (Nat.le_refl _)
theorem DD.rd_byte {d : DD} (h : d.Fit) (ho : d.Ok) {m : Nat} (hm : m < 130) : ∀ x, x ∈ d.rd m → x < 256 :=
  readN_mem (p := fun b => ∀ x, x ∈ b → x < 256) (fun b hb => (ho.bb b hb).byte) (fun x hx => (ho.wb x hx).byte) (by rw [h.bl]; simpa using hm) _ (Nat.le_refl _)

theorem sLow_some : ∀ (k i n : Nat) (r : List Nat), k ≤ r.length → ∃ x, sLow k i n r = some (x, r.drop k)
  | 0, _, n, r, _ => ⟨n, rfl⟩
  | k + 1, i, n, x :: r, h => by
    obtain ⟨y, hy⟩ := sLow_some k (i + 1) (orU n x (8 * i)) r (by simpa using h)
    exact ⟨y, hy⟩

/-- three words, one behind the other -/
theorem head_three {bs : List Nat} {g l s : Nat} {r1 r2 r3 : List Nat} (h1 : sLow 8 0 0 (bs.drop 4) = some (g, r1)) (h2 : sLow 8 0 0 r1 = some (l, r2)) (h3 : sLow 8 0 0 r2 = some (s, r3)) {x : HH} (hx : x.Is bs) : (g : Int) = x.gen ∧ (l : Int) = x.len ∧ wrap64 (s : Int) = x.sum := by
  have hr := rng_i64 hx.rng
  have e0 : ∀ n : Int, (n : Int) = n := fun _ => rfl
  have hb : ∀ (n : Int) (r : List Nat), sLow 8 0 0 (lowB 8 (u64n n) ++ r) = some (u64n n, r) := fun n r => by
    have h := sLow_back 8 0 0 (u64n n) r (by omega) (by simp)
    rw [h]
    have e1 : u64n n % 2 ^ (8 * 8) = u64n n := Nat.mod_eq_of_lt (u64n_lt n)
    rw [e1]; simp
  rw [hx.eq, headB_drop, hb] at h1
  injection h1 with h1
  injection h1 with e1 e1'
  rw [← e1', hb] at h2
  injection h2 with h2
  injection h2 with e2 e2'
  rw [← e2', hb] at h3
  injection h3 with h3
  injection h3 with e3 e3'
  have hs := hx.sum
  unfold I64 at hs
  refine ⟨?_, ?_, ?_⟩
  · rw [← e1]; unfold u64n; omega
  · rw [← e2]; unfold u64n; omega
  · rw [← e3]; unfold u64n wrap64; omega

theorem SR.new {w : World} {oa : Option Addr} {bs : List Nat} {c : Nat} (ha : BytesAt w oa bs) (hc : bs.length ≤ c) (hl : bs.length ≤ 4096) (hb : ∀ x, x ∈ bs → x < 256) (k : Nat) (hk : k ≤ bs.length + 2) (z : Int) (hz : z = (k : Int)) : SR (w.alloc (.cells #[.slice oa bs.length c, .int .i64 z, .bool false] 98)) w.heap.size oa c bs k false := by
  subst hz
  have hA := gal (gre w) (.cells #[.slice oa bs.length c, .int .i64 (k : Int), .bool false] 98)
  exact ⟨by simp, by simp, by simp, by simp, fun o => by simp, ha.low.below hA, hc, hl, hb, hk⟩

theorem owns_capH {w : World} {base n cap : Nat} {a : Option Addr} {t : TypeId} {k : Nat} {xs : List Value} (h : w.ownsRow base t k (.slice a n cap) n xs) : n ≤ cap := by
  rcases h.2 with ⟨_, h2⟩ | ⟨g, c, cur, h1, _, _, h4, _⟩
  · omega
  · injection h1 with _ _ e
    omega
/-- a head's own variable, that may be written -/
structure HV (w : World) (R : Nat) (h : HH) : Prop where
  box : HBox w R h.ok h.gen h.len h.sum
  f : ∀ o, w.frozen? ⟨R, o, none⟩ = false
theorem HV.kept {p : Nat → Prop} {w w' : World} {b : Nat} {h : HH} (hv : HV w b h) (k : Kept p w w') (hn : ¬ p b) : HV w' b h :=
  ⟨hv.box.kept k hn, fun o => (World.frozen?_of_block (w := w) (a := ⟨b, o, none⟩) (k.block b hv.box.lt hn)).trans (hv.f o)⟩
theorem HV.grow {w w' : World} {b : Nat} {h : HH} (hv : HV w b h) (k : Below w.heap.size w w') : HV w' b h := hv.kept (Kept.of_below k (fun _ => False)) (fun e => e)
theorem HV.new_at (w : World) (h : HH) (t : TypeId) (R : Nat) (hR : R = w.heap.size) : HV (w.alloc (.cells #[.bool h.ok, .int .i64 h.gen, .int .i64 h.len, .int .i64 h.sum] t)) R h := by
  subst hR
  exact ⟨HBox.new w _ _ _ _ _, fun o => by simp⟩
theorem ret4 {w : World} {R : Nat} {h : HH} (hv : HV w R h) (A B C D : Value) :
    (w.setCell ⟨R, 0, none⟩ A).cell? ⟨R, 0, none⟩ = some A ∧ ((w.setCell ⟨R, 0, none⟩ A).setCell ⟨R, 1, none⟩ B).cell? ⟨R, 1, none⟩ = some B ∧ (((w.setCell ⟨R, 0, none⟩ A).setCell ⟨R, 1, none⟩ B).setCell ⟨R, 2, none⟩ C).cell? ⟨R, 2, none⟩ = some C ∧ ((((w.setCell ⟨R, 0, none⟩ A).setCell ⟨R, 1, none⟩ B).setCell ⟨R, 2, none⟩ C).setCell ⟨R, 3, none⟩ D).cell? ⟨R, 3, none⟩ = some D ∧
      Kept (fun b => b = R) w ((((w.setCell ⟨R, 0, none⟩ A).setCell ⟨R, 1, none⟩ B).setCell ⟨R, 2, none⟩ C).setCell ⟨R, 3, none⟩ D) := by
  refine ⟨World.cell?_setCell_same _ _ _ hv.box.c0, World.cell?_setCell_same _ _ _ ((World.cell?_setCell_other _ _ _ _ (by simp)).trans hv.box.c1), World.cell?_setCell_same _ _ _ (((World.cell?_setCell_other _ _ _ _ (by simp)).trans (World.cell?_setCell_other _ _ _ _ (by simp))).trans hv.box.c2), World.cell?_setCell_same _ _ _ ((((World.cell?_setCell_other _ _ _ _ (by simp)).trans (World.cell?_setCell_other _ _ _ _ (by simp))).trans (World.cell?_setCell_other _ _ _ _ (by simp))).trans hv.box.c3), ?_⟩
  exact ((((Kept.refl (fun b => b = R) w).set (a := ⟨R, 0, none⟩) (fun _ => rfl) A).set (a := ⟨R, 1, none⟩) (fun _ => rfl) B).set (a := ⟨R, 2, none⟩) (fun _ => rfl) C).set (a := ⟨R, 3, none⟩) (fun _ => rfl) D

theorem sEight_known (b : Nat) (sa : Option Addr) (cap : Nat) (bs : List Nat) (at_ : Nat) (x : Nat) (r : List Nat) (w : World) (hR : SR w b sa cap bs at_ false) (hx : Hid (sLow 8 0 0 (bs.drop at_) = some (x, r))) :
    Calls Try.prog 126 #[.pointer (some ⟨b, 0, none⟩)] w fun e w' => e = .returned (.int .u64 (x : Int)) ∧ (∃ at', SR w' b sa cap bs at' false ∧ Hid (bs.drop at' = r)) ∧ Kept (fun k => k = b) w w' :=
  (sEight_any b sa cap bs at_ false w hR).mono fun e w' ⟨hK, y, at', bad', he, _, hS, _, hr⟩ => by
    rcases hr.out.2 rfl with ⟨rfl, e1⟩ | ⟨_, e1⟩
    · rw [hx.out] at e1
      injection e1 with e1
      injection e1 with e2 e3
      subst e2
      exact ⟨he, ⟨at', hS, e3.symm⟩, hK⟩
    · rw [hx.out] at e1
      cases e1

/-- what heads' bytes read as, at once -/
structure HRead (bs : List Nat) (g l s : Nat) (r1 r2 r3 : List Nat) : Prop where
  e1 : sLow 8 0 0 (bs.drop 4) = some (g, r1)
  e2 : sLow 8 0 0 r1 = some (l, r2)
  e3 : sLow 8 0 0 r2 = some (s, r3)
theorem hread {bs : List Nat} (h : bs.length = 64) : ∃ g l s r1 r2 r3, HRead bs g l s r1 r2 r3 := by
  obtain ⟨g, hg⟩ := sLow_some 8 0 0 (bs.drop 4) (by rw [List.length_drop]; omega)
  obtain ⟨l, hl⟩ := sLow_some 8 0 0 ((bs.drop 4).drop 8) (by rw [List.length_drop, List.length_drop]; omega)
  obtain ⟨s, hs⟩ := sLow_some 8 0 0 (((bs.drop 4).drop 8).drop 8) (by rw [List.length_drop, List.length_drop, List.length_drop]; omega)
  exact ⟨g, l, s, _, _, _, hg, hl, hs⟩

set_option maxHeartbeats 2000000 in
set_option maxRecDepth 100000 in
theorem l4head_any (d : DD) (l : DL) (m : Nat) (w : World) (hf : d.Fit) (ho : d.Ok) (ha : DAt w l d) (hm : m < 130) :
    Calls Try.prog 163 #[d.val l, .int .i64 (m : Int)] w fun e w' => e = .returned (headOf (d.rd m)).val ∧ Below w.heap.size w w' := by
  obtain ⟨bs, hbs⟩ := hid_ex (d.rd m)
  have hbl : Hid (bs.length = 64) := by show _ = _; rw [hbs.out]; exact DD.rd_len hf hm
  have hbb : ∀ x, x ∈ bs → x < 256 := by rw [hbs.out]; exact DD.rd_byte hf ho hm
  rw [← hbs.out]
  obtain ⟨G, L, S, r1, r2, r3, hE⟩ := hread hbl.out
  have E1 : Hid _ := hE.e1
  have E2 : Hid _ := hE.e2
  have E3 : Hid _ := hE.e3
  have hA := gal (gal (gre w) (.cells #[.slice l.ba d.blocks.length l.bc, .slice l.wa d.waiting.length l.wc] 44)) (.cells #[.bool false, .int .i64 0, .int .i64 0, .int .i64 0] 55)
  have hR0 := HV.new_at (w.alloc (.cells #[.slice l.ba d.blocks.length l.bc, .slice l.wa d.waiting.length l.wc] 44)) noH 55 (w.heap.size + 1) (by simp)
  have hno : ∀ P : Prop, (P → False) → ((1000000000000 : Int) < (G : Int) ∨ (4096 : Int) < (L : Int) ∨ headOkB true (G : Int) (L : Int) = false ∨ headB (G : Int) (L : Int) (wrap64 (S : Int)) ≠ bs) → headOf bs = noH := fun _ _ h => headOf_no fun x hx => by
    obtain ⟨e1, e2, e3⟩ := head_three hE.e1 hE.e2 hE.e3 hx
    have hr := rng_i64 hx.rng
    rcases h with h | h | h | h
    · omega
    · omega
    · rw [e1, e2, hx.rng] at h; cases h
    · rw [e1, e2, e3] at h; exact h hx.eq.symm
  go_enter Try.func163, Try.ntmps163
  by_cases t1 : (1000000000000 : Int) < (G : Int)
  · rw [hno False id (Or.inl t1)]
    go_upto_region 99 with (first
          | (go_at_call 167; refine (l3read_own d l m _ hf (ha.grow hA) hm).mono ?_; rw [show readN d.blocks d.waiting (m : Int) d.waiting.length = bs from hbs.out.symm]; rintro e w1 ⟨oa, c, rfl, hO, hb1⟩; have hlc : bs.length ≤ c := owns_capH hO; have hS0 := SR.new (owns_bytes hO) hlc (by have := hbl.out; omega) hbb 4 (by have := hbl.out; omega) 4 rfl; have hAt := owns_bytes hO; have hRl := (hR0.grow hb1).box.lt; have hb2 := gal hb1 (.cells #[.slice oa bs.length c, .int .i64 4, .bool false] 98))
          | (go_at_call 126; refine (sEight_known _ _ _ _ _ S r3 _ hS2 (by show _ = _; rw [d2.out]; exact E3.out)).mono ?_; rintro e w4 ⟨rfl, ⟨at3, hS3, d3⟩, hK3⟩; have hR4 := (((hR0.grow hb2).kept hK1 (by omega)).kept hK2 (by omega)).kept hK3 (by omega); obtain ⟨⟨_, z0, z1, z2, z3⟩, zf⟩ := id hR4; have hB2 := gca hA hb2; have hB3 := hB2.trans (hK1.below (B := w.heap.size) hB2.size (fun k hk e => by omega)); have hB4 := hB3.trans (hK2.below (B := w.heap.size) hB3.size (fun k hk e => by omega)); have hB5 := hB4.trans (hK3.below (B := w.heap.size) hB4.size (fun k hk e => by omega)); have hK := (hK1.trans hK2 (fun _ _ h => h)).trans hK3 (fun _ _ h => h))
          | (go_at_call 126; refine (sEight_known _ _ _ _ _ L r2 _ hS1 (by show _ = _; rw [d1.out]; exact E2.out)).mono ?_; rintro e w3 ⟨rfl, ⟨at2, hS2, d2⟩, hK2⟩)
          | (go_at_call 126; refine (sEight_known _ _ _ _ _ G r1 _ hS0 E1).mono ?_; rintro e w2 ⟨rfl, ⟨at1, hS1, d1⟩, hK1⟩))
    obtain ⟨c0, c1, c2, c3, K⟩ := ret4 hR4 (.bool false) (.int .i64 0) (.int .i64 0) (.int .i64 0)
    exact bodyPost_ret (v := noH.val) (by simp [results, Try.results163, go_sem, c0, c1, c2, c3]) rfl ⟨rfl, hB5.trans (K.below (B := w.heap.size) hB5.size (fun k hk e => by omega))⟩
  · by_cases t2 : (4096 : Int) < (L : Int)
    · rw [hno False id (Or.inr (Or.inl t2))]
      go_upto_region 99 with (first
            | (go_at_call 167; refine (l3read_own d l m _ hf (ha.grow hA) hm).mono ?_; rw [show readN d.blocks d.waiting (m : Int) d.waiting.length = bs from hbs.out.symm]; rintro e w1 ⟨oa, c, rfl, hO, hb1⟩; have hlc : bs.length ≤ c := owns_capH hO; have hS0 := SR.new (owns_bytes hO) hlc (by have := hbl.out; omega) hbb 4 (by have := hbl.out; omega) 4 rfl; have hAt := owns_bytes hO; have hRl := (hR0.grow hb1).box.lt; have hb2 := gal hb1 (.cells #[.slice oa bs.length c, .int .i64 4, .bool false] 98))
            | (go_at_call 126; refine (sEight_known _ _ _ _ _ S r3 _ hS2 (by show _ = _; rw [d2.out]; exact E3.out)).mono ?_; rintro e w4 ⟨rfl, ⟨at3, hS3, d3⟩, hK3⟩; have hR4 := (((hR0.grow hb2).kept hK1 (by omega)).kept hK2 (by omega)).kept hK3 (by omega); obtain ⟨⟨_, z0, z1, z2, z3⟩, zf⟩ := id hR4; have hB2 := gca hA hb2; have hB3 := hB2.trans (hK1.below (B := w.heap.size) hB2.size (fun k hk e => by omega)); have hB4 := hB3.trans (hK2.below (B := w.heap.size) hB3.size (fun k hk e => by omega)); have hB5 := hB4.trans (hK3.below (B := w.heap.size) hB4.size (fun k hk e => by omega)); have hK := (hK1.trans hK2 (fun _ _ h => h)).trans hK3 (fun _ _ h => h))
            | (go_at_call 126; refine (sEight_known _ _ _ _ _ L r2 _ hS1 (by show _ = _; rw [d1.out]; exact E2.out)).mono ?_; rintro e w3 ⟨rfl, ⟨at2, hS2, d2⟩, hK2⟩)
            | (go_at_call 126; refine (sEight_known _ _ _ _ _ G r1 _ hS0 E1).mono ?_; rintro e w2 ⟨rfl, ⟨at1, hS1, d1⟩, hK1⟩))
      obtain ⟨c0, c1, c2, c3, K⟩ := ret4 hR4 (.bool false) (.int .i64 0) (.int .i64 0) (.int .i64 0)
      exact bodyPost_ret (v := noH.val) (by simp [results, Try.results163, go_sem, c0, c1, c2, c3]) rfl ⟨rfl, hB5.trans (K.below (B := w.heap.size) hB5.size (fun k hk e => by omega))⟩
    · have hgw : wrap64 (G : Int) = (G : Int) := by unfold wrap64; omega
      have hlw : wrap64 (L : Int) = (L : Int) := by unfold wrap64; omega
      cases t3 : headOkB true (G : Int) (L : Int) with
      | false =>
        have t3' : Hid _ := t3
        rw [hno False id (Or.inr (Or.inr (Or.inl t3)))]
        clear t3
        go_upto_region 99 with (first
              | (go_at_call 94; refine (l4headok_any true (G : Int) (L : Int) (wrap64 (S : Int)) _).mono ?_; rintro e w6 ⟨rfl, hb6⟩; rw [t3'.out]; have hR6 := hR5.grow hb6; have hH6 := hHw.grow hb6; obtain ⟨⟨_, z0, z1, z2, z3⟩, zf⟩ := id hR6; obtain ⟨⟨_, y0, y1, y2, y3⟩, yf⟩ := id hH6)
              | (go_at_call 167; refine (l3read_own d l m _ hf (ha.grow hA) hm).mono ?_; rw [show readN d.blocks d.waiting (m : Int) d.waiting.length = bs from hbs.out.symm]; rintro e w1 ⟨oa, c, rfl, hO, hb1⟩; have hlc : bs.length ≤ c := owns_capH hO; have hS0 := SR.new (owns_bytes hO) hlc (by have := hbl.out; omega) hbb 4 (by have := hbl.out; omega) 4 rfl; have hAt := owns_bytes hO; have hRl := (hR0.grow hb1).box.lt; have hb2 := gal hb1 (.cells #[.slice oa bs.length c, .int .i64 4, .bool false] 98))
              | (go_at_call 126; refine (sEight_known _ _ _ _ _ S r3 _ hS2 (by show _ = _; rw [d2.out]; exact E3.out)).mono ?_; rintro e w4 ⟨rfl, ⟨at3, hS3, d3⟩, hK3⟩; have hR4 := (((hR0.grow hb2).kept hK1 (by omega)).kept hK2 (by omega)).kept hK3 (by omega); obtain ⟨⟨_, z0, z1, z2, z3⟩, zf⟩ := id hR4; have hB2 := gca hA hb2; have hB3 := hB2.trans (hK1.below (B := w.heap.size) hB2.size (fun k hk e => by omega)); have hB4 := hB3.trans (hK2.below (B := w.heap.size) hB3.size (fun k hk e => by omega)); have hB5 := hB4.trans (hK3.below (B := w.heap.size) hB4.size (fun k hk e => by omega)); have hK := (hK1.trans hK2 (fun _ _ h => h)).trans hK3 (fun _ _ h => h); have hHw := HV.new_at w4 ⟨true, (G : Int), (L : Int), wrap64 (S : Int)⟩ 55 w4.heap.size rfl; have hb5 := gal (gre w4) (.cells #[.bool true, .int .i64 (G : Int), .int .i64 (L : Int), .int .i64 (wrap64 (S : Int))] 55); have hR5 := hR4.grow hb5; have hAt5 : BytesAt _ oa bs := hS3.low.at_.grow hb5)
              | (go_at_call 126; refine (sEight_known _ _ _ _ _ L r2 _ hS1 (by show _ = _; rw [d1.out]; exact E2.out)).mono ?_; rintro e w3 ⟨rfl, ⟨at2, hS2, d2⟩, hK2⟩)
              | (go_at_call 126; refine (sEight_known _ _ _ _ _ G r1 _ hS0 E1).mono ?_; rintro e w2 ⟨rfl, ⟨at1, hS1, d1⟩, hK1⟩))
        obtain ⟨c0, c1, c2, c3, K⟩ := ret4 hR6 (.bool false) (.int .i64 0) (.int .i64 0) (.int .i64 0)
        exact bodyPost_ret (v := noH.val) (by simp [results, Try.results163, go_sem, c0, c1, c2, c3]) rfl ⟨rfl, (gca (gca hB5 hb5) hb6).trans (K.below (B := w.heap.size) (gca (gca hB5 hb5) hb6).size (fun k hk e => by omega))⟩
      | true =>
        have t3' : Hid _ := t3
        by_cases t4 : headB (G : Int) (L : Int) (wrap64 (S : Int)) = bs
        · have t4' : Hid (decide (headB (G : Int) (L : Int) (wrap64 (S : Int)) = bs) = true) := decide_eq_true t4
          rw [headOf_yes (x := ⟨true, (G : Int), (L : Int), wrap64 (S : Int)⟩) ⟨rfl, t3, by unfold I64 wrap64; simp only; omega, t4.symm⟩]
          clear t3 t4
          go_upto_region 99 with (first
                | (go_at_call 94; refine (l4headok_any true (G : Int) (L : Int) (wrap64 (S : Int)) _).mono ?_; rintro e w6 ⟨rfl, hb6⟩; rw [t3'.out]; have hR6 := hR5.grow hb6; have hH6 := hHw.grow hb6; obtain ⟨⟨_, z0, z1, z2, z3⟩, zf⟩ := id hR6; obtain ⟨⟨_, y0, y1, y2, y3⟩, yf⟩ := id hH6)
                | (go_at_call 95; refine (l4block_any true (G : Int) (L : Int) (wrap64 (S : Int)) _).mono ?_; rintro e w7 ⟨oa7, c7, rfl, hO7, hb7⟩)
                | (go_at_call 73; refine (l2equal_any oa7 oa (headB (G : Int) (L : Int) (wrap64 (S : Int))) bs c7 c _ (by rw [headB_length]; decide) (by rw [hbl.out]; decide) (owns_atH hO7) (hAt5.grow (gca hb6 hb7))).mono ?_; rintro e w8 ⟨rfl, hb8⟩; rw [t4'.out]; have hR8 := (hR6.grow hb7).grow hb8; have hH8 := (hH6.grow hb7).grow hb8; obtain ⟨⟨_, z0, z1, z2, z3⟩, zf⟩ := id hR8; obtain ⟨⟨_, y0, y1, y2, y3⟩, yf⟩ := id hH8)
                | (go_at_call 167; refine (l3read_own d l m _ hf (ha.grow hA) hm).mono ?_; rw [show readN d.blocks d.waiting (m : Int) d.waiting.length = bs from hbs.out.symm]; rintro e w1 ⟨oa, c, rfl, hO, hb1⟩; have hlc : bs.length ≤ c := owns_capH hO; have hS0 := SR.new (owns_bytes hO) hlc (by have := hbl.out; omega) hbb 4 (by have := hbl.out; omega) 4 rfl; have hAt := owns_bytes hO; have hRl := (hR0.grow hb1).box.lt; have hb2 := gal hb1 (.cells #[.slice oa bs.length c, .int .i64 4, .bool false] 98))
                | (go_at_call 126; refine (sEight_known _ _ _ _ _ S r3 _ hS2 (by show _ = _; rw [d2.out]; exact E3.out)).mono ?_; rintro e w4 ⟨rfl, ⟨at3, hS3, d3⟩, hK3⟩; have hR4 := (((hR0.grow hb2).kept hK1 (by omega)).kept hK2 (by omega)).kept hK3 (by omega); obtain ⟨⟨_, z0, z1, z2, z3⟩, zf⟩ := id hR4; have hB2 := gca hA hb2; have hB3 := hB2.trans (hK1.below (B := w.heap.size) hB2.size (fun k hk e => by omega)); have hB4 := hB3.trans (hK2.below (B := w.heap.size) hB3.size (fun k hk e => by omega)); have hB5 := hB4.trans (hK3.below (B := w.heap.size) hB4.size (fun k hk e => by omega)); have hK := (hK1.trans hK2 (fun _ _ h => h)).trans hK3 (fun _ _ h => h); have hHw := HV.new_at w4 ⟨true, (G : Int), (L : Int), wrap64 (S : Int)⟩ 55 w4.heap.size rfl; have hb5 := gal (gre w4) (.cells #[.bool true, .int .i64 (G : Int), .int .i64 (L : Int), .int .i64 (wrap64 (S : Int))] 55); have hR5 := hR4.grow hb5; have hAt5 : BytesAt _ oa bs := hS3.low.at_.grow hb5)
                | (go_at_call 126; refine (sEight_known _ _ _ _ _ L r2 _ hS1 (by show _ = _; rw [d1.out]; exact E2.out)).mono ?_; rintro e w3 ⟨rfl, ⟨at2, hS2, d2⟩, hK2⟩)
                | (go_at_call 126; refine (sEight_known _ _ _ _ _ G r1 _ hS0 E1).mono ?_; rintro e w2 ⟨rfl, ⟨at1, hS1, d1⟩, hK1⟩))
          obtain ⟨c0, c1, c2, c3, K⟩ := ret4 hR8 (.bool true) (.int .i64 (G : Int)) (.int .i64 (L : Int)) (.int .i64 (wrap64 (S : Int)))
          have hB8 := gca (gca (gca (gca hB5 hb5) hb6) hb7) hb8
          exact bodyPost_ret (v := headV true (G : Int) (L : Int) (wrap64 (S : Int))) (by simp [results, Try.results163, go_sem, c0, c1, c2, c3]) rfl ⟨rfl, hB8.trans (K.below (B := w.heap.size) hB8.size (fun k hk e => by omega))⟩
        · have t4' : Hid (decide (headB (G : Int) (L : Int) (wrap64 (S : Int)) = bs) = false) := decide_eq_false t4
          rw [hno False id (Or.inr (Or.inr (Or.inr t4)))]
          clear t3 t4
          go_upto_region 99 with (first
                | (go_at_call 94; refine (l4headok_any true (G : Int) (L : Int) (wrap64 (S : Int)) _).mono ?_; rintro e w6 ⟨rfl, hb6⟩; rw [t3'.out]; have hR6 := hR5.grow hb6; have hH6 := hHw.grow hb6; obtain ⟨⟨_, z0, z1, z2, z3⟩, zf⟩ := id hR6; obtain ⟨⟨_, y0, y1, y2, y3⟩, yf⟩ := id hH6)
                | (go_at_call 95; refine (l4block_any true (G : Int) (L : Int) (wrap64 (S : Int)) _).mono ?_; rintro e w7 ⟨oa7, c7, rfl, hO7, hb7⟩)
                | (go_at_call 73; refine (l2equal_any oa7 oa (headB (G : Int) (L : Int) (wrap64 (S : Int))) bs c7 c _ (by rw [headB_length]; decide) (by rw [hbl.out]; decide) (owns_atH hO7) (hAt5.grow (gca hb6 hb7))).mono ?_; rintro e w8 ⟨rfl, hb8⟩; rw [t4'.out]; have hR8 := (hR6.grow hb7).grow hb8; have hH8 := (hH6.grow hb7).grow hb8; obtain ⟨⟨_, z0, z1, z2, z3⟩, zf⟩ := id hR8; obtain ⟨⟨_, y0, y1, y2, y3⟩, yf⟩ := id hH8)
                | (go_at_call 167; refine (l3read_own d l m _ hf (ha.grow hA) hm).mono ?_; rw [show readN d.blocks d.waiting (m : Int) d.waiting.length = bs from hbs.out.symm]; rintro e w1 ⟨oa, c, rfl, hO, hb1⟩; have hlc : bs.length ≤ c := owns_capH hO; have hS0 := SR.new (owns_bytes hO) hlc (by have := hbl.out; omega) hbb 4 (by have := hbl.out; omega) 4 rfl; have hAt := owns_bytes hO; have hRl := (hR0.grow hb1).box.lt; have hb2 := gal hb1 (.cells #[.slice oa bs.length c, .int .i64 4, .bool false] 98))
                | (go_at_call 126; refine (sEight_known _ _ _ _ _ S r3 _ hS2 (by show _ = _; rw [d2.out]; exact E3.out)).mono ?_; rintro e w4 ⟨rfl, ⟨at3, hS3, d3⟩, hK3⟩; have hR4 := (((hR0.grow hb2).kept hK1 (by omega)).kept hK2 (by omega)).kept hK3 (by omega); obtain ⟨⟨_, z0, z1, z2, z3⟩, zf⟩ := id hR4; have hB2 := gca hA hb2; have hB3 := hB2.trans (hK1.below (B := w.heap.size) hB2.size (fun k hk e => by omega)); have hB4 := hB3.trans (hK2.below (B := w.heap.size) hB3.size (fun k hk e => by omega)); have hB5 := hB4.trans (hK3.below (B := w.heap.size) hB4.size (fun k hk e => by omega)); have hK := (hK1.trans hK2 (fun _ _ h => h)).trans hK3 (fun _ _ h => h); have hHw := HV.new_at w4 ⟨true, (G : Int), (L : Int), wrap64 (S : Int)⟩ 55 w4.heap.size rfl; have hb5 := gal (gre w4) (.cells #[.bool true, .int .i64 (G : Int), .int .i64 (L : Int), .int .i64 (wrap64 (S : Int))] 55); have hR5 := hR4.grow hb5; have hAt5 : BytesAt _ oa bs := hS3.low.at_.grow hb5)
                | (go_at_call 126; refine (sEight_known _ _ _ _ _ L r2 _ hS1 (by show _ = _; rw [d1.out]; exact E2.out)).mono ?_; rintro e w3 ⟨rfl, ⟨at2, hS2, d2⟩, hK2⟩)
                | (go_at_call 126; refine (sEight_known _ _ _ _ _ G r1 _ hS0 E1).mono ?_; rintro e w2 ⟨rfl, ⟨at1, hS1, d1⟩, hK1⟩))
          obtain ⟨c0, c1, c2, c3, K⟩ := ret4 hR8 (.bool false) (.int .i64 0) (.int .i64 0) (.int .i64 0)
          exact bodyPost_ret (v := noH.val) (by simp [results, Try.results163, go_sem, c0, c1, c2, c3]) rfl ⟨rfl, (gca (gca (gca (gca hB5 hb5) hb6) hb7) hb8).trans (K.below (B := w.heap.size) (gca (gca (gca (gca hB5 hb5) hb6) hb7) hb8).size (fun k hk e => by omega))⟩

end Go.Proofs.Ythjddpkegooobaa

/-
  REGIONJ: a region that draws its order, by what holds of what has come up (J): one step an operation, whatever the order. Own work, over the library's own laws on orders.
-/
namespace Go.Proofs.Ythjddpkegooobaa
open Go.RowKit

section
variable {P : Program} {ops : Array Oper} {Q : Exit → Act → World → Prop} {md : Region.Mode}

/-- every operation waits for earlier ones alone -/
def backB (ops : Array Oper) : Bool := (List.range ops.size).all fun i => match ops[i]? with
  | some o => o.after.all fun e => decide (e.on < i)
  | none => true
/-- these are among those that it waits for -/
def predsB (md : Region.Mode) (o : Oper) (ps : List Nat) : Bool := ps.all fun k => o.after.any fun e => Region.binds md e && e.on == k

theorem backB_of (h : backB ops = true) {i : Nat} {o : Oper} (ho : ops[i]? = some o) : ∀ e ∈ o.after, e.on < i := fun e he => by
  have hlt : i < ops.size := (Array.getElem?_eq_some_iff.1 ho).1
  unfold backB at h
  have h2 := List.all_eq_true.1 h i (List.mem_range.2 hlt)
  rw [ho] at h2
  simpa using (Array.all_eq_true_iff_forall_mem.1 h2) e he
theorem all_of_none (hb : backB ops = true) {listed : Array Bool} (hn : listed.size = ops.size) (h : Region.ready md ops listed = []) : ∀ m i, i < m → i < ops.size → listed.getD i false = true
  | 0, i, hi, _ => absurd hi (Nat.not_lt_zero _)
  | m + 1, i, hi, hs => by
    by_cases e : i < m
    · exact all_of_none hb hn h m i e hs
    obtain ⟨o, ho⟩ : ∃ o, ops[i]? = some o := ⟨ops[i], Array.getElem?_eq_getElem hs⟩
    cases hl : listed.getD i false with
    | true => rfl
    | false =>
      have h1 : i ∈ Region.ready md ops listed := mem_ready.2 ⟨by simp [Array.getD, hn, hs] at hl ⊢; exact hl, o, ho, fun e' he _ => by
        have := backB_of hb ho e' he
        exact all_of_none hb hn h m e'.on (by omega) (by omega)⟩
      rw [h] at h1
      cases h1

/-- what one operation owes -/
def StepJ (P : Program) (ops : Array Oper) (Q : Exit → Act → World → Prop) (J : (Nat → Prop) → Act → World → Prop) (i : Nat) (o : Oper) (ps : List Nat) : Prop :=
  ∀ (D : Nat → Prop) (a : Act) (w : World), (∀ k, k ∈ ps → D k) → ¬ D i → J D a w → ∀ K : Act → World → Prop, Shut (∀ a' w', J (fun j => j = i ∨ D j) a' w' → K a' w') → if Region.wanted o (yielded ops a.tmps) = true then Oper.wp P o a w K Q else K (a.put o.dst undef) w

theorem count_set_false {l : Array Bool} {i : Nat} (h : i < l.size) (hf : l.getD i true = false) : (l.setIfInBounds i true).toList.count false + 1 = l.toList.count false := by
  have h1 : l[i] = false := by simpa [Array.getD, h] using hf
  have h2 : l.toList.count false ≠ 0 := fun e => by
    have := List.count_eq_zero.1 e
    exact this (by rw [← h1]; exact Array.getElem_mem_toList h)
  have e1 : l.toList[i]'(by simpa using h) = false := by simpa using h1
  rw [Array.toList_setIfInBounds, List.count_set (by simpa using h), e1]
  simp only [beq_self_eq_true, if_true, show (true == false) = false from rfl, Bool.false_eq_true, if_false]
  omega

theorem wpAny_inv (J : (Nat → Prop) → Act → World → Prop) (hb : backB ops = true)
    (hstep : ∀ i, i < ops.size → ∃ o ps, ops[i]? = some o ∧ predsB md o ps = true ∧ StepJ P ops Q J i o ps)
    (hend : ∀ a w, J (fun i => i < ops.size) a w → Q .normal a w) :
    ∀ (fuel : Nat) (listed : Array Bool) (a : Act) (w : World), listed.size = ops.size → listed.toList.count false ≤ fuel → J (fun i => listed.getD i false = true) a w → wpAny P md ops Q fuel listed a w := by
  have hall : ∀ (listed : Array Bool) (a : Act) (w : World), listed.size = ops.size → Region.ready md ops listed = [] → J (fun i => listed.getD i false = true) a w → Q .normal a w := fun listed a w hn hr hJ => by
    refine hend a w ?_
    have e : (fun i => listed.getD i false = true) = (fun i => i < ops.size) := funext fun i => propext ⟨fun h => by
      rcases Nat.lt_or_ge i listed.size with h' | h'
      · omega
      · simp [Array.getD, Nat.not_lt.2 h'] at h, fun h => all_of_none hb hn hr (i + 1) i (Nat.lt_succ_self _) h⟩
    rw [← e]; exact hJ
  intro fuel
  induction fuel with
  | zero =>
    intro listed a w hn hc hJ
    have hr : Region.ready md ops listed = [] := by
      cases hr : Region.ready md ops listed with
      | nil => rfl
      | cons x xs =>
        have hx : x ∈ Region.ready md ops listed := by rw [hr]; exact List.mem_cons_self ..
        obtain ⟨h1, o, ho, _⟩ := mem_ready.1 hx
        have hlt : x < ops.size := (Array.getElem?_eq_some_iff.1 ho).1
        have := count_set_false (by omega) h1
        omega
    exact ⟨hr, hall listed a w hn hr hJ⟩
  | succ fuel ih =>
    intro listed a w hn hc hJ
    refine ⟨fun hr => hall listed a w hn hr hJ, fun i hi => ?_⟩
    obtain ⟨h1, o, ho, hp⟩ := mem_ready.1 hi
    have hlt : i < ops.size := (Array.getElem?_eq_some_iff.1 ho).1
    obtain ⟨o', ps, ho', hps, hst⟩ := hstep i hlt
    rw [ho] at ho'
    obtain rfl := Option.some.inj ho'
    have hcs := count_set_false (l := listed) (i := i) (by omega) h1
    refine wpOp_step ho (fun K' hK => hst _ a w (fun k hk => ?_) (fun hD => ?_) hJ K' (fun a' w' hJ' => hK a' w' ?_))
    · obtain ⟨e, he, hb2⟩ := Array.any_eq_true'.1 (List.all_eq_true.1 hps k hk)
      simp only [Bool.and_eq_true, beq_iff_eq] at hb2
      have := hp e he hb2.1
      rw [hb2.2] at this
      exact this
    · simp [Array.getD, hn, hlt] at h1 hD
      rw [h1] at hD
      cases hD
    · refine ih _ a' w' (by simpa using hn) (by omega) ?_
      have e : (fun j => (listed.setIfInBounds i true).getD j false = true) = (fun j => j = i ∨ listed.getD j false = true) := funext fun j => propext (by
        by_cases e : j = i
        · subst e
          simp [Array.getD, hn, hlt]
        · rw [getD_set_ne false (Ne.symm e)]
          simp [e])
      rw [e]; exact hJ'

theorem wp_regionJ {id : Nat} {a : Act} {w : World} (J : (Nat → Prop) → Act → World → Prop) (hm : P.follows .mixedOrders = true) (hb : backB ops = true) (h0 : J (fun _ => False) a w.drew)
    (hend : ∀ a w, J (fun i => i < ops.size) a w → Q .normal a w)
    (hstep : ∀ i, i < ops.size → ∃ o ps, ops[i]? = some o ∧ predsB .any o ps = true ∧ StepJ P ops Q J i o ps) : (Code.region id ops true).wp P Q a w := by
  refine wp_region_any hm (wpAny_inv J hb hstep hend ops.size _ a _ (by simp) (by simp) ?_)
  have e : (fun i => (Array.replicate ops.size false).getD i false = true) = (fun _ => False) := funext fun i => propext (by
    by_cases h : i < ops.size
    · simp [Array.getD, h]
    · simp [Array.getD, h])
  rw [e]; exact h0

end
end Go.Proofs.Ythjddpkegooobaa

/-
  L6H: a head, drawn. Own work.
-/
namespace Go.Proofs.Ythjddpkegooobaa
open Go.RowKit

/-- a drawn head -/
def HeadD (w : World) (b : Nat) (sa : Option Addr) (bs : List Nat) (cap : Nat) (e : Ending) (w' : World) : Prop :=
  ∃ (ok : Bool) (gen len sum : Int) (at' : Nat), I64 gen ∧ I64 len ∧ I64 sum ∧ e = .returned (headV ok gen len sum) ∧ DK w w' b sa bs cap at'

def upd (v : Nat → Value) (s : Nat) (x : Value) : Nat → Value := fun k => if k = s then x else v k
theorem upd_same (v : Nat → Value) (s : Nat) (x : Value) : upd v s x s = x := if_pos rfl
theorem upd_other (v : Nat → Value) {s k : Nat} (x : Value) (h : k ≠ s) : upd v s x k = v k := if_neg h

/-- numbers in a block of their own -/
def IntsAt (w : World) (b R g : Nat) (zs : List Int) : Prop := (g ≠ b ∧ g ≠ R) ∧ g < w.heap.size ∧ (∀ z, z ∈ zs → I64 z) ∧ ∀ i, i < zs.length → w.cell? ⟨g, i, none⟩ = some (.int .i64 zs[i]!)
/-- what each operation leaves in its slot -/
def hL (b R : Nat) (v : Nat → Value) (w : World) : Nat → Prop
  | 0 => v 3 = .pointer (some ⟨b, 0, none⟩)
  | 1 => ∃ n : Nat, n < 8 ∧ v 4 = .int .i64 (n : Int)
  | 2 => ∃ c, v 5 = .bool c
  | 3 => ∃ g zs, v 6 = .slice (some ⟨g, 0, none⟩) 6 6 ∧ zs.length = 6 ∧ IntsAt w b R g zs
  | 4 => v 7 = .pointer (some ⟨b, 0, none⟩)
  | 5 => ∃ n : Nat, n < 6 ∧ v 8 = .int .i64 (n : Int)
  | 6 => ∃ g n x, v 9 = .pointer (some ⟨g, n, none⟩) ∧ (g ≠ b ∧ g ≠ R) ∧ I64 x ∧ w.cell? ⟨g, n, none⟩ = some (.int .i64 x)
  | 7 => ∃ x, I64 x ∧ v 10 = .int .i64 x
  | 8 => ∃ g zs, v 11 = .slice (some ⟨g, 0, none⟩) 8 8 ∧ zs.length = 8 ∧ IntsAt w b R g zs
  | 9 => v 12 = .pointer (some ⟨b, 0, none⟩)
  | 10 => ∃ n : Nat, n < 8 ∧ v 13 = .int .i64 (n : Int)
  | 11 => ∃ g n x, v 14 = .pointer (some ⟨g, n, none⟩) ∧ (g ≠ b ∧ g ≠ R) ∧ I64 x ∧ w.cell? ⟨g, n, none⟩ = some (.int .i64 x)
  | 12 => ∃ x, I64 x ∧ v 15 = .int .i64 x
  | 13 => v 16 = .pointer (some ⟨b, 0, none⟩)
  | 14 => ∃ x, I64 x ∧ v 17 = .int .i64 x
  | 15 => ∃ c x y z, I64 x ∧ I64 y ∧ I64 z ∧ v 18 = headV c x y z
  | _ => True
theorem IntsAt.kept {p : Nat → Prop} {w w' : World} {b R g : Nat} {zs : List Int} (h : IntsAt w b R g zs) (K : Kept p w w') (hp : ∀ g, g ≠ b ∧ g ≠ R → ¬ p g) : IntsAt w' b R g zs :=
  ⟨h.1, Nat.lt_of_lt_of_le h.2.1 K.size, h.2.2.1, fun i hi => K.cell (h.2.2.2 i hi) (hp g h.1)⟩
theorem hL_kept {p : Nat → Prop} {b R : Nat} {v : Nat → Value} {w w' : World} (K : Kept p w w') (hp : ∀ g, g ≠ b ∧ g ≠ R → ¬ p g) : ∀ k, hL b R v w k → hL b R v w' k
  | 0, h | 1, h | 2, h | 4, h | 5, h | 7, h | 9, h | 10, h | 12, h | 13, h | 14, h | 15, h => h
  | 3, ⟨g, zs, h1, h2, h3⟩ | 8, ⟨g, zs, h1, h2, h3⟩ => ⟨g, zs, h1, h2, h3.kept K hp⟩
  | 6, ⟨g, n, x, h1, h2, h3, h4⟩ | 11, ⟨g, n, x, h1, h2, h3, h4⟩ => ⟨g, n, x, h1, h2, h3, K.cell h4 (hp g h2)⟩
  | _ + 16, _ => trivial
theorem hL_upd {b R : Nat} {v : Nat → Value} {w : World} (s : Nat) (x : Value) : ∀ k, k + 3 ≠ s → hL b R v w k → hL b R (upd v s x) w k
  | 0, e, h | 1, e, h | 2, e, h | 3, e, h | 4, e, h | 5, e, h | 6, e, h | 7, e, h | 8, e, h | 9, e, h | 10, e, h | 11, e, h | 12, e, h | 13, e, h | 14, e, h | 15, e, h => by
    simp only [hL, upd_other v x e]
    exact h
  | _ + 16, _, _ => trivial

/-- what holds while the operations come up -/
structure HJ (w0 : World) (b R : Nat) (sa : Option Addr) (bs : List Nat) (cap at_ : Nat) (D : Nat → Prop) (v : Nat → Value) (w : World) : Prop where
  cur : ∃ at', DK w0 w b sa bs cap at' ∧ (¬ D 1 → at' ≤ at_) ∧ (¬ D 5 → at' ≤ at_ + 4) ∧ (¬ D 10 → at' ≤ at_ + 8) ∧ (¬ D 14 → at' ≤ at_ + 12)
  res : ∃ h, HV w R h ∧ (D 16 → I64 h.gen ∧ I64 h.len ∧ I64 h.sum)
  done : ∀ k, D k → hL b R v w k
  o1 : D 5 → D 1
  o2 : D 10 → D 5
/-- an operation that draws nothing -/
theorem HJ.next {w0 : World} {b R : Nat} {sa : Option Addr} {bs : List Nat} {cap at_ : Nat} {D : Nat → Prop} {v : Nat → Value} {w w' : World} (h : HJ w0 b R sa bs cap at_ D v w) (i s : Nat) (x : Value) (hs : i + 3 = s) (hi : i < 16 ∧ i ≠ 5 ∧ i ≠ 10) (hB : Below w.heap.size w w') (hx : hL b R (upd v s x) w' i) : HJ w0 b R sa bs cap at_ (fun j => j = i ∨ D j) (upd v s x) w' := by
  obtain ⟨at', hd, a1, a2, a3, a4⟩ := h.cur
  obtain ⟨hh, hr, hf⟩ := h.res
  refine ⟨⟨at', ⟨hd.dc.kept (Kept.of_below hB (fun _ => False)) (fun e => e) (fun _ _ _ e => e), hd.kept.trans (Kept.of_below hB _) (fun _ _ e => e)⟩, fun e => a1 (fun hk => e (Or.inr hk)), fun e => a2 (fun hk => e (Or.inr hk)), fun e => a3 (fun hk => e (Or.inr hk)), fun e => a4 (fun hk => e (Or.inr hk))⟩, ⟨hh, hr.grow hB, fun e => hf (e.resolve_left (by omega))⟩, fun k hk => ?_, fun e => Or.inr (h.o1 (e.resolve_left (by omega))), fun e => Or.inr (h.o2 (e.resolve_left (by omega)))⟩
  by_cases e : k = i
  · subst e; exact hx
  · exact hL_upd s x k (by omega) (hL_kept (Kept.of_below hB (fun _ => False)) (fun _ _ e => e) k (h.done k (hk.resolve_left e)))
/-- one that draws -/
theorem HJ.draw {w0 : World} {b R : Nat} {sa : Option Addr} {bs : List Nat} {cap at_ at2 : Nat} {D : Nat → Prop} {v : Nat → Value} {w w' : World} (h : HJ w0 b R sa bs cap at_ D v w) (hbR : b ≠ R) (i s : Nat) (x : Value) (hs : i + 3 = s) (hi : i < 16) (hk2 : DK w w' b sa bs cap at2)
    (a1 : ¬ (1 = i ∨ D 1) → at2 ≤ at_) (a2 : ¬ (5 = i ∨ D 5) → at2 ≤ at_ + 4) (a3 : ¬ (10 = i ∨ D 10) → at2 ≤ at_ + 8) (a4 : ¬ (14 = i ∨ D 14) → at2 ≤ at_ + 12) (p1 : 5 = i → D 1) (p2 : 10 = i → D 5) (hx : hL b R (upd v s x) w' i) : HJ w0 b R sa bs cap at_ (fun j => j = i ∨ D j) (upd v s x) w' := by
  obtain ⟨at', hd, _⟩ := h.cur
  obtain ⟨hh, hr, hf⟩ := h.res
  refine ⟨⟨at2, hd.trans hk2, a1, a2, a3, a4⟩, ⟨hh, hr.kept hk2.kept (fun e => hbR e.symm), fun e => hf (e.resolve_left (by omega))⟩, fun k hk => ?_, fun e => Or.inr (e.elim p1 h.o1), fun e => Or.inr (e.elim p2 h.o2)⟩
  by_cases e : k = i
  · subst e; exact hx
  · exact hL_upd s x k (by omega) (hL_kept hk2.kept (fun g hg e => hg.1 e) k (h.done k (hk.resolve_left e)))

set_option maxHeartbeats 4000000 in
set_option maxRecDepth 100000 in
theorem l6head_any (b : Nat) (sa : Option Addr) (bs : List Nat) (cap at_ : Nat) (w : World) (hc : DC w b sa bs cap at_) (hat : at_ + 20 < 4611686018427387904) :
    Calls Try.prog 92 #[.pointer (some ⟨b, 0, none⟩)] w (HeadD w b sa bs cap) := by
  have hB0 := gal (gre w) (.cells #[.bool false, .int .i64 0, .int .i64 0, .int .i64 0] 55)
  have hR0 := HV.new_at w noH 55 w.heap.size rfl
  have hc0 := hc.kept (Kept.of_below hB0 (fun _ => False)) (fun e => e) (fun _ _ _ e => e)
  have hbl := hc.lt
  have hbR : b ≠ w.heap.size := by omega
  go_enter Try.func92, Try.ntmps92
  go_upto_region 1 with fail
  refine wp_regionJ (fun D a u => ∃ v : Nat → Value, a = { tmps := #[.pointer (some ⟨b, 0, none⟩), undef, .pointer (some ⟨w.heap.size, 0, none⟩), v 3, v 4, v 5, v 6, v 7, v 8, v 9, v 10, v 11, v 12, v 13, v 14, v 15, v 16, v 17, v 18], defers := [] } ∧ HJ w b w.heap.size sa bs cap at_ D v u) (by kernel_rfl) (by kernel_rfl) ?init ?fin ?step
  case init =>
    exact ⟨fun _ => undef, rfl, ⟨at_, ⟨hc0.drewN 1, KeptD.drewN (Kept.of_below hB0 _) 1⟩, fun _ => Nat.le_refl _, fun _ => by omega, fun _ => by omega, fun _ => by omega⟩, ⟨noH, hR0.grow (gdr (gre _)), fun e => e.elim⟩, fun k hk => hk.elim, fun e => e.elim, fun e => e.elim⟩
  case fin =>
    rintro a u ⟨v, rfl, hj⟩
    obtain ⟨h, hv, hf⟩ := hj.res
    obtain ⟨h1, h2, h3⟩ := hf (show 16 < 17 by decide)
    obtain ⟨at', hd, _⟩ := hj.cur
    obtain ⟨⟨_, c0, c1, c2, c3⟩, _⟩ := id hv
    go_wp2
    refine bodyPost_ret (v := headV h.ok h.gen h.len h.sum) (by simp [results, Try.results92, go_sem, c0, c1, c2, c3, headV]) rfl ⟨h.ok, h.gen, h.len, h.sum, at', h1, h2, h3, rfl, hd⟩
  case step =>
    intro i hi
    rcases i with _ | i
    · refine ⟨_, [], rfl, by kernel_rfl, fun D a u hp hn hJ K hK => ?_⟩
      obtain ⟨v, rfl, hj⟩ := hJ
      go_simp
      exact hK.out _ _ ⟨upd v 3 _, rfl, hj.next 0 3 _ rfl (by decide) (gre _) rfl⟩
    rcases i with _ | i
    · refine ⟨_, [0], rfl, by kernel_rfl, fun D a u hp hn hJ K hK => ?_⟩
      obtain ⟨v, rfl, hj⟩ := hJ
      have e0 : v 3 = .pointer (some ⟨b, 0, none⟩) := hj.done 0 (hp 0 (by simp))
      obtain ⟨at', hd, a1, a2, a3, a4⟩ := hj.cur
      have ha := a1 hn
      go_simp
      refine (l6pick_of b sa bs cap at' 8 8 _ rfl hd.dc (by omega) (by omega) (by omega)).mono ?_
      rintro e w2 ⟨x, at2, hx, ha2, rfl, hk2⟩
      exact hK.out _ _ ⟨upd v 4 _, by simp [upd, e0], hj.draw hbR 1 4 _ rfl (by decide) hk2 (fun e => absurd (Or.inl rfl) e) (fun _ => by omega) (fun _ => by omega) (fun _ => by omega) (fun e => absurd e (by decide)) (fun e => absurd e (by decide)) ⟨x, hx, rfl⟩⟩
    rcases i with _ | i
    · refine ⟨_, [1], rfl, by kernel_rfl, fun D a u hp hn hJ K hK => ?_⟩
      obtain ⟨v, rfl, hj⟩ := hJ
      obtain ⟨n, hn8, e4⟩ := (hj.done 1 (hp 1 (by simp)) : ∃ n : Nat, n < 8 ∧ v 4 = .int .i64 (n : Int))
      go_simp
      exact hK.out _ _ ⟨upd v 5 (.bool (decide ((0 : Int) < (n : Int)))), by simp [upd, e4], hj.next 2 5 _ rfl (by decide) (gre _) ⟨_, rfl⟩⟩
    rcases i with _ | i
    · refine ⟨_, [], rfl, by kernel_rfl, fun D a u hp hn hJ K hK => ?_⟩
      obtain ⟨v, rfl, hj⟩ := hJ
      go_simp
      have hu := (hj.cur.elim fun _ h => h.1.dc.lt)
      refine hK.out _ _ ⟨upd v 6 (.slice (some ⟨u.heap.size, 0, none⟩) 6 6), rfl, hj.next 3 6 _ rfl (by decide) (gal (gre _) _) ⟨u.heap.size, [0, 1, 2, 7, 1000000000000, 1000000000001], rfl, rfl, ⟨by omega, by have := hj.res.elim fun _ h => h.1.box.lt; omega⟩, by simp, fun z hz => ?_, fun i hi => ?_⟩⟩
      · simp only [List.mem_cons, List.not_mem_nil, or_false] at hz
        unfold I64
        omega
      · obtain rfl | rfl | rfl | rfl | rfl | rfl : i = 0 ∨ i = 1 ∨ i = 2 ∨ i = 3 ∨ i = 4 ∨ i = 5 := by simp at hi; omega
        all_goals simp
    rcases i with _ | i
    · refine ⟨_, [], rfl, by kernel_rfl, fun D a u hp hn hJ K hK => ?_⟩
      obtain ⟨v, rfl, hj⟩ := hJ
      go_simp
      exact hK.out _ _ ⟨upd v 7 _, rfl, hj.next 4 7 _ rfl (by decide) (gre _) rfl⟩
    rcases i with _ | i
    · refine ⟨_, [4, 1], rfl, by kernel_rfl, fun D a u hp hn hJ K hK => ?_⟩
      obtain ⟨v, rfl, hj⟩ := hJ
      have e0 : v 7 = .pointer (some ⟨b, 0, none⟩) := hj.done 4 (hp 4 (by simp))
      have h1 := hp 1 (by simp)
      obtain ⟨at', hd, a1, a2, a3, a4⟩ := hj.cur
      have ha := a2 hn
      go_simp
      refine (l6pick_of b sa bs cap at' 6 6 _ rfl hd.dc (by omega) (by omega) (by omega)).mono ?_
      rintro e w2 ⟨x, at2, hx, ha2, rfl, hk2⟩
      exact hK.out _ _ ⟨upd v 8 _, by simp [upd, e0], hj.draw hbR 5 8 _ rfl (by decide) hk2 (fun e => absurd (Or.inr h1) e) (fun e => absurd (Or.inl rfl) e) (fun _ => by omega) (fun _ => by omega) (fun _ => h1) (fun e => absurd e (by decide)) ⟨x, hx, rfl⟩⟩
    rcases i with _ | i
    · refine ⟨_, [3, 5], rfl, by kernel_rfl, fun D a u hp hn hJ K hK => ?_⟩
      obtain ⟨v, rfl, hj⟩ := hJ
      obtain ⟨g, zs, e1, hz, hI⟩ := (hj.done 3 (hp 3 (by simp)) : ∃ g zs, v 6 = .slice (some ⟨g, 0, none⟩) 6 6 ∧ zs.length = 6 ∧ IntsAt u b w.heap.size g zs)
      obtain ⟨n, hn8, e2⟩ := (hj.done 5 (hp 5 (by simp)) : ∃ n : Nat, n < 6 ∧ v 8 = .int .i64 (n : Int))
      have i0 : (0 : Int) ≤ (n : Int) := by omega
      have i1 : (n : Int) < 6 := by omega
      go_simp
      exact hK.out _ _ ⟨upd v 9 _, by simp [upd, e1, e2], hj.next 6 9 _ rfl (by decide) (gre _) ⟨g, n, zs[n]!, rfl, hI.1, hI.2.2.1 _ (mem_at (by omega)), hI.2.2.2 n (by omega)⟩⟩
    rcases i with _ | i
    · refine ⟨_, [6], rfl, by kernel_rfl, fun D a u hp hn hJ K hK => ?_⟩
      obtain ⟨v, rfl, hj⟩ := hJ
      obtain ⟨g, n, x, e1, hg, hx, hc1⟩ := (hj.done 6 (hp 6 (by simp)) : ∃ g n x, v 9 = .pointer (some ⟨g, n, none⟩) ∧ (g ≠ b ∧ g ≠ w.heap.size) ∧ I64 x ∧ u.cell? ⟨g, n, none⟩ = some (.int .i64 x))
      go_simp
      exact hK.out _ _ ⟨upd v 10 _, by simp [upd, e1], hj.next 7 10 _ rfl (by decide) (gre _) ⟨x, hx, rfl⟩⟩
    rcases i with _ | i
    · refine ⟨_, [], rfl, by kernel_rfl, fun D a u hp hn hJ K hK => ?_⟩
      obtain ⟨v, rfl, hj⟩ := hJ
      go_simp
      have hu := (hj.cur.elim fun _ h => h.1.dc.lt)
      refine hK.out _ _ ⟨upd v 11 (.slice (some ⟨u.heap.size, 0, none⟩) 8 8), rfl, hj.next 8 11 _ rfl (by decide) (gal (gre _) _) ⟨u.heap.size, [-1, 0, 1, 63, 64, 65, 4096, 4097], rfl, rfl, ⟨by omega, by have := hj.res.elim fun _ h => h.1.box.lt; omega⟩, by simp, fun z hz => ?_, fun i hi => ?_⟩⟩
      · simp only [List.mem_cons, List.not_mem_nil, or_false] at hz
        unfold I64
        omega
      · obtain rfl | rfl | rfl | rfl | rfl | rfl | rfl | rfl : i = 0 ∨ i = 1 ∨ i = 2 ∨ i = 3 ∨ i = 4 ∨ i = 5 ∨ i = 6 ∨ i = 7 := by simp at hi; omega
        all_goals simp
    rcases i with _ | i
    · refine ⟨_, [], rfl, by kernel_rfl, fun D a u hp hn hJ K hK => ?_⟩
      obtain ⟨v, rfl, hj⟩ := hJ
      go_simp
      exact hK.out _ _ ⟨upd v 12 _, rfl, hj.next 9 12 _ rfl (by decide) (gre _) rfl⟩
    rcases i with _ | i
    · refine ⟨_, [9, 5], rfl, by kernel_rfl, fun D a u hp hn hJ K hK => ?_⟩
      obtain ⟨v, rfl, hj⟩ := hJ
      have e0 : v 12 = .pointer (some ⟨b, 0, none⟩) := hj.done 9 (hp 9 (by simp))
      have h5 := hp 5 (by simp)
      have h1 := hj.o1 h5
      obtain ⟨at', hd, a1, a2, a3, a4⟩ := hj.cur
      have ha := a3 hn
      go_simp
      refine (l6pick_of b sa bs cap at' 8 8 _ rfl hd.dc (by omega) (by omega) (by omega)).mono ?_
      rintro e w2 ⟨x, at2, hx, ha2, rfl, hk2⟩
      exact hK.out _ _ ⟨upd v 13 _, by simp [upd, e0], hj.draw hbR 10 13 _ rfl (by decide) hk2 (fun e => absurd (Or.inr h1) e) (fun e => absurd (Or.inr h5) e) (fun e => absurd (Or.inl rfl) e) (fun _ => by omega) (fun e => absurd e (by decide)) (fun _ => h5) ⟨x, hx, rfl⟩⟩
    rcases i with _ | i
    · refine ⟨_, [8, 10], rfl, by kernel_rfl, fun D a u hp hn hJ K hK => ?_⟩
      obtain ⟨v, rfl, hj⟩ := hJ
      obtain ⟨g, zs, e1, hz, hI⟩ := (hj.done 8 (hp 8 (by simp)) : ∃ g zs, v 11 = .slice (some ⟨g, 0, none⟩) 8 8 ∧ zs.length = 8 ∧ IntsAt u b w.heap.size g zs)
      obtain ⟨n, hn8, e2⟩ := (hj.done 10 (hp 10 (by simp)) : ∃ n : Nat, n < 8 ∧ v 13 = .int .i64 (n : Int))
      have i0 : (0 : Int) ≤ (n : Int) := by omega
      have i1 : (n : Int) < 8 := by omega
      go_simp
      exact hK.out _ _ ⟨upd v 14 _, by simp [upd, e1, e2], hj.next 11 14 _ rfl (by decide) (gre _) ⟨g, n, zs[n]!, rfl, hI.1, hI.2.2.1 _ (mem_at (by omega)), hI.2.2.2 n (by omega)⟩⟩
    rcases i with _ | i
    · refine ⟨_, [11], rfl, by kernel_rfl, fun D a u hp hn hJ K hK => ?_⟩
      obtain ⟨v, rfl, hj⟩ := hJ
      obtain ⟨g, n, x, e1, hg, hx, hc1⟩ := (hj.done 11 (hp 11 (by simp)) : ∃ g n x, v 14 = .pointer (some ⟨g, n, none⟩) ∧ (g ≠ b ∧ g ≠ w.heap.size) ∧ I64 x ∧ u.cell? ⟨g, n, none⟩ = some (.int .i64 x))
      go_simp
      exact hK.out _ _ ⟨upd v 15 _, by simp [upd, e1], hj.next 12 15 _ rfl (by decide) (gre _) ⟨x, hx, rfl⟩⟩
    rcases i with _ | i
    · refine ⟨_, [], rfl, by kernel_rfl, fun D a u hp hn hJ K hK => ?_⟩
      obtain ⟨v, rfl, hj⟩ := hJ
      go_simp
      exact hK.out _ _ ⟨upd v 16 _, rfl, hj.next 13 16 _ rfl (by decide) (gre _) rfl⟩
    rcases i with _ | i
    · refine ⟨_, [13, 10], rfl, by kernel_rfl, fun D a u hp hn hJ K hK => ?_⟩
      obtain ⟨v, rfl, hj⟩ := hJ
      have e0 : v 16 = .pointer (some ⟨b, 0, none⟩) := hj.done 13 (hp 13 (by simp))
      have h10 := hp 10 (by simp)
      have h5 := hj.o2 h10
      have h1 := hj.o1 h5
      obtain ⟨at', hd, a1, a2, a3, a4⟩ := hj.cur
      have ha := a4 hn
      go_simp
      refine (l6whole_any b sa bs cap at' _ hd.dc (by omega)).mono ?_
      rintro e w2 ⟨x, at2, hx, ha2, rfl, hk2⟩
      exact hK.out _ _ ⟨upd v 17 _, by simp [upd, e0], hj.draw hbR 14 17 _ rfl (by decide) hk2 (fun e => absurd (Or.inr h1) e) (fun e => absurd (Or.inr h5) e) (fun e => absurd (Or.inr h10) e) (fun e => absurd (Or.inl rfl) e) (fun e => absurd e (by decide)) (fun e => absurd e (by decide)) ⟨x, hx, rfl⟩⟩
    rcases i with _ | i
    · refine ⟨_, [2, 7, 12, 14], rfl, by kernel_rfl, fun D a u hp hn hJ K hK => ?_⟩
      obtain ⟨v, rfl, hj⟩ := hJ
      obtain ⟨c, e5⟩ := (hj.done 2 (hp 2 (by simp)) : ∃ c, v 5 = .bool c)
      obtain ⟨x, hx, e10⟩ := (hj.done 7 (hp 7 (by simp)) : ∃ x, I64 x ∧ v 10 = .int .i64 x)
      obtain ⟨y, hy, e15⟩ := (hj.done 12 (hp 12 (by simp)) : ∃ x, I64 x ∧ v 15 = .int .i64 x)
      obtain ⟨z, hz, e17⟩ := (hj.done 14 (hp 14 (by simp)) : ∃ x, I64 x ∧ v 17 = .int .i64 x)
      go_simp
      exact hK.out _ _ ⟨upd v 18 _, by simp [upd, e5, e10, e15, e17], hj.next 15 18 _ rfl (by decide) (gre _) ⟨c, x, y, z, hx, hy, hz, rfl⟩⟩
    rcases i with _ | i
    · refine ⟨_, [15], rfl, by kernel_rfl, fun D a u hp hn hJ K hK => ?_⟩
      obtain ⟨v, rfl, hj⟩ := hJ
      obtain ⟨c, x, y, z, hx, hy, hz, e1⟩ := (hj.done 15 (hp 15 (by simp)) : ∃ c x y z, I64 x ∧ I64 y ∧ I64 z ∧ v 18 = headV c x y z)
      obtain ⟨h, hv, _⟩ := hj.res
      obtain ⟨⟨_, c0, c1, c2, c3⟩, hf⟩ := id hv
      unfold headV at e1
      go_simp
      obtain ⟨r0, r1, r2, r3, KR⟩ := ret4 hv (.bool c) (.int .i64 x) (.int .i64 y) (.int .i64 z)
      obtain ⟨at', hd, a1, a2, a3, a4⟩ := hj.cur
      refine hK.out _ _ ⟨v, by simp [e1], ⟨at', ⟨hd.dc.kept KR hbR (fun g off e h => by have := hc.sl g off e; omega), hd.kept.trans KR (fun k hk e => by omega)⟩, fun e => a1 (fun hk => e (Or.inr hk)), fun e => a2 (fun hk => e (Or.inr hk)), fun e => a3 (fun hk => e (Or.inr hk)), fun e => a4 (fun hk => e (Or.inr hk))⟩, ⟨⟨c, x, y, z⟩, ?_, fun _ => ⟨hx, hy, hz⟩⟩, fun k hk => hk.elim (fun e => by subst e; trivial) (fun e => hL_kept KR (fun g hg e => hg.2 e) k (hj.done k e)), fun e => Or.inr (hj.o1 (e.resolve_left (by omega))), fun e => Or.inr (hj.o2 (e.resolve_left (by omega)))⟩
      exact ⟨⟨by have := KR.size; have := hv.box.lt; omega, (World.cell?_setCell_other _ _ _ _ (by simp)).trans ((World.cell?_setCell_other _ _ _ _ (by simp)).trans ((World.cell?_setCell_other _ _ _ _ (by simp)).trans r0)), (World.cell?_setCell_other _ _ _ _ (by simp)).trans ((World.cell?_setCell_other _ _ _ _ (by simp)).trans r1), (World.cell?_setCell_other _ _ _ _ (by simp)).trans r2, r3⟩, fun o => by rw [World.frozen?_setCell, World.frozen?_setCell, World.frozen?_setCell, World.frozen?_setCell]; exact hf o⟩
    · exact absurd hi (by simp)

end Go.Proofs.Ythjddpkegooobaa

/-
  SHEAD2: the specification's HeadOf. Own work.
-/
namespace Go.Proofs.Ythjddpkegooobaa
open Go.RowKit

def DD.headOf (d : DD) (b : Int) : HH := if d.ok = true ∧ 0 ≤ b ∧ b < 2 then Go.Proofs.Ythjddpkegooobaa.headOf (d.rd b.toNat) else noH

set_option maxHeartbeats 1000000 in
set_option maxRecDepth 100000 in
theorem specHeadOf_any (d : DD) (l : DL) (b : Int) (w : World) (hd : d.Ok) (ha : DAt w l d) (hb : I64 b) :
    Calls Try.prog 153 #[d.val l, .int .i64 b] w fun e w' => e = .returned (d.headOf b).val ∧ Below w.heap.size w w' := by
  unfold I64 at hb
  have hA := gal (gal (gre w) (.cells #[.slice l.ba d.blocks.length l.bc, .slice l.wa d.waiting.length l.wc] 44)) (.cells #[.bool false, .int .i64 0, .int .i64 0, .int .i64 0] 55)
  have hX0 := (DBox.new w d l 44).grow (gal (gre _) (.cells #[.bool false, .int .i64 0, .int .i64 0, .int .i64 0] 55))
  have hR0 := HV.new_at (w.alloc (.cells #[.slice l.ba d.blocks.length l.bc, .slice l.wa d.waiting.length l.wc] 44)) noH 55 (w.heap.size + 1) (by simp)
  cases hok : d.ok with
  | false =>
    have hok' : Hid _ := hok
    rw [show d.headOf b = noH from if_neg (fun h => by rw [hok] at h; cases h.1)]
    clear hok
    go_enter Try.func153, Try.ntmps153
    go_upto_region 99 with (go_at_call 27; refine (specDiskOk_any d l _ hd (ha.grow hA)).mono ?_; rintro e w2 ⟨rfl, hb2⟩; rw [hok'.out]; have hR2 := hR0.grow hb2; obtain ⟨⟨_, z0, z1, z2, z3⟩, zf⟩ := id hR2)
    obtain ⟨c0, c1, c2, c3, K⟩ := ret4 hR2 (.bool false) (.int .i64 0) (.int .i64 0) (.int .i64 0)
    exact bodyPost_ret (v := noH.val) (by simp [results, Try.results153, go_sem, c0, c1, c2, c3]) rfl ⟨rfl, (gca hA hb2).trans (K.below (B := w.heap.size) (gca hA hb2).size (fun k hk e => by omega))⟩
  | true =>
    have hok' : Hid _ := hok
    by_cases g0 : b < 0
    · rw [show d.headOf b = noH from if_neg (fun h => by omega)]
      clear hok
      go_enter Try.func153, Try.ntmps153
      go_upto_region 99 with (go_at_call 27; refine (specDiskOk_any d l _ hd (ha.grow hA)).mono ?_; rintro e w2 ⟨rfl, hb2⟩; rw [hok'.out]; have hR2 := hR0.grow hb2; obtain ⟨⟨_, z0, z1, z2, z3⟩, zf⟩ := id hR2)
      obtain ⟨c0, c1, c2, c3, K⟩ := ret4 hR2 (.bool false) (.int .i64 0) (.int .i64 0) (.int .i64 0)
      exact bodyPost_ret (v := noH.val) (by simp [results, Try.results153, go_sem, c0, c1, c2, c3]) rfl ⟨rfl, (gca hA hb2).trans (K.below (B := w.heap.size) (gca hA hb2).size (fun k hk e => by omega))⟩
    · by_cases g1 : (1 : Int) < b
      · rw [show d.headOf b = noH from if_neg (fun h => by omega)]
        clear hok
        go_enter Try.func153, Try.ntmps153
        go_upto_region 99 with (go_at_call 27; refine (specDiskOk_any d l _ hd (ha.grow hA)).mono ?_; rintro e w2 ⟨rfl, hb2⟩; rw [hok'.out]; have hR2 := hR0.grow hb2; obtain ⟨⟨_, z0, z1, z2, z3⟩, zf⟩ := id hR2)
        obtain ⟨c0, c1, c2, c3, K⟩ := ret4 hR2 (.bool false) (.int .i64 0) (.int .i64 0) (.int .i64 0)
        exact bodyPost_ret (v := noH.val) (by simp [results, Try.results153, go_sem, c0, c1, c2, c3]) rfl ⟨rfl, (gca hA hb2).trans (K.below (B := w.heap.size) (gca hA hb2).size (fun k hk e => by omega))⟩
      · obtain ⟨m, rfl⟩ : ∃ m : Nat, b = (m : Int) := ⟨b.toNat, by omega⟩
        have hm : m < 130 := by omega
        rw [show d.headOf (m : Int) = Go.Proofs.Ythjddpkegooobaa.headOf (d.rd m) from (if_pos ⟨hok, by omega, by omega⟩).trans (by simp)]
        obtain ⟨h, hh⟩ := hid_ex (Go.Proofs.Ythjddpkegooobaa.headOf (d.rd m))
        rw [← hh.out]
        clear hok
        go_enter Try.func153, Try.ntmps153
        go_upto_region 99 with (first
          | (go_at_call 27; refine (specDiskOk_any d l _ hd (ha.grow hA)).mono ?_; rintro e w2 ⟨rfl, hb2⟩; rw [hok'.out]; obtain ⟨_, x0, x1⟩ := hX0.grow hb2)
          | (go_at_call 163; refine (l4head_any d l m _ (DD.fit hok'.out) hd (ha.grow (gca hA hb2)) hm).mono ?_; rw [← hh.out]; rintro e w3 ⟨rfl, hb3⟩; have hR3 := (hR0.grow hb2).grow hb3; obtain ⟨⟨_, z0, z1, z2, z3⟩, zf⟩ := id hR3))
        obtain ⟨c0, c1, c2, c3, K⟩ := ret4 hR3 (.bool h.ok) (.int .i64 h.gen) (.int .i64 h.len) (.int .i64 h.sum)
        exact bodyPost_ret (v := h.val) (by simp [results, Try.results153, go_sem, c0, c1, c2, c3]) rfl ⟨rfl, (gca (gca hA hb2) hb3).trans (K.below (B := w.heap.size) (gca (gca hA hb2) hb3).size (fun k hk e => by omega))⟩

end Go.Proofs.Ythjddpkegooobaa
