import Derived.Test.YthjddpkegooobaaPartR

/-
  SHEAD: the specification's HeadOf. Own work.
-/
namespace Go.Proofs.Ythjddpkegooobaa
open Go.RowKit

/-- what a block reads as -/
def DD.rd (d : DD) (m : Nat) : List Nat := readN d.blocks d.waiting (m : Int) d.waiting.length
theorem DD.rd_len {d : DD} (h : d.Fit) {m : Nat} (hm : m < 130) : (d.rd m).length = 64 :=
  readN_mem (p := fun x => x.length = 64) h.bb (fun x hx => (h.wb x hx).2.2) (by rw [h.bl]; simpa using hm) _ (Nat.le_refl _)
theorem DD.rd_byte {d : DD} (h : d.Fit) (ho : d.Ok) {m : Nat} (hm : m < 130) : ∀ x, x ∈ d.rd m → x < 256 :=
  readN_mem (p := fun b => ∀ x, x ∈ b → x < 256) (fun b hb => (ho.bb b hb).byte) (fun x hx => (ho.wb x hx).byte) (by rw [h.bl]; simpa using hm) _ (Nat.le_refl _)

theorem sLow_some : ∀ (k i n : Nat) (r : List Nat), k ≤ r.length → ∃ x, sLow k i n r = some (x, r.drop k)
  | 0, _, n, r, _ => ⟨n, rfl⟩
  | k + 1, i, n, x :: r, h => by
    obtain ⟨y, hy⟩ := sLow_some k (i + 1) (orU n x (8 * i)) r (by simpa using h)
    exact ⟨y, hy⟩

/-- three words, one behind the other -/
theorem head_three {bs : List Nat} {g l s : Nat} {r1 r2 r3 : List Nat} (h1 : sLow 8 0 0 (bs.drop 4) = some (g, r1)) (h2 : sLow 8 0 0 r1 = some (l, r2)) (h3 : sLow 8 0 0 r2 = some (s, r3)) {x : HH} (hx : x.Is bs) : (g : Int) = x.gen ∧ (l : Int) = x.len ∧ wrap64 (s : Int) = x.sum := by
  have hr := rng_i64 hx.rng
  have e0 : ∀ n : Int, (n : Int) = n := fun _ => rfl
  have hb : ∀ (n : Int) (r : List Nat), sLow 8 0 0 (lowB 8 (u64n n) ++ r) = some (u64n n, r) := fun n r => by
    have h := sLow_back 8 0 0 (u64n n) r (by omega) (by simp)
    rw [h]
    have e1 : u64n n % 2 ^ (8 * 8) = u64n n := Nat.mod_eq_of_lt (u64n_lt n)
    rw [e1]; simp
  rw [hx.eq, headB_drop, hb] at h1
  injection h1 with h1
  injection h1 with e1 e1'
  rw [← e1', hb] at h2
  injection h2 with h2
  injection h2 with e2 e2'
  rw [← e2', hb] at h3
  injection h3 with h3
  injection h3 with e3 e3'
  have hs := hx.sum
  unfold I64 at hs
  refine ⟨?_, ?_, ?_⟩
  · rw [← e1]; unfold u64n; omega
  · rw [← e2]; unfold u64n; omega
  · rw [← e3]; unfold u64n wrap64; omega

theorem SR.new {w : World} {oa : Option Addr} {bs : List Nat} {c : Nat} (ha : BytesAt w oa bs) (hc : bs.length ≤ c) (hl : bs.length ≤ 4096) (hb : ∀ x, x ∈ bs → x < 256) (k : Nat) (hk : k ≤ bs.length + 2) (z : Int) (hz : z = (k : Int)) : SR (w.alloc (.cells #[.slice oa bs.length c, .int .i64 z, .bool false] 98)) w.heap.size oa c bs k false := by
  subst hz
  have hA := gal (gre w) (.cells #[.slice oa bs.length c, .int .i64 (k : Int), .bool false] 98)
  exact ⟨by simp, by simp, by simp, by simp, fun o => by simp, ha.low.below hA, hc, hl, hb, hk⟩

theorem owns_capH {w : World} {base n cap : Nat} {a : Option Addr} {t : TypeId} {k : Nat} {xs : List Value} (h : w.ownsRow base t k (.slice a n cap) n xs) : n ≤ cap := by
  rcases h.2 with ⟨_, h2⟩ | ⟨g, c, cur, h1, _, _, h4, _⟩
  · omega
  · injection h1 with _ _ e
    omega
/-- a head's own variable, that may be written -/
structure HV (w : World) (R : Nat) (h : HH) : Prop where
  box : HBox w R h.ok h.gen h.len h.sum
  f : ∀ o, w.frozen? ⟨R, o, none⟩ = false
theorem HV.kept {p : Nat → Prop} {w w' : World} {b : Nat} {h : HH} (hv : HV w b h) (k : Kept p w w') (hn : ¬ p b) : HV w' b h :=
  ⟨hv.box.kept k hn, fun o => (World.frozen?_of_block (w := w) (a := ⟨b, o, none⟩) (k.block b hv.box.lt hn)).trans (hv.f o)⟩
theorem HV.grow {w w' : World} {b : Nat} {h : HH} (hv : HV w b h) (k : Below w.heap.size w w') : HV w' b h := hv.kept (Kept.of_below k (fun _ => False)) (fun e => e)
theorem HV.new_at (w : World) (h : HH) (t : TypeId) (R : Nat) (hR : R = w.heap.size) : HV (w.alloc (.cells #[.bool h.ok, .int .i64 h.gen, .int .i64 h.len, .int .i64 h.sum] t)) R h := by
  subst hR
  exact ⟨HBox.new w _ _ _ _ _, fun o => by simp⟩
theorem ret4 {w : World} {R : Nat} {h : HH} (hv : HV w R h) (A B C D : Value) :
    (w.setCell ⟨R, 0, none⟩ A).cell? ⟨R, 0, none⟩ = some A ∧ ((w.setCell ⟨R, 0, none⟩ A).setCell ⟨R, 1, none⟩ B).cell? ⟨R, 1, none⟩ = some B ∧ (((w.setCell ⟨R, 0, none⟩ A).setCell ⟨R, 1, none⟩ B).setCell ⟨R, 2, none⟩ C).cell? ⟨R, 2, none⟩ = some C ∧ ((((w.setCell ⟨R, 0, none⟩ A).setCell ⟨R, 1, none⟩ B).setCell ⟨R, 2, none⟩ C).setCell ⟨R, 3, none⟩ D).cell? ⟨R, 3, none⟩ = some D ∧
      Kept (fun b => b = R) w ((((w.setCell ⟨R, 0, none⟩ A).setCell ⟨R, 1, none⟩ B).setCell ⟨R, 2, none⟩ C).setCell ⟨R, 3, none⟩ D) := by
  refine ⟨World.cell?_setCell_same _ _ _ hv.box.c0, World.cell?_setCell_same _ _ _ ((World.cell?_setCell_other _ _ _ _ (by simp)).trans hv.box.c1), World.cell?_setCell_same _ _ _ (((World.cell?_setCell_other _ _ _ _ (by simp)).trans (World.cell?_setCell_other _ _ _ _ (by simp))).trans hv.box.c2), World.cell?_setCell_same _ _ _ ((((World.cell?_setCell_other _ _ _ _ (by simp)).trans (World.cell?_setCell_other _ _ _ _ (by simp))).trans (World.cell?_setCell_other _ _ _ _ (by simp))).trans hv.box.c3), ?_⟩
  exact ((((Kept.refl (fun b => b = R) w).set (a := ⟨R, 0, none⟩) (fun _ => rfl) A).set (a := ⟨R, 1, none⟩) (fun _ => rfl) B).set (a := ⟨R, 2, none⟩) (fun _ => rfl) C).set (a := ⟨R, 3, none⟩) (fun _ => rfl) D

theorem sEight_known (b : Nat) (sa : Option Addr) (cap : Nat) (bs : List Nat) (at_ : Nat) (x : Nat) (r : List Nat) (w : World) (hR : SR w b sa cap bs at_ false) (hx : Hid (sLow 8 0 0 (bs.drop at_) = some (x, r))) :
    Calls Try.prog 126 #[.pointer (some ⟨b, 0, none⟩)] w fun e w' => e = .returned (.int .u64 (x : Int)) ∧ (∃ at', SR w' b sa cap bs at' false ∧ Hid (bs.drop at' = r)) ∧ Kept (fun k => k = b) w w' :=
  (sEight_any b sa cap bs at_ false w hR).mono fun e w' ⟨hK, y, at', bad', he, _, hS, _, hr⟩ => by
    rcases hr.out.2 rfl with ⟨rfl, e1⟩ | ⟨_, e1⟩
    · rw [hx.out] at e1
      injection e1 with e1
      injection e1 with e2 e3
      subst e2
      exact ⟨he, ⟨at', hS, e3.symm⟩, hK⟩
    · rw [hx.out] at e1
      cases e1

/-- what heads' bytes read as, at once -/
structure HRead (bs : List Nat) (g l s : Nat) (r1 r2 r3 : List Nat) : Prop where
  e1 : sLow 8 0 0 (bs.drop 4) = some (g, r1)
  e2 : sLow 8 0 0 r1 = some (l, r2)
  e3 : sLow 8 0 0 r2 = some (s, r3)
theorem hread {bs : List Nat} (h : bs.length = 64) : ∃ g l s r1 r2 r3, HRead bs g l s r1 r2 r3 := by
  obtain ⟨g, hg⟩ := sLow_some 8 0 0 (bs.drop 4) (by rw [List.length_drop]; omega)
  obtain ⟨l, hl⟩ := sLow_some 8 0 0 ((bs.drop 4).drop 8) (by rw [List.length_drop, List.length_drop]; omega)
  obtain ⟨s, hs⟩ := sLow_some 8 0 0 (((bs.drop 4).drop 8).drop 8) (by rw [List.length_drop, List.length_drop, List.length_drop]; omega)
  exact ⟨g, l, s, _, _, _, hg, hl, hs⟩

set_option maxHeartbeats 2000000 in
set_option maxRecDepth 100000 in
theorem l4head_any (d : DD) (l : DL) (m : Nat) (w : World) (hf : d.Fit) (ho : d.Ok) (ha : DAt w l d) (hm : m < 130) :
    Calls Try.prog 163 #[d.val l, .int .i64 (m : Int)] w fun e w' => e = .returned (headOf (d.rd m)).val ∧ Below w.heap.size w w' := by
  obtain ⟨bs, hbs⟩ := hid_ex (d.rd m)
  have hbl : Hid (bs.length = 64) := by show _ = _; rw [hbs.out]; exact DD.rd_len hf hm
  have hbb : ∀ x, x ∈ bs → x < 256 := by rw [hbs.out]; exact DD.rd_byte hf ho hm
  rw [← hbs.out]
  obtain ⟨G, L, S, r1, r2, r3, hE⟩ := hread hbl.out
  have E1 : Hid _ := hE.e1
  have E2 : Hid _ := hE.e2
  have E3 : Hid _ := hE.e3
  have hA := gal (gal (gre w) (.cells #[.slice l.ba d.blocks.length l.bc, .slice l.wa d.waiting.length l.wc] 44)) (.cells #[.bool false, .int .i64 0, .int .i64 0, .int .i64 0] 55)
  have hR0 := HV.new_at (w.alloc (.cells #[.slice l.ba d.blocks.length l.bc, .slice l.wa d.waiting.length l.wc] 44)) noH 55 (w.heap.size + 1) (by simp)
  have hno : ∀ P : Prop, (P → False) → ((1000000000000 : Int) < (G : Int) ∨ (4096 : Int) < (L : Int) ∨ headOkB true (G : Int) (L : Int) = false ∨ headB (G : Int) (L : Int) (wrap64 (S : Int)) ≠ bs) → headOf bs = noH := fun _ _ h => headOf_no fun x hx => by
    obtain ⟨e1, e2, e3⟩ := head_three hE.e1 hE.e2 hE.e3 hx
    have hr := rng_i64 hx.rng
    rcases h with h | h | h | h
    · omega
    · omega
    · rw [e1, e2, hx.rng] at h; cases h
    · rw [e1, e2, e3] at h; exact h hx.eq.symm
  go_enter Try.func163, Try.ntmps163
  by_cases t1 : (1000000000000 : Int) < (G : Int)
  · rw [hno False id (Or.inl t1)]
    go_upto_region 99 with (first
          | (go_at_call 167; refine (l3read_own d l m _ hf (ha.grow hA) hm).mono ?_; rw [show readN d.blocks d.waiting (m : Int) d.waiting.length = bs from hbs.out.symm]; rintro e w1 ⟨oa, c, rfl, hO, hb1⟩; have hlc : bs.length ≤ c := owns_capH hO; have hS0 := SR.new (owns_bytes hO) hlc (by have := hbl.out; omega) hbb 4 (by have := hbl.out; omega) 4 rfl; have hAt := owns_bytes hO; have hRl := (hR0.grow hb1).box.lt; have hb2 := gal hb1 (.cells #[.slice oa bs.length c, .int .i64 4, .bool false] 98))
          | (go_at_call 126; refine (sEight_known _ _ _ _ _ S r3 _ hS2 (by show _ = _; rw [d2.out]; exact E3.out)).mono ?_; rintro e w4 ⟨rfl, ⟨at3, hS3, d3⟩, hK3⟩; have hR4 := (((hR0.grow hb2).kept hK1 (by omega)).kept hK2 (by omega)).kept hK3 (by omega); obtain ⟨⟨_, z0, z1, z2, z3⟩, zf⟩ := id hR4; have hB2 := gca hA hb2; have hB3 := hB2.trans (hK1.below (B := w.heap.size) hB2.size (fun k hk e => by omega)); have hB4 := hB3.trans (hK2.below (B := w.heap.size) hB3.size (fun k hk e => by omega)); have hB5 := hB4.trans (hK3.below (B := w.heap.size) hB4.size (fun k hk e => by omega)); have hK := (hK1.trans hK2 (fun _ _ h => h)).trans hK3 (fun _ _ h => h))
          | (go_at_call 126; refine (sEight_known _ _ _ _ _ L r2 _ hS1 (by show _ = _; rw [d1.out]; exact E2.out)).mono ?_; rintro e w3 ⟨rfl, ⟨at2, hS2, d2⟩, hK2⟩)
          | (go_at_call 126; refine (sEight_known _ _ _ _ _ G r1 _ hS0 E1).mono ?_; rintro e w2 ⟨rfl, ⟨at1, hS1, d1⟩, hK1⟩))
    obtain ⟨c0, c1, c2, c3, K⟩ := ret4 hR4 (.bool false) (.int .i64 0) (.int .i64 0) (.int .i64 0)
    exact bodyPost_ret (v := noH.val) (by simp [results, Try.results163, go_sem, c0, c1, c2, c3]) rfl ⟨rfl, hB5.trans (K.below (B := w.heap.size) hB5.size (fun k hk e => by omega))⟩
  · by_cases t2 : (4096 : Int) < (L : Int)
    · rw [hno False id (Or.inr (Or.inl t2))]
      go_upto_region 99 with (first
            | (go_at_call 167; refine (l3read_own d l m _ hf (ha.grow hA) hm).mono ?_; rw [show readN d.blocks d.waiting (m : Int) d.waiting.length = bs from hbs.out.symm]; rintro e w1 ⟨oa, c, rfl, hO, hb1⟩; have hlc : bs.length ≤ c := owns_capH hO; have hS0 := SR.new (owns_bytes hO) hlc (by have := hbl.out; omega) hbb 4 (by have := hbl.out; omega) 4 rfl; have hAt := owns_bytes hO; have hRl := (hR0.grow hb1).box.lt; have hb2 := gal hb1 (.cells #[.slice oa bs.length c, .int .i64 4, .bool false] 98))
            | (go_at_call 126; refine (sEight_known _ _ _ _ _ S r3 _ hS2 (by show _ = _; rw [d2.out]; exact E3.out)).mono ?_; rintro e w4 ⟨rfl, ⟨at3, hS3, d3⟩, hK3⟩; have hR4 := (((hR0.grow hb2).kept hK1 (by omega)).kept hK2 (by omega)).kept hK3 (by omega); obtain ⟨⟨_, z0, z1, z2, z3⟩, zf⟩ := id hR4; have hB2 := gca hA hb2; have hB3 := hB2.trans (hK1.below (B := w.heap.size) hB2.size (fun k hk e => by omega)); have hB4 := hB3.trans (hK2.below (B := w.heap.size) hB3.size (fun k hk e => by omega)); have hB5 := hB4.trans (hK3.below (B := w.heap.size) hB4.size (fun k hk e => by omega)); have hK := (hK1.trans hK2 (fun _ _ h => h)).trans hK3 (fun _ _ h => h))
            | (go_at_call 126; refine (sEight_known _ _ _ _ _ L r2 _ hS1 (by show _ = _; rw [d1.out]; exact E2.out)).mono ?_; rintro e w3 ⟨rfl, ⟨at2, hS2, d2⟩, hK2⟩)
            | (go_at_call 126; refine (sEight_known _ _ _ _ _ G r1 _ hS0 E1).mono ?_; rintro e w2 ⟨rfl, ⟨at1, hS1, d1⟩, hK1⟩))
      obtain ⟨c0, c1, c2, c3, K⟩ := ret4 hR4 (.bool false) (.int .i64 0) (.int .i64 0) (.int .i64 0)
      exact bodyPost_ret (v := noH.val) (by simp [results, Try.results163, go_sem, c0, c1, c2, c3]) rfl ⟨rfl, hB5.trans (K.below (B := w.heap.size) hB5.size (fun k hk e => by omega))⟩
    · have hgw : wrap64 (G : Int) = (G : Int) := by unfold wrap64; omega
      have hlw : wrap64 (L : Int) = (L : Int) := by unfold wrap64; omega
      cases t3 : headOkB true (G : Int) (L : Int) with
      | false =>
        have t3' : Hid _ := t3
        rw [hno False id (Or.inr (Or.inr (Or.inl t3)))]
        clear t3
        go_upto_region 99 with (first
              | (go_at_call 94; refine (l4headok_any true (G : Int) (L : Int) (wrap64 (S : Int)) _).mono ?_; rintro e w6 ⟨rfl, hb6⟩; rw [t3'.out]; have hR6 := hR5.grow hb6; have hH6 := hHw.grow hb6; obtain ⟨⟨_, z0, z1, z2, z3⟩, zf⟩ := id hR6; obtain ⟨⟨_, y0, y1, y2, y3⟩, yf⟩ := id hH6)
              | (go_at_call 167; refine (l3read_own d l m _ hf (ha.grow hA) hm).mono ?_; rw [show readN d.blocks d.waiting (m : Int) d.waiting.length = bs from hbs.out.symm]; rintro e w1 ⟨oa, c, rfl, hO, hb1⟩; have hlc : bs.length ≤ c := owns_capH hO; have hS0 := SR.new (owns_bytes hO) hlc (by have := hbl.out; omega) hbb 4 (by have := hbl.out; omega) 4 rfl; have hAt := owns_bytes hO; have hRl := (hR0.grow hb1).box.lt; have hb2 := gal hb1 (.cells #[.slice oa bs.length c, .int .i64 4, .bool false] 98))
              | (go_at_call 126; refine (sEight_known _ _ _ _ _ S r3 _ hS2 (by show _ = _; rw [d2.out]; exact E3.out)).mono ?_; rintro e w4 ⟨rfl, ⟨at3, hS3, d3⟩, hK3⟩; have hR4 := (((hR0.grow hb2).kept hK1 (by omega)).kept hK2 (by omega)).kept hK3 (by omega); obtain ⟨⟨_, z0, z1, z2, z3⟩, zf⟩ := id hR4; have hB2 := gca hA hb2; have hB3 := hB2.trans (hK1.below (B := w.heap.size) hB2.size (fun k hk e => by omega)); have hB4 := hB3.trans (hK2.below (B := w.heap.size) hB3.size (fun k hk e => by omega)); have hB5 := hB4.trans (hK3.below (B := w.heap.size) hB4.size (fun k hk e => by omega)); have hK := (hK1.trans hK2 (fun _ _ h => h)).trans hK3 (fun _ _ h => h); have hHw := HV.new_at w4 ⟨true, (G : Int), (L : Int), wrap64 (S : Int)⟩ 55 w4.heap.size rfl; have hb5 := gal (gre w4) (.cells #[.bool true, .int .i64 (G : Int), .int .i64 (L : Int), .int .i64 (wrap64 (S : Int))] 55); have hR5 := hR4.grow hb5; have hAt5 : BytesAt _ oa bs := hS3.low.at_.grow hb5)
              | (go_at_call 126; refine (sEight_known _ _ _ _ _ L r2 _ hS1 (by show _ = _; rw [d1.out]; exact E2.out)).mono ?_; rintro e w3 ⟨rfl, ⟨at2, hS2, d2⟩, hK2⟩)
              | (go_at_call 126; refine (sEight_known _ _ _ _ _ G r1 _ hS0 E1).mono ?_; rintro e w2 ⟨rfl, ⟨at1, hS1, d1⟩, hK1⟩))
        obtain ⟨c0, c1, c2, c3, K⟩ := ret4 hR6 (.bool false) (.int .i64 0) (.int .i64 0) (.int .i64 0)
        exact bodyPost_ret (v := noH.val) (by simp [results, Try.results163, go_sem, c0, c1, c2, c3]) rfl ⟨rfl, (gca (gca hB5 hb5) hb6).trans (K.below (B := w.heap.size) (gca (gca hB5 hb5) hb6).size (fun k hk e => by omega))⟩
      | true =>
        have t3' : Hid _ := t3
        by_cases t4 : headB (G : Int) (L : Int) (wrap64 (S : Int)) = bs
        · have t4' : Hid (decide (headB (G : Int) (L : Int) (wrap64 (S : Int)) = bs) = true) := decide_eq_true t4
          rw [headOf_yes (x := ⟨true, (G : Int), (L : Int), wrap64 (S : Int)⟩) ⟨rfl, t3, by unfold I64 wrap64; simp only; omega, t4.symm⟩]
          clear t3 t4
          go_upto_region 99 with (first
                | (go_at_call 94; refine (l4headok_any true (G : Int) (L : Int) (wrap64 (S : Int)) _).mono ?_; rintro e w6 ⟨rfl, hb6⟩; rw [t3'.out]; have hR6 := hR5.grow hb6; have hH6 := hHw.grow hb6; obtain ⟨⟨_, z0, z1, z2, z3⟩, zf⟩ := id hR6; obtain ⟨⟨_, y0, y1, y2, y3⟩, yf⟩ := id hH6)
                | (go_at_call 95; refine (l4block_any true (G : Int) (L : Int) (wrap64 (S : Int)) _).mono ?_; rintro e w7 ⟨oa7, c7, rfl, hO7, hb7⟩)
                | (go_at_call 73; refine (l2equal_any oa7 oa (headB (G : Int) (L : Int) (wrap64 (S : Int))) bs c7 c _ (by rw [headB_length]; decide) (by rw [hbl.out]; decide) (owns_atH hO7) (hAt5.grow (gca hb6 hb7))).mono ?_; rintro e w8 ⟨rfl, hb8⟩; rw [t4'.out]; have hR8 := (hR6.grow hb7).grow hb8; have hH8 := (hH6.grow hb7).grow hb8; obtain ⟨⟨_, z0, z1, z2, z3⟩, zf⟩ := id hR8; obtain ⟨⟨_, y0, y1, y2, y3⟩, yf⟩ := id hH8)
                | (go_at_call 167; refine (l3read_own d l m _ hf (ha.grow hA) hm).mono ?_; rw [show readN d.blocks d.waiting (m : Int) d.waiting.length = bs from hbs.out.symm]; rintro e w1 ⟨oa, c, rfl, hO, hb1⟩; have hlc : bs.length ≤ c := owns_capH hO; have hS0 := SR.new (owns_bytes hO) hlc (by have := hbl.out; omega) hbb 4 (by have := hbl.out; omega) 4 rfl; have hAt := owns_bytes hO; have hRl := (hR0.grow hb1).box.lt; have hb2 := gal hb1 (.cells #[.slice oa bs.length c, .int .i64 4, .bool false] 98))
                | (go_at_call 126; refine (sEight_known _ _ _ _ _ S r3 _ hS2 (by show _ = _; rw [d2.out]; exact E3.out)).mono ?_; rintro e w4 ⟨rfl, ⟨at3, hS3, d3⟩, hK3⟩; have hR4 := (((hR0.grow hb2).kept hK1 (by omega)).kept hK2 (by omega)).kept hK3 (by omega); obtain ⟨⟨_, z0, z1, z2, z3⟩, zf⟩ := id hR4; have hB2 := gca hA hb2; have hB3 := hB2.trans (hK1.below (B := w.heap.size) hB2.size (fun k hk e => by omega)); have hB4 := hB3.trans (hK2.below (B := w.heap.size) hB3.size (fun k hk e => by omega)); have hB5 := hB4.trans (hK3.below (B := w.heap.size) hB4.size (fun k hk e => by omega)); have hK := (hK1.trans hK2 (fun _ _ h => h)).trans hK3 (fun _ _ h => h); have hHw := HV.new_at w4 ⟨true, (G : Int), (L : Int), wrap64 (S : Int)⟩ 55 w4.heap.size rfl; have hb5 := gal (gre w4) (.cells #[.bool true, .int .i64 (G : Int), .int .i64 (L : Int), .int .i64 (wrap64 (S : Int))] 55); have hR5 := hR4.grow hb5; have hAt5 : BytesAt _ oa bs := hS3.low.at_.grow hb5)
                | (go_at_call 126; refine (sEight_known _ _ _ _ _ L r2 _ hS1 (by show _ = _; rw [d1.out]; exact E2.out)).mono ?_; rintro e w3 ⟨rfl, ⟨at2, hS2, d2⟩, hK2⟩)
                | (go_at_call 126; refine (sEight_known _ _ _ _ _ G r1 _ hS0 E1).mono ?_; rintro e w2 ⟨rfl, ⟨at1, hS1, d1⟩, hK1⟩))
          obtain ⟨c0, c1, c2, c3, K⟩ := ret4 hR8 (.bool true) (.int .i64 (G : Int)) (.int .i64 (L : Int)) (.int .i64 (wrap64 (S : Int)))
          have hB8 := gca (gca (gca (gca hB5 hb5) hb6) hb7) hb8
          exact bodyPost_ret (v := headV true (G : Int) (L : Int) (wrap64 (S : Int))) (by simp [results, Try.results163, go_sem, c0, c1, c2, c3]) rfl ⟨rfl, hB8.trans (K.below (B := w.heap.size) hB8.size (fun k hk e => by omega))⟩
        · have t4' : Hid (decide (headB (G : Int) (L : Int) (wrap64 (S : Int)) = bs) = false) := decide_eq_false t4
          rw [hno False id (Or.inr (Or.inr (Or.inr t4)))]
          clear t3 t4
          go_upto_region 99 with (first
                | (go_at_call 94; refine (l4headok_any true (G : Int) (L : Int) (wrap64 (S : Int)) _).mono ?_; rintro e w6 ⟨rfl, hb6⟩; rw [t3'.out]; have hR6 := hR5.grow hb6; have hH6 := hHw.grow hb6; obtain ⟨⟨_, z0, z1, z2, z3⟩, zf⟩ := id hR6; obtain ⟨⟨_, y0, y1, y2, y3⟩, yf⟩ := id hH6)
                | (go_at_call 95; refine (l4block_any true (G : Int) (L : Int) (wrap64 (S : Int)) _).mono ?_; rintro e w7 ⟨oa7, c7, rfl, hO7, hb7⟩)
                | (go_at_call 73; refine (l2equal_any oa7 oa (headB (G : Int) (L : Int) (wrap64 (S : Int))) bs c7 c _ (by rw [headB_length]; decide) (by rw [hbl.out]; decide) (owns_atH hO7) (hAt5.grow (gca hb6 hb7))).mono ?_; rintro e w8 ⟨rfl, hb8⟩; rw [t4'.out]; have hR8 := (hR6.grow hb7).grow hb8; have hH8 := (hH6.grow hb7).grow hb8; obtain ⟨⟨_, z0, z1, z2, z3⟩, zf⟩ := id hR8; obtain ⟨⟨_, y0, y1, y2, y3⟩, yf⟩ := id hH8)
                | (go_at_call 167; refine (l3read_own d l m _ hf (ha.grow hA) hm).mono ?_; rw [show readN d.blocks d.waiting (m : Int) d.waiting.length = bs from hbs.out.symm]; rintro e w1 ⟨oa, c, rfl, hO, hb1⟩; have hlc : bs.length ≤ c := owns_capH hO; have hS0 := SR.new (owns_bytes hO) hlc (by have := hbl.out; omega) hbb 4 (by have := hbl.out; omega) 4 rfl; have hAt := owns_bytes hO; have hRl := (hR0.grow hb1).box.lt; have hb2 := gal hb1 (.cells #[.slice oa bs.length c, .int .i64 4, .bool false] 98))
                | (go_at_call 126; refine (sEight_known _ _ _ _ _ S r3 _ hS2 (by show _ = _; rw [d2.out]; exact E3.out)).mono ?_; rintro e w4 ⟨rfl, ⟨at3, hS3, d3⟩, hK3⟩; have hR4 := (((hR0.grow hb2).kept hK1 (by omega)).kept hK2 (by omega)).kept hK3 (by omega); obtain ⟨⟨_, z0, z1, z2, z3⟩, zf⟩ := id hR4; have hB2 := gca hA hb2; have hB3 := hB2.trans (hK1.below (B := w.heap.size) hB2.size (fun k hk e => by omega)); have hB4 := hB3.trans (hK2.below (B := w.heap.size) hB3.size (fun k hk e => by omega)); have hB5 := hB4.trans (hK3.below (B := w.heap.size) hB4.size (fun k hk e => by omega)); have hK := (hK1.trans hK2 (fun _ _ h => h)).trans hK3 (fun _ _ h => h); have hHw := HV.new_at w4 ⟨true, (G : Int), (L : Int), wrap64 (S : Int)⟩ 55 w4.heap.size rfl; have hb5 := gal (gre w4) (.cells #[.bool true, .int .i64 (G : Int), .int .i64 (L : Int), .int .i64 (wrap64 (S : Int))] 55); have hR5 := hR4.grow hb5; have hAt5 : BytesAt _ oa bs := hS3.low.at_.grow hb5)
                | (go_at_call 126; refine (sEight_known _ _ _ _ _ L r2 _ hS1 (by show _ = _; rw [d1.out]; exact E2.out)).mono ?_; rintro e w3 ⟨rfl, ⟨at2, hS2, d2⟩, hK2⟩)
                | (go_at_call 126; refine (sEight_known _ _ _ _ _ G r1 _ hS0 E1).mono ?_; rintro e w2 ⟨rfl, ⟨at1, hS1, d1⟩, hK1⟩))
          obtain ⟨c0, c1, c2, c3, K⟩ := ret4 hR8 (.bool false) (.int .i64 0) (.int .i64 0) (.int .i64 0)
          exact bodyPost_ret (v := noH.val) (by simp [results, Try.results163, go_sem, c0, c1, c2, c3]) rfl ⟨rfl, (gca (gca (gca (gca hB5 hb5) hb6) hb7) hb8).trans (K.below (B := w.heap.size) (gca (gca (gca (gca hB5 hb5) hb6) hb7) hb8).size (fun k hk e => by omega))⟩

end Go.Proofs.Ythjddpkegooobaa

/-
  NPLAIN: slots, what is newest, what is done to lay an image down, plain. Own work.
-/
namespace Go.Proofs.Ythjddpkegooobaa
open Go.RowKit

/-- the first j blocks from a block on, one behind the other -/
def DD.cat (d : DD) (f : Nat) : Nat → List Nat
  | 0 => []
  | j + 1 => d.cat f j ++ d.rd (f + j)
theorem DD.cat_len {d : DD} (h : d.Fit) {f : Nat} : ∀ {j : Nat}, f + j ≤ 130 → (d.cat f j).length = 64 * j
  | 0, _ => rfl
  | j + 1, hj => by
    have h1 := DD.cat_len h (f := f) (j := j) (by omega)
    have h2 := DD.rd_len h (m := f + j) (by omega)
    simp only [DD.cat, List.length_append, h1, h2]
    omega
theorem DD.cat_byte {d : DD} (h : d.Fit) (ho : d.Ok) {f : Nat} : ∀ {j : Nat}, f + j ≤ 130 → ∀ x, x ∈ d.cat f j → x < 256
  | 0, _ => fun x hx => by cases hx
  | j + 1, hj => fun x hx => by
    rcases List.mem_append.1 hx with e | e
    · exact DD.cat_byte h ho (j := j) (by omega) x e
    · exact DD.rd_byte h ho (m := f + j) (by omega) x e
theorem DD.cat_take {d : DD} (h : d.Fit) {f : Nat} {j k n : Nat} (hjk : j ≤ k) (hk : f + k ≤ 130) (hn : n ≤ 64 * j) : (d.cat f k).take n = (d.cat f j).take n := by
  induction k with
  | zero => obtain rfl : j = 0 := by omega
            rfl
  | succ k ih =>
    by_cases e : j = k + 1
    · subst e; rfl
    · rw [DD.cat, List.take_append_of_le_length (by rw [DD.cat_len h (by omega)]; omega)]
      exact ih (by omega) (by omega)

/-- the first block of a slot's image -/
def firstOf (slot : Nat) : Nat := 2 + slot * 64
/-- the first n bytes of a slot's image -/
def DD.img (d : DD) (slot n : Nat) : List Nat := (d.cat (firstOf slot) 64).take n
theorem DD.img_len {d : DD} (h : d.Fit) {slot n : Nat} (hs : slot < 2) (hn : n ≤ 4096) : (d.img slot n).length = n := by
  unfold DD.img firstOf
  rw [List.length_take, DD.cat_len h (by omega)]
  omega
theorem DD.img_byte {d : DD} (h : d.Fit) (ho : d.Ok) {slot n : Nat} (hs : slot < 2) : ∀ x, x ∈ d.img slot n → x < 256 := fun x hx =>
  DD.cat_byte h ho (by unfold firstOf; omega) x (List.mem_of_mem_take hx)
theorem DD.img_part {d : DD} (h : d.Fit) {slot n j : Nat} (hs : slot < 2) (hj : j ≤ 64) (hn : n ≤ 64 * j) : (d.cat (firstOf slot) j).take n = d.img slot n :=
  (DD.cat_take h hj (by unfold firstOf; omega) hn).symm

structure KK where
  ok : Bool
  gen : Int
  slot : Int
  bytes : List Nat
def noK : KK := ⟨false, 0, 0, []⟩
abbrev KK.val (k : KK) (a : Option Addr) (c : Nat) : Value := .agg #[.bool k.ok, .int .i64 k.gen, .int .i64 k.slot, .slice a k.bytes.length c]

def DD.slotOf (d : DD) (slot : Nat) : KK :=
  if (headOf (d.rd slot)).ok = true ∧ wrap64 (sumN (d.img slot (headOf (d.rd slot)).len.toNat) : Int) = (headOf (d.rd slot)).sum then ⟨true, (headOf (d.rd slot)).gen, (slot : Int), d.img slot (headOf (d.rd slot)).len.toNat⟩ else noK
def DD.newestOf (d : DD) : KK := if (d.slotOf 1).ok = true ∧ ((d.slotOf 0).ok = false ∨ (d.slotOf 0).gen < (d.slotOf 1).gen) then d.slotOf 1 else d.slotOf 0
def DD.newest (d : DD) : KK := if d.ok = true then d.newestOf else noK

/-- what a slot's answer is -/
structure KK.Fine (k : KK) (slot : Nat) : Prop where
  no : k.ok = false → k = noK
  gen : k.ok = true → 1 ≤ k.gen ∧ k.gen ≤ 1000000000000
  slot : k.ok = true → k.slot = (slot : Int)
  len : k.bytes.length ≤ 4096
theorem DD.slot_fine {d : DD} (h : d.Fit) {slot : Nat} (hs : slot < 2) : (d.slotOf slot).Fine slot := by
  unfold DD.slotOf
  rcases headOf_cases (d.rd slot) with hh | hh
  · have hr := rng_i64 hh.rng
    split
    · exact ⟨fun e => (by cases e), fun _ => hr.1, fun _ => rfl, by rw [DD.img_len h hs (by omega)]; omega⟩
    · exact ⟨fun _ => rfl, fun e => (by cases e), fun e => (by cases e), Nat.zero_le _⟩
  · rw [if_neg (fun e => by rw [hh] at e; cases e.1)]
    exact ⟨fun _ => rfl, fun e => (by cases e), fun e => (by cases e), Nat.zero_le _⟩

/-- the program's way: the greater Gen, one slot behind the other -/
theorem newest_steps {a b : KK} (ha : a.Fine 0) (hb : b.Fine 1) : (if b.ok = true ∧ (a.ok = false ∨ a.gen < b.gen) then b else a) = (if (if noK.gen < a.gen then a else noK).gen < b.gen then b else (if noK.gen < a.gen then a else noK)) := by
  have e1 : (if noK.gen < a.gen then a else noK) = a := by
    cases hk : a.ok with
    | false => rw [ha.no hk]; simp [noK]
    | true => rw [if_pos (by have := ha.gen hk; simp [noK]; omega)]
  rw [e1]
  cases hk : b.ok with
  | false =>
    rw [hb.no hk]
    have : ¬ (a.gen < noK.gen) := by
      cases hka : a.ok with
      | false => rw [ha.no hka]; simp
      | true => have := ha.gen hka; simp [noK]; omega
    rw [if_neg (by simp [noK]), if_neg this]
  | true =>
    cases hka : a.ok with
    | false =>
      rw [if_pos ⟨rfl, Or.inl rfl⟩, ha.no hka, if_pos (by have := hb.gen hk; simp [noK]; omega)]
    | true =>
      by_cases hlt : a.gen < b.gen
      · rw [if_pos ⟨rfl, Or.inr hlt⟩, if_pos hlt]
      · rw [if_neg (fun e => by rcases e.2 with e | e; cases e; exact hlt e), if_neg hlt]

end Go.Proofs.Ythjddpkegooobaa

/-
  SOP: ops that are appended to, plain and in memory. Own work.
-/
namespace Go.Proofs.Ythjddpkegooobaa
open Go.RowKit

/-- a block of an image -/
def cutOf (im : List Nat) (j : Nat) : List Nat := (im.drop (64 * j)).take 64
def blkOf (im : List Nat) (j : Nat) : List Nat := cutOf im j ++ List.replicate (64 - (cutOf im j).length) 0
theorem cutOf_len (im : List Nat) (j : Nat) : (cutOf im j).length ≤ 64 := by simp [cutOf]; omega
theorem blkOf_len (im : List Nat) (j : Nat) : (blkOf im j).length = 64 := by
  have := cutOf_len im j
  simp [blkOf]; omega
theorem blkOf_byte {im : List Nat} (h : ∀ x, x ∈ im → x < 256) (j : Nat) : ∀ x, x ∈ blkOf im j → x < 256 := fun x hx => by
  rcases List.mem_append.1 hx with e | e
  · exact h x (List.mem_of_mem_drop (List.mem_of_mem_take e))
  · rw [List.eq_of_mem_replicate e]; decide
/-- how many blocks an image has -/
def nBlk (im : List Nat) : Nat := (im.length + 63) / 64
/-- the slot that the newest is not in -/
def KK.other (k : KK) : Nat := if k.ok = true ∧ k.slot = 0 then 1 else 0
theorem KK.other_lt (k : KK) : k.other < 2 := by unfold KK.other; split <;> omega
/-- the first j writes of an image -/
def imgOps (s : Nat) (im : List Nat) (j : Nat) : List OP := (List.range j).map fun i => ⟨false, ((firstOf s + i : Nat) : Int), blkOf im i⟩
theorem imgOps_succ (s : Nat) (im : List Nat) (j : Nat) : imgOps s im (j + 1) = imgOps s im j ++ [⟨false, ((firstOf s + j : Nat) : Int), blkOf im j⟩] := by simp [imgOps, List.range_succ]
theorem imgOps_len (s : Nat) (im : List Nat) (j : Nat) : (imgOps s im j).length = j := by simp [imgOps]
def headO (k : KK) (im : List Nat) : OP := ⟨false, (k.other : Int), headB (k.gen + 1) (im.length : Int) (wrap64 (sumN im : Int))⟩
/-- what is done to lay an image down -/
def DD.lay (d : DD) (im : List Nat) : List OP := if d.newestOf.gen = 1000000000000 then [] else imgOps d.newestOf.other im (nBlk im) ++ [syncO, headO d.newestOf im, syncO]
def DD.ops (d : DD) (im : List Nat) : List OP := if d.ok = true ∧ d.waiting = [] ∧ im ≠ [] ∧ im.length ≤ 4096 then d.lay im else []

/-- an op, and where its bytes lie -/
structure LO where
  x : OP
  a : Option Addr
  cap : Nat
  deriving Inhabited
def LO.three (y : LO) : List Value := [.bool y.x.sync, .int .i64 y.x.block, .slice y.a y.x.bytes.length y.cap]
theorem LO.three_length (y : LO) : y.three.length = 3 := rfl
def oCells (l : List LO) : List Value := l.flatMap LO.three
theorem oCells_app (l m : List LO) : oCells (l ++ m) = oCells l ++ oCells m := by simp [oCells]
theorem oCells_snoc (l : List LO) (y : LO) : oCells (l ++ [y]) = oCells l ++ [.bool y.x.sync, .int .i64 y.x.block, .slice y.a y.x.bytes.length y.cap] := by simp [oCells, LO.three]
theorem oCells_get : ∀ (l : List LO) (i j : Nat), i < l.length → j < 3 → (oCells l)[i * 3 + j]? = (l[i]!.three)[j]?
  | [], i, j, h, _ => absurd h (Nat.not_lt_zero _)
  | y :: r, 0, j, _, hj => by
    rw [oCells, List.flatMap_cons, Nat.zero_mul, Nat.zero_add, List.getElem?_append_left (by rw [LO.three_length]; exact hj)]
    rfl
  | y :: r, i + 1, j, h, hj => by
    have hlt : i < r.length := by simpa using h
    have ih := oCells_get r i j hlt hj
    rw [oCells, List.flatMap_cons, List.getElem?_append_right (by rw [LO.three_length, Nat.add_mul]; omega), LO.three_length, show (i + 1) * 3 + j - 3 = i * 3 + j by rw [Nat.add_mul]; omega]
    rw [oCells] at ih
    rw [ih]
    simp

theorem owns_isO {w : World} {base size n cap : Nat} {a : Option Addr} {xs : List Value} (h : w.ownsRow base 199 size (.slice a n cap) n xs) {z : Nat} (hz : (Value.slice a n cap).ownBlock = some z) : IsO w z ∧ base ≤ z := by
  have ha := owns_addr h hz
  rcases h.2 with ⟨e, _⟩ | ⟨g, cap', cur, hv, hb, hg, _⟩
  · simp at e
    rw [e.1] at ha
    cases ha
  · simp only [Value.slice.injEq] at hv
    rw [ha] at hv
    obtain rfl := some_addr hv.1
    exact ⟨⟨cur, hg⟩, hb⟩

theorem MB.leO {w : World} {lo lo' : Nat} {oa : Option Addr} {ys : List Nat} (h : MB w lo oa ys) (hl : lo' ≤ lo) : MB w lo' oa ys := by
  rcases h with h | ⟨G, n, h1, h2, h3⟩
  · exact Or.inl h
  · exact Or.inr ⟨G, n, h1, by omega, h3⟩
theorem owns_mbO {w : World} {base n c : Nat} {oa : Option Addr} {bs : List Nat} (h : w.ownsRow base 5 1 (.slice oa n c) n (bcells bs)) (hl : bs.length = n) : MB w base oa bs := by
  rcases h.2 with ⟨e, e2⟩ | ⟨g, cap, cur, hv, hb, hg, h1, h2, h3, h4⟩
  · exact Or.inl (List.eq_nil_of_length_eq_zero (by omega))
  · injection hv with e1 _ e3
    subst e1
    refine Or.inr ⟨g, cap, rfl, hb, cur, hg, by omega, by omega, fun i hi => ?_⟩
    have h5 : (cur.toList.take (n * 1))[i]? = (bcells bs)[i]? := by rw [h4]
    rw [List.getElem?_take_of_lt (by omega), Array.getElem?_toList, bcells_get hi] at h5
    exact h5
structure SO (base : Nat) (wr : World) (oa : Option Addr) (oc : Nat) (lo : List LO) : Prop where
  own : wr.ownsRow base 199 3 (.slice oa lo.length oc) lo.length (oCells lo)
  byt : ∀ y, y ∈ lo → MB wr base y.a y.x.bytes
  far : lo.Pairwise fun y z => y.x.bytes ≠ [] → z.x.bytes ≠ [] → Apart y.a z.a
theorem MB.keptO {p : Nat → Prop} {w w' : World} {lo : Nat} {oa : Option Addr} {ys : List Nat} (h : MB w lo oa ys) (k : Kept p w w') (hp : ∀ b, lo ≤ b → IsB w b → ¬ p b) : MB w' lo oa ys := by
  rcases h with rfl | ⟨G, n, rfl, hG, hB⟩
  · exact Or.inl rfl
  · exact Or.inr ⟨G, n, rfl, hG, hB.kept k (hp G hG hB.isB)⟩
theorem MB.growO {w w' : World} {lo : Nat} {oa : Option Addr} {ys : List Nat} (h : MB w lo oa ys) (hb : Below w.heap.size w w') : MB w' lo oa ys := h.keptO (Kept.of_below hb (fun _ => False)) (fun _ _ _ e => e)
theorem zrow_made (w : World) (M : Array Value) (hM : M = madeCells #[Value.int .u8 0] 64) : ZRow (w.alloc (.cells M 5)) w.heap.size 64 [] := by
  subst hM
  have h1 := rowIs_made_any w #[Value.int .u8 0] 64 5
  have e : (fun i => (#[Value.int .u8 0])[i % (#[Value.int .u8 0]).size]!) = (fun i : Nat => Value.int .u8 ((([] : List Nat)[i]! : Nat) : Int)) := by
    funext i
    have : i % (#[Value.int .u8 0]).size = 0 := by simp [Nat.mod_one]
    rw [this, getElem!_neg ([] : List Nat) i (by simp)]
    rfl
  rw [e] at h1
  exact ⟨by simp, h1⟩
theorem SO.kept {p : Nat → Prop} {base : Nat} {w w' : World} {oa : Option Addr} {oc : Nat} {lo : List LO} (h : SO base w oa oc lo) (K : Kept p w w') (hp : ∀ z, p z → base ≤ z → ¬ IsO w z ∧ ¬ IsB w z) : SO base w' oa oc lo :=
  ⟨K.owns h.own (fun z hz e => let r := owns_isO h.own hz; (hp z e r.2).1 r.1), fun y hy => (h.byt y hy).keptO K (fun z hz hB e => (hp z e hz).2 hB), h.far⟩
theorem SO.grow {base : Nat} {w w' : World} {oa : Option Addr} {oc : Nat} {lo : List LO} (h : SO base w oa oc lo) (hb : Below w.heap.size w w') : SO base w' oa oc lo := h.kept (Kept.of_below hb (fun _ => False)) (fun _ e => e.elim)
theorem SO.own_at {base : Nat} {w : World} {oa : Option Addr} {oc n : Nat} {lo : List LO} (h : SO base w oa oc lo) (hn : lo.length = n) : w.ownsRow base 199 3 (.slice oa n oc) n (oCells lo) := by subst hn; exact h.own
theorem SO.nil (base : Nat) (w : World) : SO base w none 0 [] := ⟨owns_none _ _ _ _, fun y hy => (by cases hy), List.Pairwise.nil⟩
theorem SO.le {base base' : Nat} {w : World} {oa : Option Addr} {oc : Nat} {lo : List LO} (h : SO base w oa oc lo) (hb : base' ≤ base) : SO base' w oa oc lo := ⟨owns_le h.own hb, fun y hy => (h.byt y hy).leO hb, h.far⟩
/-- some more ops -/
theorem SO.more {base : Nat} {w w5 : World} {oa : Option Addr} {oc : Nat} {lo ys : List LO} (h : SO base w oa oc lo) (hy : ∀ y, y ∈ ys → MB w base y.a y.x.bytes) (hfar : (lo ++ ys).Pairwise fun y z => y.x.bytes ≠ [] → z.x.bytes ≠ [] → Apart y.a z.a) {gg cc : Nat}
    (hown : w5.ownsRow base 199 3 (.slice (some ⟨gg, 0, none⟩) (lo.length + ys.length) cc) (lo.length + ys.length) (oCells lo ++ oCells ys)) (hgrow : w.grownBy w5 (Value.slice oa lo.length oc).ownBlock) : SO base w5 (some ⟨gg, 0, none⟩) cc (lo ++ ys) := by
  have K := Kept.of_grown hgrow
  refine ⟨by rw [oCells_app, List.length_append]; exact hown, fun x hx => ?_, hfar⟩
  have hb : ∀ {x : LO}, MB w base x.a x.x.bytes → MB w5 base x.a x.x.bytes := fun hx => hx.keptO K (fun z _ hB e => not_B_of_O (owns_isO h.own e).1 hB)
  rcases List.mem_append.1 hx with e | e
  · exact hb (h.byt x e)
  · exact hb (hy x e)
/-- one more, whose bytes lie in memory that is newer than the others' -/
theorem SO.far1 {base : Nat} {w : World} {oa : Option Addr} {oc : Nat} {lo : List LO} (h : SO base w oa oc lo) {y : LO} (hy : ∀ b, y.x.bytes ≠ [] → y.a = some ⟨b, 0, none⟩ → w.heap.size ≤ b) : (lo ++ [y]).Pairwise fun y z => y.x.bytes ≠ [] → z.x.bytes ≠ [] → Apart y.a z.a := by
  refine List.pairwise_append.2 ⟨h.far, List.pairwise_singleton _ _, fun x hx z hz n1 n2 b e1 e2 => ?_⟩
  obtain rfl : z = y := by simpa using hz
  have := hy b n2 e2
  rcases h.byt x hx with e | ⟨G, n, h1, _, h2⟩
  · exact n1 e
  · rw [e1] at h1
    obtain rfl := some_addr h1
    have := h2.lt
    omega
theorem SO.mo {base : Nat} {w : World} {oa : Option Addr} {oc : Nat} {lo : List LO} (h : SO base w oa oc lo) : MOs w base w.heap.size oa lo.length (fun i => (lo.map LO.x)[i]!.sync) (fun i => (lo.map LO.x)[i]!.block) (fun i => (lo.map LO.x)[i]!.bytes) (fun i => lo[i]!.a) (fun i => lo[i]!.cap) := by
  have ex : ∀ i, i < lo.length → (lo.map LO.x)[i]! = lo[i]!.x := fun i hi => by rw [getElem!_pos _ i (by simpa using hi), getElem!_pos lo i hi]; simp
  refine ⟨fun h0 => ?_, fun i hi => ?_, fun i j hij hj n1 n2 => ?_⟩
  · obtain ⟨g, f, h1, h2, h3, h4, h5, h6⟩ := owns_row h.own h0
    refine ⟨g, oc * 3, f, h1, h2, h3, h4, Nat.mul_le_mul_right 3 h5, fun i hi => ?_⟩
    rw [ex i hi]
    exact ⟨h6 _ _ ((oCells_get lo i 0 hi (by omega)).trans rfl), h6 _ _ ((oCells_get lo i 1 hi (by omega)).trans rfl), h6 _ _ ((oCells_get lo i 2 hi (by omega)).trans rfl)⟩
  · show BB w base w.heap.size lo[i]!.a (lo.map LO.x)[i]!.bytes
    rw [ex i hi]
    rcases h.byt _ (mem_at hi) with e | ⟨G, n, h1, h2, h3⟩
    · exact Or.inl e
    · exact Or.inr ⟨G, n, h1, h2, h3.lt, h3⟩
  · have hi : i < lo.length := by omega
    show Apart lo[i]!.a lo[j]!.a
    have m1 : lo[i]!.x.bytes ≠ [] := by rw [← ex i hi]; exact n1
    have m2 : lo[j]!.x.bytes ≠ [] := by rw [← ex j hj]; exact n2
    have := List.pairwise_iff_getElem.1 h.far i j hi hj hij
    rw [getElem!_pos lo i hi] at m1 ⊢
    rw [getElem!_pos lo j hj] at m2 ⊢
    exact this m1 m2
theorem SO.at_ {base : Nat} {w : World} {oa : Option Addr} {oc : Nat} {lo : List LO} (h : SO base w oa oc lo) : OpsAt w oa (lo.map LO.x) := by
  have := h.mo
  rw [← List.length_map (f := LO.x)] at this
  exact this.at_

/-- what ops' answers are -/
def OAns (ops : List OP) (w : World) (e : Ending) (w' : World) : Prop := ∃ oa oc lo, e = .returned (.slice oa ops.length oc) ∧ lo.map LO.x = ops ∧ SO w.heap.size w' oa oc lo ∧ Below w.heap.size w w'
theorem OAns.no {w w' : World} (h : Below w.heap.size w w') : OAns [] w (.returned (.slice none 0 0)) w' := ⟨none, 0, [], rfl, rfl, SO.nil _ _, h⟩

structure KK.Rng (k : KK) : Prop where
  g : 0 ≤ k.gen ∧ k.gen ≤ 1000000000000
  s : k.ok = true → k.slot = 0 ∨ k.slot = 1
theorem newest_rng {d : DD} (h : d.Fit) : d.newestOf.Rng := by
  have fine : ∀ (m : Nat) {k : KK}, m < 2 → k.Fine m → k.Rng := fun m k hm hk => by
    refine ⟨?_, fun e => by have := hk.slot e; omega⟩
    cases e : k.ok with
    | false => rw [hk.no e]; simp [noK]
    | true => have := hk.gen e; omega
  unfold DD.newestOf
  split
  · exact fine 1 (by decide) (DD.slot_fine h (by decide))
  · exact fine 0 (by decide) (DD.slot_fine h (by decide))
theorem cut_get {im : List Nat} {j t : Nat} (h : t < (cutOf im j).length) : 64 * j + t < im.length ∧ t < 64 ∧ (cutOf im j)[t]! = im[64 * j + t]! := by
  have h1 : t < 64 ∧ t < im.length - 64 * j := by simp [cutOf] at h; omega
  refine ⟨by omega, h1.1, ?_⟩
  rw [getElem!_pos _ t h, getElem!_pos im _ (by omega)]
  simp [cutOf]
theorem cut_len (im : List Nat) (j : Nat) : (cutOf im j).length = min 64 (im.length - 64 * j) := by simp [cutOf]
theorem wrapV {F : Nat} (h : F ≤ 200) : Value.int .i64 (wrap64 (F : Int)) = .int .i64 (F : Int) := by
  have e : wrap64 (F : Int) = (F : Int) := by unfold wrap64; omega
  rw [e]
theorem wrapI {F : Nat} (h : F ≤ 200) : Value.int .i64 (IntKind.i64.wrap (F : Int)) = .int .i64 (F : Int) := by
  have e : IntKind.i64.wrap (F : Int) = (F : Int) := by rw [IntKind.wrap_i64]; omega
  rw [e]
theorem nBlk_le {im : List Nat} (h : im.length ≤ 4096) : nBlk im ≤ 64 := by unfold nBlk; omega
theorem first_le {s j : Nat} (hs : s < 2) (hj : j ≤ 64) : firstOf s + j ≤ 200 := by unfold firstOf; omega
theorem nBlk_lt {im : List Nat} {j : Nat} : j < nBlk im ↔ 64 * j < im.length := by unfold nBlk; omega

end Go.Proofs.Ythjddpkegooobaa
