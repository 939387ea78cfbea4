import Derived.Deep.AppendLies
import Derived.Test.YthjddpkegooobabPartJ

/-
  SHEAD: the specification's HeadOf. Own work.
-/
namespace Go.Proofs.Ythjddpkegooobab
open Go.RowKit

/-- what a block reads as -/
def DD.rd (d : DD) (m : Nat) : List Nat := readN d.blocks d.waiting (m : Int) d.waiting.length
theorem DD.rd_len {d : DD} (h : d.Fit) {m : Nat} (hm : m < 130) : (d.rd m).length = 64 :=
  readN_mem (p := fun x => x.length = 64) h.bb (fun x hx => (h.wb x hx).2.2) (by rw [h.bl]; simpa using hm) _ (Nat.le_refl _)
theorem DD.rd_byte {d : DD} (h : d.Fit) (ho : d.Ok) {m : Nat} (hm : m < 130) : ∀ x, x ∈ d.rd m → x < 256 :=
  readN_mem (p := fun b => ∀ x, x ∈ b → x < 256) (fun b hb => (ho.bb b hb).byte) (fun x hx => (ho.wb x hx).byte) (by rw [h.bl]; simpa using hm) _ (Nat.le_refl _)

theorem sLow_some : ∀ (k i n : Nat) (r : List Nat), k ≤ r.length → ∃ x, sLow k i n r = some (x, r.drop k)
  | 0, _, n, r, _ => ⟨n, rfl⟩
  | k + 1, i, n, x :: r, h => by
    obtain ⟨y, hy⟩ := sLow_some k (i + 1) (orU n x (8 * i)) r (by simpa using h)
    exact ⟨y, hy⟩

/-- three words, one behind the other -/
theorem head_three {bs : List Nat} {g l s : Nat} {r1 r2 r3 : List Nat} (h1 : sLow 8 0 0 (bs.drop 4) = some (g, r1)) (h2 : sLow 8 0 0 r1 = some (l, r2)) (h3 : sLow 8 0 0 r2 = some (s, r3)) {x : HH} (hx : x.Is bs) : (g : Int) = x.gen ∧ (l : Int) = x.len ∧ wrap64 (s : Int) = x.sum := by
  have hr := rng_i64 hx.rng
  have e0 : ∀ n : Int, (n : Int) = n := fun _ => rfl
  have hb : ∀ (n : Int) (r : List Nat), sLow 8 0 0 (lowB 8 (u64n n) ++ r) = some (u64n n, r) := fun n r => by
    have h := sLow_back 8 0 0 (u64n n) r (by omega) (by simp)
    rw [h]
    have e1 : u64n n % 2 ^ (8 * 8) = u64n n := Nat.mod_eq_of_lt (u64n_lt n)
    rw [e1]; simp
  rw [hx.eq, headB_drop, hb] at h1
  injection h1 with h1
  injection h1 with e1 e1'
  rw [← e1', hb] at h2
  injection h2 with h2
  injection h2 with e2 e2'
  rw [← e2', hb] at h3
  injection h3 with h3
  injection h3 with e3 e3'
  have hs := hx.sum
  unfold I64 at hs
  refine ⟨?_, ?_, ?_⟩
  · rw [← e1]; unfold u64n; omega
  · rw [← e2]; unfold u64n; omega
  · rw [← e3]; unfold u64n wrap64; omega

theorem SR.new {w : World} {oa : Option Addr} {bs : List Nat} {c : Nat} (ha : BytesAt w oa bs) (hc : bs.length ≤ c) (hl : bs.length ≤ 4096) (hb : ∀ x, x ∈ bs → x < 256) (k : Nat) (hk : k ≤ bs.length + 2) (z : Int) (hz : z = (k : Int)) : SR (w.alloc (.cells #[.slice oa bs.length c, .int .i64 z, .bool false] 111)) w.heap.size oa c bs k false := by
  subst hz
  have hA := gal (gre w) (.cells #[.slice oa bs.length c, .int .i64 (k : Int), .bool false] 111)
  exact ⟨by simp, by simp, by simp, by simp, fun o => by simp, ha.low.below hA, hc, hl, hb, hk⟩

theorem owns_capH {w : World} {base n cap : Nat} {a : Option Addr} {t : TypeId} {k : Nat} {xs : List Value} (h : w.ownsRow base t k (.slice a n cap) n xs) : n ≤ cap := by
  rcases h.2 with ⟨_, h2⟩ | ⟨g, c, cur, h1, _, _, h4, _⟩
  · omega
  · injection h1 with _ _ e
    omega
/-- a head's own variable, that may be written -/
structure HV (w : World) (R : Nat) (h : HH) : Prop where
  box : HBox w R h.ok h.gen h.len h.sum
  f : ∀ o, w.frozen? ⟨R, o, none⟩ = false
theorem HV.kept {p : Nat → Prop} {w w' : World} {b : Nat} {h : HH} (hv : HV w b h) (k : Kept p w w') (hn : ¬ p b) : HV w' b h :=
  ⟨hv.box.kept k hn, fun o => (World.frozen?_of_block (w := w) (a := ⟨b, o, none⟩) (k.block b hv.box.lt hn)).trans (hv.f o)⟩
theorem HV.grow {w w' : World} {b : Nat} {h : HH} (hv : HV w b h) (k : Below w.heap.size w w') : HV w' b h := hv.kept (Kept.of_below k (fun _ => False)) (fun e => e)
theorem HV.new_at (w : World) (h : HH) (t : TypeId) (R : Nat) (hR : R = w.heap.size) : HV (w.alloc (.cells #[.bool h.ok, .int .i64 h.gen, .int .i64 h.len, .int .i64 h.sum] t)) R h := by
  subst hR
  exact ⟨HBox.new w _ _ _ _ _, fun o => by simp⟩
theorem ret4 {w : World} {R : Nat} {h : HH} (hv : HV w R h) (A B C D : Value) :
    (w.setCell ⟨R, 0, none⟩ A).cell? ⟨R, 0, none⟩ = some A ∧ ((w.setCell ⟨R, 0, none⟩ A).setCell ⟨R, 1, none⟩ B).cell? ⟨R, 1, none⟩ = some B ∧ (((w.setCell ⟨R, 0, none⟩ A).setCell ⟨R, 1, none⟩ B).setCell ⟨R, 2, none⟩ C).cell? ⟨R, 2, none⟩ = some C ∧ ((((w.setCell ⟨R, 0, none⟩ A).setCell ⟨R, 1, none⟩ B).setCell ⟨R, 2, none⟩ C).setCell ⟨R, 3, none⟩ D).cell? ⟨R, 3, none⟩ = some D ∧
      Kept (fun b => b = R) w ((((w.setCell ⟨R, 0, none⟩ A).setCell ⟨R, 1, none⟩ B).setCell ⟨R, 2, none⟩ C).setCell ⟨R, 3, none⟩ D) := by
  refine ⟨World.cell?_setCell_same _ _ _ hv.box.c0, World.cell?_setCell_same _ _ _ ((World.cell?_setCell_other _ _ _ _ (by simp)).trans hv.box.c1), World.cell?_setCell_same _ _ _ (((World.cell?_setCell_other _ _ _ _ (by simp)).trans (World.cell?_setCell_other _ _ _ _ (by simp))).trans hv.box.c2), World.cell?_setCell_same _ _ _ ((((World.cell?_setCell_other _ _ _ _ (by simp)).trans (World.cell?_setCell_other _ _ _ _ (by simp))).trans (World.cell?_setCell_other _ _ _ _ (by simp))).trans hv.box.c3), ?_⟩
  exact ((((Kept.refl (fun b => b = R) w).set (a := ⟨R, 0, none⟩) (fun _ => rfl) A).set (a := ⟨R, 1, none⟩) (fun _ => rfl) B).set (a := ⟨R, 2, none⟩) (fun _ => rfl) C).set (a := ⟨R, 3, none⟩) (fun _ => rfl) D

theorem sEight_known (b : Nat) (sa : Option Addr) (cap : Nat) (bs : List Nat) (at_ : Nat) (x : Nat) (r : List Nat) (w : World) (hR : SR w b sa cap bs at_ false) (hx : Hid (sLow 8 0 0 (bs.drop at_) = some (x, r))) :
    Calls Try.prog 144 #[.pointer (some ⟨b, 0, none⟩)] w fun e w' => e = .returned (.int .u64 (x : Int)) ∧ (∃ at', SR w' b sa cap bs at' false ∧ Hid (bs.drop at' = r)) ∧ Kept (fun k => k = b) w w' :=
  (sEight_any b sa cap bs at_ false w hR).mono fun e w' ⟨hK, y, at', bad', he, _, hS, _, hr⟩ => by
    rcases hr.out.2 rfl with ⟨rfl, e1⟩ | ⟨_, e1⟩
    · rw [hx.out] at e1
      injection e1 with e1
      injection e1 with e2 e3
      subst e2
      exact ⟨he, ⟨at', hS, e3.symm⟩, hK⟩
    · rw [hx.out] at e1
      cases e1

/-- what heads' bytes read as, at once -/
structure HRead (bs : List Nat) (g l s : Nat) (r1 r2 r3 : List Nat) : Prop where
  e1 : sLow 8 0 0 (bs.drop 4) = some (g, r1)
  e2 : sLow 8 0 0 r1 = some (l, r2)
  e3 : sLow 8 0 0 r2 = some (s, r3)
theorem hread {bs : List Nat} (h : bs.length = 64) : ∃ g l s r1 r2 r3, HRead bs g l s r1 r2 r3 := by
  obtain ⟨g, hg⟩ := sLow_some 8 0 0 (bs.drop 4) (by rw [List.length_drop]; omega)
  obtain ⟨l, hl⟩ := sLow_some 8 0 0 ((bs.drop 4).drop 8) (by rw [List.length_drop, List.length_drop]; omega)
  obtain ⟨s, hs⟩ := sLow_some 8 0 0 (((bs.drop 4).drop 8).drop 8) (by rw [List.length_drop, List.length_drop, List.length_drop]; omega)
  exact ⟨g, l, s, _, _, _, hg, hl, hs⟩

set_option maxHeartbeats 2000000 in
set_option maxRecDepth 100000 in
theorem l4head_any (d : DD) (l : DL) (m : Nat) (w : World) (hf : d.Fit) (ho : d.Ok) (ha : DAt w l d) (hm : m < 130) :
    Calls Try.prog 114 #[d.val l, .int .i64 (m : Int)] w fun e w' => e = .returned (headOf (d.rd m)).val ∧ Below w.heap.size w w' := by
  obtain ⟨bs, hbs⟩ := hid_ex (d.rd m)
  have hbl : Hid (bs.length = 64) := by show _ = _; rw [hbs.out]; exact DD.rd_len hf hm
  have hbb : ∀ x, x ∈ bs → x < 256 := by rw [hbs.out]; exact DD.rd_byte hf ho hm
  rw [← hbs.out]
  obtain ⟨G, L, S, r1, r2, r3, hE⟩ := hread hbl.out
  have E1 : Hid _ := hE.e1
  have E2 : Hid _ := hE.e2
  have E3 : Hid _ := hE.e3
  have hA := gal (gal (gre w) (.cells #[.slice l.ba d.blocks.length l.bc, .slice l.wa d.waiting.length l.wc] 50)) (.cells #[.bool false, .int .i64 0, .int .i64 0, .int .i64 0] 74)
  have hR0 := HV.new_at (w.alloc (.cells #[.slice l.ba d.blocks.length l.bc, .slice l.wa d.waiting.length l.wc] 50)) noH 74 (w.heap.size + 1) (by simp)
  have hno : ∀ P : Prop, (P → False) → ((1000000000000 : Int) < (G : Int) ∨ (4096 : Int) < (L : Int) ∨ headOkB true (G : Int) (L : Int) = false ∨ headB (G : Int) (L : Int) (wrap64 (S : Int)) ≠ bs) → headOf bs = noH := fun _ _ h => headOf_no fun x hx => by
    obtain ⟨e1, e2, e3⟩ := head_three hE.e1 hE.e2 hE.e3 hx
    have hr := rng_i64 hx.rng
    rcases h with h | h | h | h
    · omega
    · omega
    · rw [e1, e2, hx.rng] at h; cases h
    · rw [e1, e2, e3] at h; exact h hx.eq.symm
  go_enter Try.func114, Try.ntmps114
  by_cases t1 : (1000000000000 : Int) < (G : Int)
  · rw [hno False id (Or.inl t1)]
    go_upto_region 99 with (first
          | (go_at_call 109; refine (l3read_own d l m _ hf (ha.grow hA) hm).mono ?_; rw [show readN d.blocks d.waiting (m : Int) d.waiting.length = bs from hbs.out.symm]; rintro e w1 ⟨oa, c, rfl, hO, hb1⟩; have hlc : bs.length ≤ c := owns_capH hO; have hS0 := SR.new (owns_bytes hO) hlc (by have := hbl.out; omega) hbb 4 (by have := hbl.out; omega) 4 rfl; have hAt := owns_bytes hO; have hRl := (hR0.grow hb1).box.lt; have hb2 := gal hb1 (.cells #[.slice oa bs.length c, .int .i64 4, .bool false] 111))
          | (go_at_call 144; refine (sEight_known _ _ _ _ _ S r3 _ hS2 (by show _ = _; rw [d2.out]; exact E3.out)).mono ?_; rintro e w4 ⟨rfl, ⟨at3, hS3, d3⟩, hK3⟩; have hR4 := (((hR0.grow hb2).kept hK1 (by omega)).kept hK2 (by omega)).kept hK3 (by omega); obtain ⟨⟨_, z0, z1, z2, z3⟩, zf⟩ := id hR4; have hB2 := gca hA hb2; have hB3 := hB2.trans (hK1.below (B := w.heap.size) hB2.size (fun k hk e => by omega)); have hB4 := hB3.trans (hK2.below (B := w.heap.size) hB3.size (fun k hk e => by omega)); have hB5 := hB4.trans (hK3.below (B := w.heap.size) hB4.size (fun k hk e => by omega)); have hK := (hK1.trans hK2 (fun _ _ h => h)).trans hK3 (fun _ _ h => h))
          | (go_at_call 144; refine (sEight_known _ _ _ _ _ L r2 _ hS1 (by show _ = _; rw [d1.out]; exact E2.out)).mono ?_; rintro e w3 ⟨rfl, ⟨at2, hS2, d2⟩, hK2⟩)
          | (go_at_call 144; refine (sEight_known _ _ _ _ _ G r1 _ hS0 E1).mono ?_; rintro e w2 ⟨rfl, ⟨at1, hS1, d1⟩, hK1⟩))
    obtain ⟨c0, c1, c2, c3, K⟩ := ret4 hR4 (.bool false) (.int .i64 0) (.int .i64 0) (.int .i64 0)
    exact bodyPost_ret (v := noH.val) (by simp [results, Try.results114, go_sem, c0, c1, c2, c3]) rfl ⟨rfl, hB5.trans (K.below (B := w.heap.size) hB5.size (fun k hk e => by omega))⟩
  · by_cases t2 : (4096 : Int) < (L : Int)
    · rw [hno False id (Or.inr (Or.inl t2))]
      go_upto_region 99 with (first
            | (go_at_call 109; refine (l3read_own d l m _ hf (ha.grow hA) hm).mono ?_; rw [show readN d.blocks d.waiting (m : Int) d.waiting.length = bs from hbs.out.symm]; rintro e w1 ⟨oa, c, rfl, hO, hb1⟩; have hlc : bs.length ≤ c := owns_capH hO; have hS0 := SR.new (owns_bytes hO) hlc (by have := hbl.out; omega) hbb 4 (by have := hbl.out; omega) 4 rfl; have hAt := owns_bytes hO; have hRl := (hR0.grow hb1).box.lt; have hb2 := gal hb1 (.cells #[.slice oa bs.length c, .int .i64 4, .bool false] 111))
            | (go_at_call 144; refine (sEight_known _ _ _ _ _ S r3 _ hS2 (by show _ = _; rw [d2.out]; exact E3.out)).mono ?_; rintro e w4 ⟨rfl, ⟨at3, hS3, d3⟩, hK3⟩; have hR4 := (((hR0.grow hb2).kept hK1 (by omega)).kept hK2 (by omega)).kept hK3 (by omega); obtain ⟨⟨_, z0, z1, z2, z3⟩, zf⟩ := id hR4; have hB2 := gca hA hb2; have hB3 := hB2.trans (hK1.below (B := w.heap.size) hB2.size (fun k hk e => by omega)); have hB4 := hB3.trans (hK2.below (B := w.heap.size) hB3.size (fun k hk e => by omega)); have hB5 := hB4.trans (hK3.below (B := w.heap.size) hB4.size (fun k hk e => by omega)); have hK := (hK1.trans hK2 (fun _ _ h => h)).trans hK3 (fun _ _ h => h))
            | (go_at_call 144; refine (sEight_known _ _ _ _ _ L r2 _ hS1 (by show _ = _; rw [d1.out]; exact E2.out)).mono ?_; rintro e w3 ⟨rfl, ⟨at2, hS2, d2⟩, hK2⟩)
            | (go_at_call 144; refine (sEight_known _ _ _ _ _ G r1 _ hS0 E1).mono ?_; rintro e w2 ⟨rfl, ⟨at1, hS1, d1⟩, hK1⟩))
      obtain ⟨c0, c1, c2, c3, K⟩ := ret4 hR4 (.bool false) (.int .i64 0) (.int .i64 0) (.int .i64 0)
      exact bodyPost_ret (v := noH.val) (by simp [results, Try.results114, go_sem, c0, c1, c2, c3]) rfl ⟨rfl, hB5.trans (K.below (B := w.heap.size) hB5.size (fun k hk e => by omega))⟩
    · have hgw : wrap64 (G : Int) = (G : Int) := by unfold wrap64; omega
      have hlw : wrap64 (L : Int) = (L : Int) := by unfold wrap64; omega
      cases t3 : headOkB true (G : Int) (L : Int) with
      | false =>
        have t3' : Hid _ := t3
        rw [hno False id (Or.inr (Or.inr (Or.inl t3)))]
        clear t3
        go_upto_region 99 with (first
              | (go_at_call 116; refine (l4headok_any true (G : Int) (L : Int) (wrap64 (S : Int)) _).mono ?_; rintro e w6 ⟨rfl, hb6⟩; rw [t3'.out]; have hR6 := hR5.grow hb6; have hH6 := hHw.grow hb6; obtain ⟨⟨_, z0, z1, z2, z3⟩, zf⟩ := id hR6; obtain ⟨⟨_, y0, y1, y2, y3⟩, yf⟩ := id hH6)
              | (go_at_call 109; refine (l3read_own d l m _ hf (ha.grow hA) hm).mono ?_; rw [show readN d.blocks d.waiting (m : Int) d.waiting.length = bs from hbs.out.symm]; rintro e w1 ⟨oa, c, rfl, hO, hb1⟩; have hlc : bs.length ≤ c := owns_capH hO; have hS0 := SR.new (owns_bytes hO) hlc (by have := hbl.out; omega) hbb 4 (by have := hbl.out; omega) 4 rfl; have hAt := owns_bytes hO; have hRl := (hR0.grow hb1).box.lt; have hb2 := gal hb1 (.cells #[.slice oa bs.length c, .int .i64 4, .bool false] 111))
              | (go_at_call 144; refine (sEight_known _ _ _ _ _ S r3 _ hS2 (by show _ = _; rw [d2.out]; exact E3.out)).mono ?_; rintro e w4 ⟨rfl, ⟨at3, hS3, d3⟩, hK3⟩; have hR4 := (((hR0.grow hb2).kept hK1 (by omega)).kept hK2 (by omega)).kept hK3 (by omega); obtain ⟨⟨_, z0, z1, z2, z3⟩, zf⟩ := id hR4; have hB2 := gca hA hb2; have hB3 := hB2.trans (hK1.below (B := w.heap.size) hB2.size (fun k hk e => by omega)); have hB4 := hB3.trans (hK2.below (B := w.heap.size) hB3.size (fun k hk e => by omega)); have hB5 := hB4.trans (hK3.below (B := w.heap.size) hB4.size (fun k hk e => by omega)); have hK := (hK1.trans hK2 (fun _ _ h => h)).trans hK3 (fun _ _ h => h); have hHw := HV.new_at w4 ⟨true, (G : Int), (L : Int), wrap64 (S : Int)⟩ 74 w4.heap.size rfl; have hb5 := gal (gre w4) (.cells #[.bool true, .int .i64 (G : Int), .int .i64 (L : Int), .int .i64 (wrap64 (S : Int))] 74); have hR5 := hR4.grow hb5; have hAt5 : BytesAt _ oa bs := hS3.low.at_.grow hb5)
              | (go_at_call 144; refine (sEight_known _ _ _ _ _ L r2 _ hS1 (by show _ = _; rw [d1.out]; exact E2.out)).mono ?_; rintro e w3 ⟨rfl, ⟨at2, hS2, d2⟩, hK2⟩)
              | (go_at_call 144; refine (sEight_known _ _ _ _ _ G r1 _ hS0 E1).mono ?_; rintro e w2 ⟨rfl, ⟨at1, hS1, d1⟩, hK1⟩))
        obtain ⟨c0, c1, c2, c3, K⟩ := ret4 hR6 (.bool false) (.int .i64 0) (.int .i64 0) (.int .i64 0)
        exact bodyPost_ret (v := noH.val) (by simp [results, Try.results114, go_sem, c0, c1, c2, c3]) rfl ⟨rfl, (gca (gca hB5 hb5) hb6).trans (K.below (B := w.heap.size) (gca (gca hB5 hb5) hb6).size (fun k hk e => by omega))⟩
      | true =>
        have t3' : Hid _ := t3
        by_cases t4 : headB (G : Int) (L : Int) (wrap64 (S : Int)) = bs
        · have t4' : Hid (decide (headB (G : Int) (L : Int) (wrap64 (S : Int)) = bs) = true) := decide_eq_true t4
          rw [headOf_yes (x := ⟨true, (G : Int), (L : Int), wrap64 (S : Int)⟩) ⟨rfl, t3, by unfold I64 wrap64; simp only; omega, t4.symm⟩]
          clear t3 t4
          go_upto_region 99 with (first
                | (go_at_call 116; refine (l4headok_any true (G : Int) (L : Int) (wrap64 (S : Int)) _).mono ?_; rintro e w6 ⟨rfl, hb6⟩; rw [t3'.out]; have hR6 := hR5.grow hb6; have hH6 := hHw.grow hb6; obtain ⟨⟨_, z0, z1, z2, z3⟩, zf⟩ := id hR6; obtain ⟨⟨_, y0, y1, y2, y3⟩, yf⟩ := id hH6)
                | (go_at_call 117; refine (l4block_any true (G : Int) (L : Int) (wrap64 (S : Int)) _).mono ?_; rintro e w7 ⟨oa7, c7, rfl, hO7, hb7⟩)
                | (go_at_call 85; refine (l2equal_any oa7 oa (headB (G : Int) (L : Int) (wrap64 (S : Int))) bs c7 c _ (by rw [headB_length]; decide) (by rw [hbl.out]; decide) (owns_atH hO7) (hAt5.grow (gca hb6 hb7))).mono ?_; rintro e w8 ⟨rfl, hb8⟩; rw [t4'.out]; have hR8 := (hR6.grow hb7).grow hb8; have hH8 := (hH6.grow hb7).grow hb8; obtain ⟨⟨_, z0, z1, z2, z3⟩, zf⟩ := id hR8; obtain ⟨⟨_, y0, y1, y2, y3⟩, yf⟩ := id hH8)
                | (go_at_call 109; refine (l3read_own d l m _ hf (ha.grow hA) hm).mono ?_; rw [show readN d.blocks d.waiting (m : Int) d.waiting.length = bs from hbs.out.symm]; rintro e w1 ⟨oa, c, rfl, hO, hb1⟩; have hlc : bs.length ≤ c := owns_capH hO; have hS0 := SR.new (owns_bytes hO) hlc (by have := hbl.out; omega) hbb 4 (by have := hbl.out; omega) 4 rfl; have hAt := owns_bytes hO; have hRl := (hR0.grow hb1).box.lt; have hb2 := gal hb1 (.cells #[.slice oa bs.length c, .int .i64 4, .bool false] 111))
                | (go_at_call 144; refine (sEight_known _ _ _ _ _ S r3 _ hS2 (by show _ = _; rw [d2.out]; exact E3.out)).mono ?_; rintro e w4 ⟨rfl, ⟨at3, hS3, d3⟩, hK3⟩; have hR4 := (((hR0.grow hb2).kept hK1 (by omega)).kept hK2 (by omega)).kept hK3 (by omega); obtain ⟨⟨_, z0, z1, z2, z3⟩, zf⟩ := id hR4; have hB2 := gca hA hb2; have hB3 := hB2.trans (hK1.below (B := w.heap.size) hB2.size (fun k hk e => by omega)); have hB4 := hB3.trans (hK2.below (B := w.heap.size) hB3.size (fun k hk e => by omega)); have hB5 := hB4.trans (hK3.below (B := w.heap.size) hB4.size (fun k hk e => by omega)); have hK := (hK1.trans hK2 (fun _ _ h => h)).trans hK3 (fun _ _ h => h); have hHw := HV.new_at w4 ⟨true, (G : Int), (L : Int), wrap64 (S : Int)⟩ 74 w4.heap.size rfl; have hb5 := gal (gre w4) (.cells #[.bool true, .int .i64 (G : Int), .int .i64 (L : Int), .int .i64 (wrap64 (S : Int))] 74); have hR5 := hR4.grow hb5; have hAt5 : BytesAt _ oa bs := hS3.low.at_.grow hb5)
                | (go_at_call 144; refine (sEight_known _ _ _ _ _ L r2 _ hS1 (by show _ = _; rw [d1.out]; exact E2.out)).mono ?_; rintro e w3 ⟨rfl, ⟨at2, hS2, d2⟩, hK2⟩)
                | (go_at_call 144; refine (sEight_known _ _ _ _ _ G r1 _ hS0 E1).mono ?_; rintro e w2 ⟨rfl, ⟨at1, hS1, d1⟩, hK1⟩))
          obtain ⟨c0, c1, c2, c3, K⟩ := ret4 hR8 (.bool true) (.int .i64 (G : Int)) (.int .i64 (L : Int)) (.int .i64 (wrap64 (S : Int)))
          have hB8 := gca (gca (gca (gca hB5 hb5) hb6) hb7) hb8
          exact bodyPost_ret (v := headV true (G : Int) (L : Int) (wrap64 (S : Int))) (by simp [results, Try.results114, go_sem, c0, c1, c2, c3]) rfl ⟨rfl, hB8.trans (K.below (B := w.heap.size) hB8.size (fun k hk e => by omega))⟩
        · have t4' : Hid (decide (headB (G : Int) (L : Int) (wrap64 (S : Int)) = bs) = false) := decide_eq_false t4
          rw [hno False id (Or.inr (Or.inr (Or.inr t4)))]
          clear t3 t4
          go_upto_region 99 with (first
                | (go_at_call 116; refine (l4headok_any true (G : Int) (L : Int) (wrap64 (S : Int)) _).mono ?_; rintro e w6 ⟨rfl, hb6⟩; rw [t3'.out]; have hR6 := hR5.grow hb6; have hH6 := hHw.grow hb6; obtain ⟨⟨_, z0, z1, z2, z3⟩, zf⟩ := id hR6; obtain ⟨⟨_, y0, y1, y2, y3⟩, yf⟩ := id hH6)
                | (go_at_call 117; refine (l4block_any true (G : Int) (L : Int) (wrap64 (S : Int)) _).mono ?_; rintro e w7 ⟨oa7, c7, rfl, hO7, hb7⟩)
                | (go_at_call 85; refine (l2equal_any oa7 oa (headB (G : Int) (L : Int) (wrap64 (S : Int))) bs c7 c _ (by rw [headB_length]; decide) (by rw [hbl.out]; decide) (owns_atH hO7) (hAt5.grow (gca hb6 hb7))).mono ?_; rintro e w8 ⟨rfl, hb8⟩; rw [t4'.out]; have hR8 := (hR6.grow hb7).grow hb8; have hH8 := (hH6.grow hb7).grow hb8; obtain ⟨⟨_, z0, z1, z2, z3⟩, zf⟩ := id hR8; obtain ⟨⟨_, y0, y1, y2, y3⟩, yf⟩ := id hH8)
                | (go_at_call 109; refine (l3read_own d l m _ hf (ha.grow hA) hm).mono ?_; rw [show readN d.blocks d.waiting (m : Int) d.waiting.length = bs from hbs.out.symm]; rintro e w1 ⟨oa, c, rfl, hO, hb1⟩; have hlc : bs.length ≤ c := owns_capH hO; have hS0 := SR.new (owns_bytes hO) hlc (by have := hbl.out; omega) hbb 4 (by have := hbl.out; omega) 4 rfl; have hAt := owns_bytes hO; have hRl := (hR0.grow hb1).box.lt; have hb2 := gal hb1 (.cells #[.slice oa bs.length c, .int .i64 4, .bool false] 111))
                | (go_at_call 144; refine (sEight_known _ _ _ _ _ S r3 _ hS2 (by show _ = _; rw [d2.out]; exact E3.out)).mono ?_; rintro e w4 ⟨rfl, ⟨at3, hS3, d3⟩, hK3⟩; have hR4 := (((hR0.grow hb2).kept hK1 (by omega)).kept hK2 (by omega)).kept hK3 (by omega); obtain ⟨⟨_, z0, z1, z2, z3⟩, zf⟩ := id hR4; have hB2 := gca hA hb2; have hB3 := hB2.trans (hK1.below (B := w.heap.size) hB2.size (fun k hk e => by omega)); have hB4 := hB3.trans (hK2.below (B := w.heap.size) hB3.size (fun k hk e => by omega)); have hB5 := hB4.trans (hK3.below (B := w.heap.size) hB4.size (fun k hk e => by omega)); have hK := (hK1.trans hK2 (fun _ _ h => h)).trans hK3 (fun _ _ h => h); have hHw := HV.new_at w4 ⟨true, (G : Int), (L : Int), wrap64 (S : Int)⟩ 74 w4.heap.size rfl; have hb5 := gal (gre w4) (.cells #[.bool true, .int .i64 (G : Int), .int .i64 (L : Int), .int .i64 (wrap64 (S : Int))] 74); have hR5 := hR4.grow hb5; have hAt5 : BytesAt _ oa bs := hS3.low.at_.grow hb5)
                | (go_at_call 144; refine (sEight_known _ _ _ _ _ L r2 _ hS1 (by show _ = _; rw [d1.out]; exact E2.out)).mono ?_; rintro e w3 ⟨rfl, ⟨at2, hS2, d2⟩, hK2⟩)
                | (go_at_call 144; refine (sEight_known _ _ _ _ _ G r1 _ hS0 E1).mono ?_; rintro e w2 ⟨rfl, ⟨at1, hS1, d1⟩, hK1⟩))
          obtain ⟨c0, c1, c2, c3, K⟩ := ret4 hR8 (.bool false) (.int .i64 0) (.int .i64 0) (.int .i64 0)
          exact bodyPost_ret (v := noH.val) (by simp [results, Try.results114, go_sem, c0, c1, c2, c3]) rfl ⟨rfl, (gca (gca (gca (gca hB5 hb5) hb6) hb7) hb8).trans (K.below (B := w.heap.size) (gca (gca (gca (gca hB5 hb5) hb6) hb7) hb8).size (fun k hk e => by omega))⟩

end Go.Proofs.Ythjddpkegooobab

/-
  NPLAIN: slots, what is newest, what is done to lay an image down, plain. Own work.
-/
namespace Go.Proofs.Ythjddpkegooobab
open Go.RowKit

/-- the first j blocks from a block on, one behind the other -/
def DD.cat (d : DD) (f : Nat) : Nat → List Nat
  | 0 => []
  | j + 1 => d.cat f j ++ d.rd (f + j)
theorem DD.cat_len {d : DD} (h : d.Fit) {f : Nat} : ∀ {j : Nat}, f + j ≤ 130 → (d.cat f j).length = 64 * j
  | 0, _ => rfl
  | j + 1, hj => by
    have h1 := DD.cat_len h (f := f) (j := j) (by omega)
    have h2 := DD.rd_len h (m := f + j) (by omega)
    simp only [DD.cat, List.length_append, h1, h2]
    omega
theorem DD.cat_byte {d : DD} (h : d.Fit) (ho : d.Ok) {f : Nat} : ∀ {j : Nat}, f + j ≤ 130 → ∀ x, x ∈ d.cat f j → x < 256
  | 0, _ => fun x hx => by cases hx
  | j + 1, hj => fun x hx => by
    rcases List.mem_append.1 hx with e | e
    · exact DD.cat_byte h ho (j := j) (by omega) x e
    · exact DD.rd_byte h ho (m := f + j) (by omega) x e
theorem DD.cat_take {d : DD} (h : d.Fit) {f : Nat} {j k n : Nat} (hjk : j ≤ k) (hk : f + k ≤ 130) (hn : n ≤ 64 * j) : (d.cat f k).take n = (d.cat f j).take n := by
  induction k with
  | zero => obtain rfl : j = 0 := by omega
            rfl
  | succ k ih =>
    by_cases e : j = k + 1
    · subst e; rfl
    · rw [DD.cat, List.take_append_of_le_length (by rw [DD.cat_len h (by omega)]; omega)]
      exact ih (by omega) (by omega)

/-- the first block of a slot's image -/
def firstOf (slot : Nat) : Nat := 2 + slot * 64
/-- the first n bytes of a slot's image -/
def DD.img (d : DD) (slot n : Nat) : List Nat := (d.cat (firstOf slot) 64).take n
theorem DD.img_len {d : DD} (h : d.Fit) {slot n : Nat} (hs : slot < 2) (hn : n ≤ 4096) : (d.img slot n).length = n := by
  unfold DD.img firstOf
  rw [List.length_take, DD.cat_len h (by omega)]
  omega
theorem DD.img_byte {d : DD} (h : d.Fit) (ho : d.Ok) {slot n : Nat} (hs : slot < 2) : ∀ x, x ∈ d.img slot n → x < 256 := fun x hx =>
  DD.cat_byte h ho (by unfold firstOf; omega) x (List.mem_of_mem_take hx)
theorem DD.img_part {d : DD} (h : d.Fit) {slot n j : Nat} (hs : slot < 2) (hj : j ≤ 64) (hn : n ≤ 64 * j) : (d.cat (firstOf slot) j).take n = d.img slot n :=
  (DD.cat_take h hj (by unfold firstOf; omega) hn).symm

structure KK where
  ok : Bool
  gen : Int
  slot : Int
  bytes : List Nat
def noK : KK := ⟨false, 0, 0, []⟩
abbrev KK.val (k : KK) (a : Option Addr) (c : Nat) : Value := .agg #[.bool k.ok, .int .i64 k.gen, .int .i64 k.slot, .slice a k.bytes.length c]

def DD.slotOf (d : DD) (slot : Nat) : KK :=
  if (headOf (d.rd slot)).ok = true ∧ wrap64 (sumN (d.img slot (headOf (d.rd slot)).len.toNat) : Int) = (headOf (d.rd slot)).sum then ⟨true, (headOf (d.rd slot)).gen, (slot : Int), d.img slot (headOf (d.rd slot)).len.toNat⟩ else noK
def DD.newestOf (d : DD) : KK := if (d.slotOf 1).ok = true ∧ ((d.slotOf 0).ok = false ∨ (d.slotOf 0).gen < (d.slotOf 1).gen) then d.slotOf 1 else d.slotOf 0
def DD.newest (d : DD) : KK := if d.ok = true then d.newestOf else noK

/-- what a slot's answer is -/
structure KK.Fine (k : KK) (slot : Nat) : Prop where
  no : k.ok = false → k = noK
  gen : k.ok = true → 1 ≤ k.gen ∧ k.gen ≤ 1000000000000
  slot : k.ok = true → k.slot = (slot : Int)
  len : k.bytes.length ≤ 4096
theorem DD.slot_fine {d : DD} (h : d.Fit) {slot : Nat} (hs : slot < 2) : (d.slotOf slot).Fine slot := by
  unfold DD.slotOf
  rcases headOf_cases (d.rd slot) with hh | hh
  · have hr := rng_i64 hh.rng
    split
    · exact ⟨fun e => (by cases e), fun _ => hr.1, fun _ => rfl, by rw [DD.img_len h hs (by omega)]; omega⟩
    · exact ⟨fun _ => rfl, fun e => (by cases e), fun e => (by cases e), Nat.zero_le _⟩
  · rw [if_neg (fun e => by rw [hh] at e; cases e.1)]
    exact ⟨fun _ => rfl, fun e => (by cases e), fun e => (by cases e), Nat.zero_le _⟩

/-- the program's way: the greater Gen, one slot behind the other -/
theorem newest_steps {a b : KK} (ha : a.Fine 0) (hb : b.Fine 1) : (if b.ok = true ∧ (a.ok = false ∨ a.gen < b.gen) then b else a) = (if (if noK.gen < a.gen then a else noK).gen < b.gen then b else (if noK.gen < a.gen then a else noK)) := by
  have e1 : (if noK.gen < a.gen then a else noK) = a := by
    cases hk : a.ok with
    | false => rw [ha.no hk]; simp [noK]
    | true => rw [if_pos (by have := ha.gen hk; simp [noK]; omega)]
  rw [e1]
  cases hk : b.ok with
  | false =>
    rw [hb.no hk]
    have : ¬ (a.gen < noK.gen) := by
      cases hka : a.ok with
      | false => rw [ha.no hka]; simp
      | true => have := ha.gen hka; simp [noK]; omega
    rw [if_neg (by simp [noK]), if_neg this]
  | true =>
    cases hka : a.ok with
    | false =>
      rw [if_pos ⟨rfl, Or.inl rfl⟩, ha.no hka, if_pos (by have := hb.gen hk; simp [noK]; omega)]
    | true =>
      by_cases hlt : a.gen < b.gen
      · rw [if_pos ⟨rfl, Or.inr hlt⟩, if_pos hlt]
      · rw [if_neg (fun e => by rcases e.2 with e | e; cases e; exact hlt e), if_neg hlt]

end Go.Proofs.Ythjddpkegooobab

/-
  REGIONV: the end of a region that draws its order. Own work.
-/
namespace Go.Proofs.Ythjddpkegooobab
open Go.RowKit

/-- none may come up any more -/
theorem anyU_done {P : Program} {ops : Array Oper} {Q : Exit → Act → World → Prop} {md : Region.Mode} {S : World → Prop} {lst : Nat} {fuel : Nat} {listed : Array Bool} {a : Act} {w : World} (hd : Region.ready md ops listed = []) (hQ : Q .normal a w) : anyU P md ops Q S lst fuel listed a w := by
  cases fuel with
  | zero => exact ⟨hd, hQ⟩
  | succ f => exact ⟨fun _ => hQ, fun i hi => by rw [hd] at hi; cases hi⟩

end Go.Proofs.Ythjddpkegooobab

/-
  SIMAGE: the specification's slots. Own work.
-/
namespace Go.Proofs.Ythjddpkegooobab
open Go.RowKit

/-- a struct of four cells, that may be written -/
structure V4 (w : World) (R : Nat) (a b c d : Value) : Prop where
  lt : R < w.heap.size
  c0 : w.cell? ⟨R, 0, none⟩ = some a
  c1 : w.cell? ⟨R, 1, none⟩ = some b
  c2 : w.cell? ⟨R, 2, none⟩ = some c
  c3 : w.cell? ⟨R, 3, none⟩ = some d
  f : ∀ o, w.frozen? ⟨R, o, none⟩ = false
theorem V4.kept {p : Nat → Prop} {w w' : World} {R : Nat} {a b c d : Value} (h : V4 w R a b c d) (k : Kept p w w') (hn : ¬ p R) : V4 w' R a b c d :=
  ⟨Nat.lt_of_lt_of_le h.lt k.size, k.cell h.c0 hn, k.cell h.c1 hn, k.cell h.c2 hn, k.cell h.c3 hn, fun o => (World.frozen?_of_block (w := w) (a := ⟨R, o, none⟩) (k.block R h.lt hn)).trans (h.f o)⟩
theorem V4.grow {w w' : World} {R : Nat} {a b c d : Value} (h : V4 w R a b c d) (k : Below w.heap.size w w') : V4 w' R a b c d := h.kept (Kept.of_below k (fun _ => False)) (fun e => e)
theorem V4.new_at (w : World) (a b c d : Value) (t : TypeId) (R : Nat) (hR : R = w.heap.size) : V4 (w.alloc (.cells #[a, b, c, d] t)) R a b c d := by
  subst hR
  exact ⟨by simp, by simp, by simp, by simp, by simp, fun o => by simp⟩
theorem retV4 {w : World} {R : Nat} {a b c d : Value} (hv : V4 w R a b c d) (A B C D : Value) :
    (w.setCell ⟨R, 0, none⟩ A).cell? ⟨R, 0, none⟩ = some A ∧ ((w.setCell ⟨R, 0, none⟩ A).setCell ⟨R, 1, none⟩ B).cell? ⟨R, 1, none⟩ = some B ∧ (((w.setCell ⟨R, 0, none⟩ A).setCell ⟨R, 1, none⟩ B).setCell ⟨R, 2, none⟩ C).cell? ⟨R, 2, none⟩ = some C ∧ ((((w.setCell ⟨R, 0, none⟩ A).setCell ⟨R, 1, none⟩ B).setCell ⟨R, 2, none⟩ C).setCell ⟨R, 3, none⟩ D).cell? ⟨R, 3, none⟩ = some D ∧
      Kept (fun b => b = R) w ((((w.setCell ⟨R, 0, none⟩ A).setCell ⟨R, 1, none⟩ B).setCell ⟨R, 2, none⟩ C).setCell ⟨R, 3, none⟩ D) := by
  refine ⟨World.cell?_setCell_same _ _ _ hv.c0, World.cell?_setCell_same _ _ _ ((World.cell?_setCell_other _ _ _ _ (by simp)).trans hv.c1), World.cell?_setCell_same _ _ _ (((World.cell?_setCell_other _ _ _ _ (by simp)).trans (World.cell?_setCell_other _ _ _ _ (by simp))).trans hv.c2), World.cell?_setCell_same _ _ _ ((((World.cell?_setCell_other _ _ _ _ (by simp)).trans (World.cell?_setCell_other _ _ _ _ (by simp))).trans (World.cell?_setCell_other _ _ _ _ (by simp))).trans hv.c3), ?_⟩
  exact ((((Kept.refl (fun b => b = R) w).set (a := ⟨R, 0, none⟩) (fun _ => rfl) A).set (a := ⟨R, 1, none⟩) (fun _ => rfl) B).set (a := ⟨R, 2, none⟩) (fun _ => rfl) C).set (a := ⟨R, 3, none⟩) (fun _ => rfl) D

theorem add_plainH (g off j : Nat) : Addr.add ⟨g, off, none⟩ j = ⟨g, off + j, none⟩ := by simp [Addr.add]
theorem bytes_news {w : World} {g off : Nat} {bs : List Nat} (h : BytesAt w (some ⟨g, off, none⟩) bs) : ∀ j u, (bcells bs)[j]? = some u → w.cell? (Addr.add ⟨g, off, none⟩ j) = some u := fun j u hu => by
  have hj : j < bs.length := by
    have := (List.getElem?_eq_some_iff.1 hu).1
    rwa [bcells_length] at this
  obtain ⟨b', off', e, hc⟩ := h j hj
  injection e with e
  injection e with e1 e2
  subst e1
  subst e2
  rw [bcells_get hj] at hu
  injection hu with hu
  rw [← hu, add_plainH]
  exact hc
theorem bcells_append (a b : List Nat) : bcells (a ++ b) = bcells a ++ bcells b := by simp [bcells]
theorem bytes_some {w : World} {oa : Option Addr} {bs : List Nat} (h : BytesAt w oa bs) (hl : 0 < bs.length) : ∃ g off, oa = some ⟨g, off, none⟩ ∧ g < w.heap.size := by
  obtain ⟨b, off, e, hc⟩ := h 0 hl
  exact ⟨b, off, e, World.block_lt_of_cell? _ _ hc⟩

theorem ownsRow_nilH (w : World) (base : Nat) (e : TypeId) : w.ownsRow base e 1 (.slice none 0 0) 0 (bcells []) := ⟨rfl, Or.inl ⟨rfl, rfl⟩⟩

/-- what is kept in a slot, as it is handed back -/
def KPost (k : KK) (w : World) (e : Ending) (w' : World) : Prop := ∃ oa c, e = .returned (k.val oa c) ∧ BytesAt w' oa k.bytes ∧ (∀ g off, oa = some ⟨g, off, none⟩ → w.heap.size ≤ g) ∧ Below w.heap.size w w'
theorem KPost.no {w w' : World} (h : Below w.heap.size w w') : KPost noK w (.returned (.agg #[.bool false, .int .i64 0, .int .i64 0, .slice none 0 0])) w' := ⟨none, 0, rfl, fun i hi => absurd hi (Nat.not_lt_zero _), fun _ _ e => (by cases e), h⟩

theorem BytesAt.keptH {p : Nat → Prop} {w w' : World} {a : Option Addr} {bs : List Nat} (h : BytesAt w a bs) (k : Kept p w w') (hn : ∀ g off, a = some ⟨g, off, none⟩ → ¬ p g) : BytesAt w' a bs := fun i hi => by
  obtain ⟨b, off, ha, hc⟩ := h i hi
  exact ⟨b, off, ha, k.cell hc (hn b off ha)⟩
theorem BytesAt.takeH {w : World} {oa : Option Addr} {xs : List Nat} (h : BytesAt w oa xs) (n : Nat) : BytesAt w oa (xs.take n) := fun i hi => by
  have h1 : i < n ∧ i < xs.length := by rw [List.length_take] at hi; omega
  obtain ⟨b, off, e, hc⟩ := h i h1.2
  refine ⟨b, off, e, ?_⟩
  rw [getElem!_pos _ i hi, List.getElem_take, ← getElem!_pos xs i h1.2]
  exact hc
theorem calls_argsS {P : Program} {f : Nat} {a b : Array Value} {w : World} {Q : Ending → World → Prop} (h : Calls P f a w Q) (e : a = b) : Calls P f b w Q := by subst e; exact h

set_option maxRecDepth 100000 in
theorem l4first_any (m : Nat) (w : World) (hm : m < 2) : Calls Try.prog 161 #[.int .i64 (m : Int)] w fun e w' => e = .returned (.int .i64 (firstOf m : Nat)) ∧ Below w.heap.size w w' := by
  go_enter Try.func161, Try.ntmps161
  go_wp2
  go_ret
  exact ⟨congrArg (fun z => Ending.returned (.int .i64 z)) (by simp only [firstOf]; first | omega | (unfold wrap64; omega)), gre _⟩

set_option maxHeartbeats 2000000 in
set_option maxRecDepth 100000 in
theorem l4image_any (d : DD) (l : DL) (m : Nat) (w : World) (hf : d.Fit) (ho : d.Ok) (ha : DAt w l d) (hm : m < 2) :
    Calls Try.prog 159 #[d.val l, .int .i64 (m : Int)] w (KPost (d.slotOf m) w) := by
  have hA := gal (gal (gre w) (.cells #[.slice l.ba d.blocks.length l.bc, .slice l.wa d.waiting.length l.wc] 50)) (.cells #[.bool false, .int .i64 0, .int .i64 0, .slice none 0 0] 82)
  have hX0 := (DBox.new w d l 50).grow (gal (gre _) (.cells #[.bool false, .int .i64 0, .int .i64 0, .slice none 0 0] 82))
  have hR0 := V4.new_at (w.alloc (.cells #[.slice l.ba d.blocks.length l.bc, .slice l.wa d.waiting.length l.wc] 50)) (.bool false) (.int .i64 0) (.int .i64 0) (.slice none 0 0) 82 (w.heap.size + 1) (by simp)
  obtain ⟨h, hh⟩ := hid_ex (headOf (d.rd m))
  rcases headOf_cases (d.rd m) with hi | hi
  · rw [← hh.out] at hi
    obtain ⟨ok, gen, len, sum⟩ := h
    obtain ⟨rfl, hrng, hsum, heq⟩ := hi
    have hr := rng_i64 hrng
    simp only at hr
    obtain ⟨n, rfl⟩ : ∃ n : Nat, len = (n : Int) := ⟨len.toNat, by omega⟩
    clear hrng heq
    obtain ⟨img, himg⟩ := hid_ex (d.img m n)
    have hsl : Hid (d.slotOf m = if wrap64 (sumN img : Int) = sum then ⟨true, gen, (m : Int), img⟩ else noK) := by
      show _ = _
      unfold DD.slotOf
      rw [← hh.out, himg.out]
      simp
    obtain ⟨i0, hi0, hz0, hz1, hz2⟩ := info_parts info_u8
    go_enter Try.func159, Try.ntmps159
    go_wp2_with (go_at_call 114; refine (l4head_any d l m _ hf ho (ha.grow hA) (by omega)).mono ?_; rw [← hh.out]; rintro e w1 ⟨rfl, hb1⟩)
    have hHb := HBox.new w1 true gen (n : Int) sum 74
    have hb2 := gal hb1 (.cells #[.bool true, .int .i64 gen, .int .i64 (n : Int), .int .i64 sum] 74)
    have hX2 := hX0.grow hb2
    have hR2 := hR0.grow hb2
    have hA2 := gca hA hb2
    have hRl := (hR0.grow hb1).lt
    generalize w1.alloc (.cells #[.bool true, .int .i64 gen, .int .i64 (n : Int), .int .i64 sum] 74) = wH at hHb hb2 hX2 hR2 hA2 ⊢
    generalize w1.heap.size = H at hHb hRl ⊢
    clear hb1 hb2 hX0 hR0 hA
    have hHl := hHb.lt
    go_loopw [6, 7] (fun a k wr => ∃ (j : Nat) (oa : Option Addr) (c : Nat), a = .slice oa (64 * j) c ∧ k = .int .i64 (j : Int) ∧ j ≤ 64 ∧ 64 * j < n + 64 ∧ wr.ownsRow wH.heap.size 5 1 (.slice oa (64 * j) c) (64 * j) (bcells (d.cat (firstOf m) j)) ∧ Below wH.heap.size wH wr) (fun _ k _ => 64 - (intOf k).toNat)
    case atStart => exact ⟨0, none, 0, rfl, rfl, by omega, by omega, ownsRow_nilH _ _ _, gre _⟩
    case round =>
      obtain ⟨j, oa, c, rfl, rfl, hj, hjn, hO, hb⟩ := hrel
      obtain ⟨_, p0, p1, p2, p3⟩ := hHb.kept (Kept.of_below hb (fun _ => False)) (fun e => e)
      have hXr := hX2.grow hb
      obtain ⟨_, z0, z1, z2, z3, zf⟩ := hR2.grow hb
      by_cases hlt : 64 * j < n
      · have hd : ((64 * j : Nat) : Int) < (n : Int) := by omega
        have hd2 : (64 : Int) * (j : Int) < (n : Int) := by omega
        go_wp2_with (go_quiet (fail))
        have hB : Below wr.heap.size wr wr.drew := gdr (gre _)
        refine wp_regionU (fun u => DBox u w.heap.size d l) 99 (by kernel_rfl) (hXr.grow hB) (fun _ => ?_)
        refine anyU_take (i := 0) (v := ?_) rfl (by kernel_rfl) (by kernel_rfl) (by kernel_rfl) (by kernel_rfl) (fun _ _ _ h => h) (Or.inl ⟨by rfl, ?_⟩) (hXr.grow hB) ?_
        rotate_left
        · intro u hSu; (try dsimp only at hSu); go_simp <;> with_reducible rfl
        simp only [Act.put, List.getElem_toArray, List.getElem_cons_zero, List.setIfInBounds_toArray, List.set_cons_zero, List.set_cons_succ]
        refine anyU_take (i := 1) (v := ?_) rfl (by kernel_rfl) (by kernel_rfl) (by kernel_rfl) (by kernel_rfl) (fun _ _ _ h => h) (Or.inl ⟨by rfl, ?_⟩) (hXr.grow hB) ?_
        rotate_left
        · intro u hSu; obtain ⟨_, s0, s1⟩ := hSu; go_simp <;> with_reducible rfl
        simp only [Act.put, List.getElem_toArray, List.getElem_cons_zero, List.getElem_cons_succ, List.setIfInBounds_toArray, List.set_cons_zero, List.set_cons_succ]
        refine anyU_take (i := 2) (v := ?_) rfl (by kernel_rfl) (by kernel_rfl) (by kernel_rfl) (by kernel_rfl) (fun _ _ _ h => h) (Or.inl ⟨by rfl, ?_⟩) (hXr.grow hB) ?_
        rotate_left
        · intro u hSu; (try dsimp only at hSu); go_simp <;> with_reducible rfl
        simp only [Act.put, List.getElem_toArray, List.getElem_cons_zero, List.getElem_cons_succ, List.setIfInBounds_toArray, List.set_cons_zero, List.set_cons_succ]
        refine anyU_take (i := 4) (v := ?_) rfl (by kernel_rfl) (by kernel_rfl) (by kernel_rfl) (by kernel_rfl) (fun _ _ _ h => h) (Or.inl ⟨by rfl, ?_⟩) (hXr.grow hB) ?_
        rotate_left
        · intro u hSu; (try dsimp only at hSu); go_simp <;> with_reducible rfl
        simp only [Act.put, List.getElem_toArray, List.getElem_cons_zero, List.getElem_cons_succ, List.setIfInBounds_toArray, List.set_cons_zero, List.set_cons_succ]
        refine anyU_one (i := 3) (by kernel_rfl) rfl (fun K hK => ?_)
        go_simp
        refine (l4first_any m _ hm).mono ?_
        rintro e w3 ⟨rfl, hb3⟩
        have hB := gca hB hb3
        refine hK.out _ _ (hXr.grow hB) ?_
        clear hK
        refine anyU_one (i := 5) (by kernel_rfl) rfl (fun K hK => ?_)
        go_simp
        refine hK.out _ _ (hXr.grow hB) ?_
        clear hK
        have hrd := DD.rd_len hf (m := firstOf m + j) (by unfold firstOf; omega)
        obtain ⟨bs, hbs⟩ := hid_ex (d.rd (firstOf m + j))
        have hwr : IntKind.i64.wrap ((firstOf m : Nat) + (j : Int)) = ((firstOf m + j : Nat) : Int) := by rw [IntKind.wrap_i64]; unfold firstOf; omega
        have hbl : Hid (bs.length = 64) := by show _ = _; rw [hbs.out]; exact hrd
        refine anyU_one (i := 6) (by kernel_rfl) rfl (fun K hK => ?_)
        go_simp
        refine (calls_argsS (l3read_own d l (firstOf m + j) w3 hf (ha.grow (gca (gca hA2 hb) hB)) (by unfold firstOf; omega)) (by first | (rw [Int.natCast_add]; done) | (rw [Int.natCast_add]; rfl) | rw [hwr])).mono ?_
        rw [show readN d.blocks d.waiting ((firstOf m + j : Nat) : Int) d.waiting.length = bs from hbs.out.symm]
        rintro e w4 ⟨oa4, c4, rfl, hO4, hb4⟩
        have hB := gca hB hb4
        refine hK.out _ _ (hXr.grow hB) ?_
        clear hK
        have hO5 := (Kept.of_below hB (fun _ => False)).owns hO (fun _ _ e => e)
        obtain ⟨g4, off4, rfl, hg4⟩ := bytes_some (owns_bytes hO4) (by rw [hbl.out]; decide)
        have hn5 := bytes_news (owns_bytes hO4)
        have hs5 := hB.size
        have hsH := hb.size
        refine anyU_one (i := 7) (by kernel_rfl) rfl (fun K hK => ?_)
        refine step_append_lies _ (by rfl) (.tmp 22) (.tmp 28) 28 rfl wH.heap.size 5 i0 (.int .u8 0) 1 1 Try.underlying28 hi0 hz0 hz1 hz2 rfl (by decide) (.slice oa (64 * j) c) (64 * j) (bcells (d.cat (firstOf m) j)) (by rfl) hO5 ⟨g4, off4, none⟩ bs.length c4 (bcells bs) (by rfl) (by rw [bcells_length, Nat.mul_one]) hn5 cells_u8 (by rw [hbl.out]; decide) (by rw [hbl.out]; unfold maxLen; omega) (by rw [hbl.out]; omega) (by omega) w4.heap.size rfl ?_
        intro gg cc w6 hown6 hgrow6 hat6 hlt6
        have K6 := Kept.of_grown hgrow6
        have hX6 := (hXr.grow hB).kept K6 (fun e => by have := (hO5.lt _ e).1; have := hX2.lt; omega)
        refine hK.out _ _ hX6 ?_
        clear hK
        simp only [Act.put, List.getElem_toArray, List.getElem_cons_zero, List.getElem_cons_succ, List.setIfInBounds_toArray, List.set_cons_zero, List.set_cons_succ]
        refine anyU_one (i := 8) (by kernel_rfl) rfl (fun K hK => ?_)
        go_simp
        refine hK.out _ _ hX6 ?_
        clear hK
        refine anyU_done (by kernel_rfl) ?_
        have hb6 : Below wH.heap.size wH w6 := (hb.trans (hB.mono hsH)).trans (K6.below (B := wH.heap.size) (by omega) (fun k hk e => by have := (hO5.lt _ e).1; omega))
        rw [← bcells_append, hbl.out] at hown6
        have hcat : d.cat (firstOf m) j ++ bs = d.cat (firstOf m) (j + 1) := by rw [hbs.out]; rfl
        rw [hcat, show 64 * j + 64 = 64 * (j + 1) by omega] at hown6
        rw [hbl.out, show 64 * j + 64 = 64 * (j + 1) by omega]
        go_wp2
        go_roundw
        case rel => exact ⟨j + 1, some ⟨gg, 0, none⟩, cc, rfl, by go_num, by omega, by omega, hown6, hb6⟩
        case measure => simp [intOf]; omega
      · have hd : ¬ ((64 : Int) * (j : Int) < (n : Int)) := by omega
        have hcl := DD.cat_len hf (f := firstOf m) (j := j) (by unfold firstOf; omega)
        have hcap := owns_capH hO
        have himg' : (d.cat (firstOf m) j).take n = img := by rw [himg.out]; exact DD.img_part hf hm hj (by omega)
        have hil : Hid (img.length = n) := by show _ = _; rw [himg.out]; exact DD.img_len hf hm (by omega)
        have hib : ∀ x, x ∈ img → x < 256 := by rw [himg.out]; exact DD.img_byte hf ho hm
        have hbt : BytesAt wr oa img := by
          rw [← himg']
          rw [← hcl] at hO
          exact (owns_bytes hO).takeH n
        have hHr := hHb.kept (Kept.of_below hb (fun _ => False)) (fun e => e)
        have hRr := hR2.grow hb
        have q0 : (0 : Int) ≤ (n : Int) := by omega
        have q1 : (n : Int) ≤ (c : Int) := by omega
        clear himg' hO hcl hcap
        go_upto_region 10 with (go_quiet (fail))
        by_cases t : wrap64 (sumN img : Int) = sum
        · have t' : (IntKind.i64.wrap (sumN img : Int) != sum) = false := by rw [← wrap64_eq, t]; simp
          have hsl2 : Hid (d.slotOf m = ⟨true, gen, (m : Int), img⟩) := hsl.out.trans (if_pos t)
          clear t
          have hB : Below wr.heap.size wr wr.drew := gdr (gre _)
          refine wp_regionU (fun u => HBox u H true gen (n : Int) sum) 99 (by kernel_rfl) (hHr.kept (Kept.of_below hB (fun _ => False)) (fun e => e)) (fun _ => ?_)
          refine anyU_take (i := 0) (v := ?_) rfl (by kernel_rfl) (by kernel_rfl) (by kernel_rfl) (by kernel_rfl) (fun _ _ _ h => h) (Or.inl ⟨by rfl, ?_⟩) (hHr.kept (Kept.of_below hB (fun _ => False)) (fun e => e)) ?_
          rotate_left
          · intro u hSu; (try dsimp only at hSu); go_simp <;> with_reducible rfl
          simp only [Act.put, List.getElem_toArray, List.getElem_cons_zero, List.setIfInBounds_toArray, List.set_cons_zero, List.set_cons_succ]
          refine anyU_take (i := 3) (v := ?_) rfl (by kernel_rfl) (by kernel_rfl) (by kernel_rfl) (by kernel_rfl) (fun _ _ _ h => h) (Or.inl ⟨by rfl, ?_⟩) (hHr.kept (Kept.of_below hB (fun _ => False)) (fun e => e)) ?_
          rotate_left
          · intro u hSu; (try dsimp only at hSu); go_simp <;> with_reducible rfl
          simp only [Act.put, List.getElem_toArray, List.getElem_cons_zero, List.getElem_cons_succ, List.setIfInBounds_toArray, List.set_cons_zero, List.set_cons_succ]
          refine anyU_take (i := 4) (v := ?_) rfl (by kernel_rfl) (by kernel_rfl) (by kernel_rfl) (by kernel_rfl) (fun _ _ _ h => h) (Or.inl ⟨by rfl, ?_⟩) (hHr.kept (Kept.of_below hB (fun _ => False)) (fun e => e)) ?_
          rotate_left
          · intro u hSu; obtain ⟨_, s0, s1, s2, s3⟩ := hSu; go_simp <;> with_reducible rfl
          simp only [Act.put, List.getElem_toArray, List.getElem_cons_zero, List.getElem_cons_succ, List.setIfInBounds_toArray, List.set_cons_zero, List.set_cons_succ]
          refine anyU_one (i := 1) (by kernel_rfl) rfl (fun K hK => ?_)
          go_simp
          refine (calls_argsS (l2sum_any oa img c _ (hbt.grow hB) (by rw [hil.out]; unfold maxLen; omega) hib) (by rw [hil.out])).mono ?_
          rintro e w3 ⟨rfl, hb3⟩
          have hB := gca hB hb3
          refine hK.out _ _ (hHr.kept (Kept.of_below hB (fun _ => False)) (fun e => e)) ?_
          clear hK
          refine anyU_one (i := 2) (by kernel_rfl) rfl (fun K hK => ?_)
          go_simp
          refine hK.out _ _ (hHr.kept (Kept.of_below hB (fun _ => False)) (fun e => e)) ?_
          clear hK
          refine anyU_one (i := 5) (by kernel_rfl) rfl (fun K hK => ?_)
          go_simp
          refine hK.out _ _ (hHr.kept (Kept.of_below hB (fun _ => False)) (fun e => e)) ?_
          clear hK
          refine anyU_done (by kernel_rfl) ?_
          have hRf := hRr.grow hB
          have hBf := gca (gca hA2 hb) hB
          obtain ⟨_, z0, z1, z2, z3, zf⟩ := id hRf
          have hH3 := hHr.kept (Kept.of_below hB (fun _ => False)) (fun e => e)
          have hb3t := hbt.grow hB
          go_upto_region 12 with fail
          have hB2 : Below w3.heap.size w3 w3.drew := gdr (gre _)
          refine wp_regionU (fun u => HBox u H true gen (n : Int) sum) 6 (by kernel_rfl) (hH3.kept (Kept.of_below hB2 (fun _ => False)) (fun e => e)) (fun _ => ?_)
          refine anyU_take (i := 0) (v := ?_) rfl (by kernel_rfl) (by kernel_rfl) (by kernel_rfl) (by kernel_rfl) (fun _ _ _ h => h) (Or.inl ⟨by rfl, ?_⟩) (hH3.kept (Kept.of_below hB2 (fun _ => False)) (fun e => e)) ?_
          rotate_left
          · intro u hSu; (try dsimp only at hSu); go_simp <;> with_reducible rfl
          simp only [Act.put, List.getElem_toArray, List.getElem_cons_zero, List.setIfInBounds_toArray, List.set_cons_zero, List.set_cons_succ]
          refine anyU_take (i := 1) (v := ?_) rfl (by kernel_rfl) (by kernel_rfl) (by kernel_rfl) (by kernel_rfl) (fun _ _ _ h => h) (Or.inl ⟨by rfl, ?_⟩) (hH3.kept (Kept.of_below hB2 (fun _ => False)) (fun e => e)) ?_
          rotate_left
          · intro u hSu; obtain ⟨_, s0, s1, s2, s3⟩ := hSu; go_simp <;> with_reducible rfl
          simp only [Act.put, List.getElem_toArray, List.getElem_cons_zero, List.getElem_cons_succ, List.setIfInBounds_toArray, List.set_cons_zero, List.set_cons_succ]
          refine anyU_take (i := 2) (v := ?_) rfl (by kernel_rfl) (by kernel_rfl) (by kernel_rfl) (by kernel_rfl) (fun _ _ _ h => h) (Or.inl ⟨by rfl, ?_⟩) (hH3.kept (Kept.of_below hB2 (fun _ => False)) (fun e => e)) ?_
          rotate_left
          · intro u hSu; (try dsimp only at hSu); go_simp <;> with_reducible rfl
          simp only [Act.put, List.getElem_toArray, List.getElem_cons_zero, List.getElem_cons_succ, List.setIfInBounds_toArray, List.set_cons_zero, List.set_cons_succ]
          refine anyU_take (i := 3) (v := ?_) rfl (by kernel_rfl) (by kernel_rfl) (by kernel_rfl) (by kernel_rfl) (fun _ _ _ h => h) (Or.inl ⟨by rfl, ?_⟩) (hH3.kept (Kept.of_below hB2 (fun _ => False)) (fun e => e)) ?_
          rotate_left
          · intro u hSu; (try dsimp only at hSu); go_simp <;> with_reducible rfl
          simp only [Act.put, List.getElem_toArray, List.getElem_cons_zero, List.getElem_cons_succ, List.setIfInBounds_toArray, List.set_cons_zero, List.set_cons_succ]
          refine anyU_one (i := 4) (by kernel_rfl) rfl (fun K hK => ?_)
          go_simp
          refine (calls_argsS (l2copy_any oa img c _ (by rw [hil.out]; omega) (hb3t.grow hB2)) (by rw [hil.out])).mono ?_
          rintro e w5 ⟨oa5, c5, rfl, hO5, hb5⟩
          have hB2 := gca hB2 hb5
          refine hK.out _ _ (hH3.kept (Kept.of_below hB2 (fun _ => False)) (fun e => e)) ?_
          clear hK
          refine anyU_one (i := 5) (by kernel_rfl) rfl (fun K hK => ?_)
          go_simp
          refine hK.out _ _ (hH3.kept (Kept.of_below hB2 (fun _ => False)) (fun e => e)) ?_
          clear hK
          have hRg := hRf.grow hB2
          obtain ⟨_, z0, z1, z2, z3, zf⟩ := id hRg
          refine anyU_last (by kernel_rfl) rfl (by kernel_rfl) (fun K hK => ?_)
          go_simp
          refine hK.out _ _ ?_
          clear hK
          have hBg := gca hBf hB2
          go_wp2
          obtain ⟨c0, c1, c2, c3, K⟩ := retV4 hRg (.bool true) (.int .i64 gen) (.int .i64 (m : Int)) (.slice oa5 img.length c5)
          refine bodyPost_ret (v := .agg #[.bool true, .int .i64 gen, .int .i64 (m : Int), .slice oa5 img.length c5]) (by simp [results, Try.results159, go_sem, c0, c1, c2, c3]) rfl ⟨oa5, c5, by rw [hsl2.out], ?_, fun g off e => (by have h5 := hO5.lt g (by rw [e]; rfl); have := hH3.lt; have : w3.drew.heap.size = w3.heap.size := rfl; omega), hBg.trans (K.below (B := w.heap.size) hBg.size (fun k hk e => by omega))⟩
          rw [hsl2.out]
          exact (owns_bytes hO5).keptH K (fun g off e hp => by
            have h5 := hO5.lt g (by rw [e]; rfl)
            have := hH3.lt
            have := hB.size
            have : w3.drew.heap.size = w3.heap.size := rfl
            omega)
        · have t' : (IntKind.i64.wrap (sumN img : Int) != sum) = true := by rw [← wrap64_eq]; simpa using t
          have hsl2 : Hid (d.slotOf m = noK) := hsl.out.trans (if_neg t)
          clear t
          have hB : Below wr.heap.size wr wr.drew := gdr (gre _)
          refine wp_regionU (fun u => HBox u H true gen (n : Int) sum) 99 (by kernel_rfl) (hHr.kept (Kept.of_below hB (fun _ => False)) (fun e => e)) (fun _ => ?_)
          refine anyU_take (i := 0) (v := ?_) rfl (by kernel_rfl) (by kernel_rfl) (by kernel_rfl) (by kernel_rfl) (fun _ _ _ h => h) (Or.inl ⟨by rfl, ?_⟩) (hHr.kept (Kept.of_below hB (fun _ => False)) (fun e => e)) ?_
          rotate_left
          · intro u hSu; (try dsimp only at hSu); go_simp <;> with_reducible rfl
          simp only [Act.put, List.getElem_toArray, List.getElem_cons_zero, List.setIfInBounds_toArray, List.set_cons_zero, List.set_cons_succ]
          refine anyU_take (i := 3) (v := ?_) rfl (by kernel_rfl) (by kernel_rfl) (by kernel_rfl) (by kernel_rfl) (fun _ _ _ h => h) (Or.inl ⟨by rfl, ?_⟩) (hHr.kept (Kept.of_below hB (fun _ => False)) (fun e => e)) ?_
          rotate_left
          · intro u hSu; (try dsimp only at hSu); go_simp <;> with_reducible rfl
          simp only [Act.put, List.getElem_toArray, List.getElem_cons_zero, List.getElem_cons_succ, List.setIfInBounds_toArray, List.set_cons_zero, List.set_cons_succ]
          refine anyU_take (i := 4) (v := ?_) rfl (by kernel_rfl) (by kernel_rfl) (by kernel_rfl) (by kernel_rfl) (fun _ _ _ h => h) (Or.inl ⟨by rfl, ?_⟩) (hHr.kept (Kept.of_below hB (fun _ => False)) (fun e => e)) ?_
          rotate_left
          · intro u hSu; obtain ⟨_, s0, s1, s2, s3⟩ := hSu; go_simp <;> with_reducible rfl
          simp only [Act.put, List.getElem_toArray, List.getElem_cons_zero, List.getElem_cons_succ, List.setIfInBounds_toArray, List.set_cons_zero, List.set_cons_succ]
          refine anyU_one (i := 1) (by kernel_rfl) rfl (fun K hK => ?_)
          go_simp
          refine (calls_argsS (l2sum_any oa img c _ (hbt.grow hB) (by rw [hil.out]; unfold maxLen; omega) hib) (by rw [hil.out])).mono ?_
          rintro e w3 ⟨rfl, hb3⟩
          have hB := gca hB hb3
          refine hK.out _ _ (hHr.kept (Kept.of_below hB (fun _ => False)) (fun e => e)) ?_
          clear hK
          refine anyU_one (i := 2) (by kernel_rfl) rfl (fun K hK => ?_)
          go_simp
          refine hK.out _ _ (hHr.kept (Kept.of_below hB (fun _ => False)) (fun e => e)) ?_
          clear hK
          refine anyU_one (i := 5) (by kernel_rfl) rfl (fun K hK => ?_)
          go_simp
          refine hK.out _ _ (hHr.kept (Kept.of_below hB (fun _ => False)) (fun e => e)) ?_
          clear hK
          refine anyU_done (by kernel_rfl) ?_
          have hRf := hRr.grow hB
          have hBf := gca (gca hA2 hb) hB
          obtain ⟨_, z0, z1, z2, z3, zf⟩ := id hRf
          go_upto_region 99 with fail
          obtain ⟨c0, c1, c2, c3, K⟩ := retV4 hRf (.bool false) (.int .i64 0) (.int .i64 0) (.slice none 0 0)
          exact bodyPost_ret (v := noK.val none 0) (by simp [results, Try.results159, go_sem, c0, c1, c2, c3, noK]) rfl (by rw [hsl2.out]; exact KPost.no (hBf.trans (K.below (B := w.heap.size) hBf.size (fun k hk e => by omega))))
  · rw [show d.slotOf m = noK from if_neg (fun e => by rw [hi] at e; cases e.1)]
    go_enter Try.func159, Try.ntmps159
    go_upto_region 99 with (go_at_call 114; refine (l4head_any d l m _ hf ho (ha.grow hA) (by omega)).mono ?_; rw [hi]; rintro e w1 ⟨rfl, hb1⟩; have hR1 := (hR0.grow hb1).grow (gal (gre _) (.cells #[.bool false, .int .i64 0, .int .i64 0, .int .i64 0] 74)); obtain ⟨_, z0, z1, z2, z3, zf⟩ := id hR1)
    obtain ⟨c0, c1, c2, c3, K⟩ := retV4 hR1 (.bool false) (.int .i64 0) (.int .i64 0) (.slice none 0 0)
    have hB := gal (gca hA hb1) (.cells #[.bool false, .int .i64 0, .int .i64 0, .int .i64 0] 74)
    exact bodyPost_ret (v := noK.val none 0) (by simp [results, Try.results159, go_sem, c0, c1, c2, c3, noK]) rfl (KPost.no (hB.trans (K.below (B := w.heap.size) hB.size (fun k hk e => by omega))))

end Go.Proofs.Ythjddpkegooobab
