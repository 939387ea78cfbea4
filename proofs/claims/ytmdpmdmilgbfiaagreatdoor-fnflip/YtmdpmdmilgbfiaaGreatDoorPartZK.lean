import Derived.Test.YtmdpmdmilgbfiaaGreatDoorPartZF

/-
  FPLAIN: one bit changed: no sum holds any more. Own work.
-/
namespace Go.Proofs.YtmdpmdmilgbfiaaGreatDoor
open Go.RowKit

theorem mul_inv64 (a : Nat) (h : a < 18446744073709551616) : a * 1099511628211 % 18446744073709551616 * 14886173955864302971 % 18446744073709551616 = a := by
  rw [Nat.mod_mul_mod, Nat.mul_assoc, Nat.mul_mod, show 1099511628211 * 14886173955864302971 % 18446744073709551616 = 1 by decide, Nat.mul_one, Nat.mod_mod, Nat.mod_eq_of_lt h]
theorem xor_lt64 {h x : Nat} (hh : h < 18446744073709551616) (hx : x < 256) : h ^^^ x < 18446744073709551616 := Nat.xor_lt_two_pow (n := 64) hh (by omega)
theorem xor_back (a b : Nat) : (a ^^^ b) ^^^ b = a := by rw [Nat.xor_assoc, Nat.xor_self, Nat.xor_zero]
theorem sumStep_arg {h h' x x' : Nat} (hh : h < 18446744073709551616) (hh' : h' < 18446744073709551616) (hx : x < 256) (hx' : x' < 256) (e : sumStep h x = sumStep h' x') : h ^^^ x = h' ^^^ x' := by
  rw [← mul_inv64 _ (xor_lt64 hh hx), ← mul_inv64 _ (xor_lt64 hh' hx')]
  unfold sumStep at e
  rw [e]
theorem sumStep_left {h h' x : Nat} (hh : h < 18446744073709551616) (hh' : h' < 18446744073709551616) (hx : x < 256) (e : sumStep h x = sumStep h' x) : h = h' := by
  have e2 := sumStep_arg hh hh' hx hx e
  rw [← xor_back h x, e2, xor_back]
theorem sumStep_right {h x x' : Nat} (hh : h < 18446744073709551616) (hx : x < 256) (hx' : x' < 256) (e : sumStep h x = sumStep h x') : x = x' := by
  have e2 := sumStep_arg hh hh hx hx' e
  rw [Nat.xor_comm h x, Nat.xor_comm h x'] at e2
  rw [← xor_back x h, e2, xor_back]
theorem fold_lt : ∀ (bs : List Nat) (h : Nat), h < 18446744073709551616 → bs.foldl sumStep h < 18446744073709551616
  | [], _, hh => hh
  | x :: r, h, _ => fold_lt r (sumStep h x) (sumStep_lt h x)
theorem fold_ne : ∀ (bs : List Nat) (h h' : Nat), (∀ x, x ∈ bs → x < 256) → h < 18446744073709551616 → h' < 18446744073709551616 → h ≠ h' → bs.foldl sumStep h ≠ bs.foldl sumStep h'
  | [], _, _, _, _, _, hne => hne
  | x :: r, _h, _h', hb, hh, hh', hne => fold_ne r _ _ (fun y hy => hb y (List.mem_cons_of_mem _ hy)) (sumStep_lt _ _) (sumStep_lt _ _) (fun e => hne (sumStep_left hh hh' (hb x (List.mem_cons_self ..)) e))
/-- another byte: another sum -/
theorem fold_setF : ∀ (bs : List Nat) (h y v : Nat), (∀ x, x ∈ bs → x < 256) → v < 256 → h < 18446744073709551616 → y < bs.length → bs[y]! ≠ v → (bs.set y v).foldl sumStep h ≠ bs.foldl sumStep h
  | [], _, _, _, _, _, _, hy, _ => absurd hy (Nat.not_lt_zero _)
  | x :: r, h, 0, v, hb, hv, hh, _, hne => by
    have hx := hb x (List.mem_cons_self ..)
    exact fold_ne r _ _ (fun y hy => hb y (List.mem_cons_of_mem _ hy)) (sumStep_lt _ _) (sumStep_lt _ _) (fun e => hne (sumStep_right hh hv hx e).symm)
  | x :: r, h, y + 1, v, hb, hv, hh, hy, hne =>
    fold_setF r (sumStep h x) y v (fun z hz => hb z (List.mem_cons_of_mem _ hz)) hv (sumStep_lt _ _) (by simpa using hy) (by simpa using hne)
theorem sum_set {bs : List Nat} {y v : Nat} (hb : ∀ x, x ∈ bs → x < 256) (hv : v < 256) (hy : y < bs.length) (hne : bs[y]! ≠ v) : sumN (bs.set y v) ≠ sumN bs := fold_setF bs _ y v hb hv (by decide) hy hne
theorem lowB_inj : ∀ (k : Nat) (a b : Nat), a < 256 ^ k → b < 256 ^ k → lowB k a = lowB k b → a = b
  | 0, a, b, ha, hb, _ => by simp at ha hb; omega
  | k + 1, a, b, ha, hb, e => by
    simp only [lowB, List.cons.injEq] at e
    have := lowB_inj k (a / 256) (b / 256) (by rw [Nat.pow_succ] at ha; omega) (by rw [Nat.pow_succ] at hb; omega) e.2
    omega
theorem wrap64_inj {a b : Nat} (ha : a < 18446744073709551616) (hb : b < 18446744073709551616) (e : wrap64 (a : Int) = wrap64 (b : Int)) : a = b := by
  unfold wrap64 at e
  omega

/-- a head with one byte changed is none -/
theorem head_flip {g l s : Int} {y v : Nat} (hy : y < 36) (hv : v < 256) (hne : (headB g l s)[y]! ≠ v) : headOf ((headB g l s).set y v) = noH := headOf_no (fun x hx => by
  have e := hx.eq
  have hn := headN_length g l s
  have hn' := headN_length x.gen x.len x.sum
  unfold headB at e hne
  rw [List.append_assoc] at e hne
  rw [List.append_assoc] at e
  by_cases h28 : y < 28
  · rw [List.set_append_left _ _ (by omega)] at e
    obtain ⟨e1, e2⟩ := List.append_inj e (by rw [List.length_set]; omega)
    obtain ⟨e3, _⟩ := List.append_inj e2 (by rw [lowB_length, lowB_length])
    have e4 := lowB_inj 8 _ _ (sumN_lt _) (sumN_lt _) e3
    rw [← e1] at e4
    refine sum_set (headN_byte g l s) hv (by omega) ?_ e4.symm
    intro h
    apply hne
    rw [getElem!_pos _ y (by simp [hn, lowB_length]; omega), List.getElem_append_left (by omega)]
    rw [getElem!_pos _ y (by omega)] at h
    exact h
  · rw [List.set_append_right _ _ (by omega)] at e
    obtain ⟨e1, e2⟩ := List.append_inj e (by omega)
    rw [List.set_append_left _ _ (by rw [lowB_length]; omega)] at e2
    obtain ⟨e3, _⟩ := List.append_inj e2 (by rw [List.length_set, lowB_length, lowB_length])
    rw [← e1] at e3
    apply hne
    have h5 : ((lowB 8 (sumN (headN g l s))).set (y - (headN g l s).length) v)[y - (headN g l s).length]! = (lowB 8 (sumN (headN g l s)))[y - (headN g l s).length]! := by rw [e3]
    rw [getElem!_pos _ _ (by rw [List.length_set, lowB_length]; omega), List.getElem_set_self, getElem!_pos _ _ (by rw [lowB_length]; omega)] at h5
    rw [getElem!_pos _ y (by simp [hn, lowB_length]; omega), List.getElem_append_right (by omega), List.getElem_append_left (by rw [lowB_length]; omega), ← h5])

def flipB (bl : List (List Nat)) (m y v : Nat) : List (List Nat) := bl.set m (bl[m]!.set y (bl[m]![y]! ^^^ v))
theorem flipB_length (bl : List (List Nat)) (m y v : Nat) : (flipB bl m y v).length = bl.length := by simp [flipB]
def DD.flip (d : DD) (m y v : Nat) : DD := ⟨flipB d.blocks m y v, d.waiting⟩
theorem flip_rd {d : DD} (hw : d.waiting = []) {m y v : Nat} (_hm : m < d.blocks.length) {j : Nat} (hj : j < d.blocks.length) : (d.flip m y v).rd j = if j = m then (d.rd m).set y ((d.rd m)[y]! ^^^ v) else d.rd j := by
  have e : ∀ (b : List (List Nat)) i, DD.rd ⟨b, []⟩ i = b[i]! := fun b i => by simp [DD.rd, readN]
  have e2 : ∀ i, d.rd i = d.blocks[i]! := fun i => by unfold DD.rd; rw [hw]; simp [readN]
  unfold DD.flip
  rw [hw, e, e2, e2]
  unfold flipB
  rw [getElem!_pos _ j (by simpa using hj), List.getElem_set]
  by_cases h : m = j
  · rw [if_pos h, if_pos h.symm, h]
  · rw [if_neg h, if_neg (fun k => h k.symm), getElem!_pos d.blocks j hj]
theorem flip_goodK {d : DD} (h : GoodK d) {m y v : Nat} (hm : m < 130) (hv : v < 256) : GoodK (d.flip m y v) := by
  have hf := DD.fit h.ok
  have hmem : d.blocks[m]! ∈ d.blocks := mem_at (by rw [hf.bl]; exact hm)
  have hlen : ∀ b, b ∈ flipB d.blocks m y v → b.length = 64 := fun b hb => by
    rcases List.mem_or_eq_of_mem_set hb with e | e
    · exact hf.bb b e
    · rw [e, List.length_set]; exact hf.bb _ hmem
  have hbyte : ∀ b, b ∈ flipB d.blocks m y v → ∀ x, x ∈ b → x < 256 := fun b hb x hx => by
    rcases List.mem_or_eq_of_mem_set hb with e | e
    · exact (h.o.bb b e).byte x hx
    · rw [e] at hx
      rcases List.mem_or_eq_of_mem_set hx with e2 | e2
      · exact (h.o.bb _ hmem).byte x e2
      · rw [e2]
        refine Nat.xor_lt_two_pow (n := 8) ?_ hv
        by_cases hy : y < d.blocks[m]!.length
        · exact (h.o.bb _ hmem).byte _ (mem_at hy)
        · rw [List.getElem!_eq_getElem?_getD, List.getElem?_eq_none (by omega)]; decide
  refine ⟨?_, h.w, ⟨by show (flipB d.blocks m y v).length ≤ maxLen; rw [flipB_length]; exact h.o.bl, fun b hb => ⟨by rw [hlen b hb]; unfold maxLen; omega, hbyte b hb⟩, h.o.wl, h.o.wi, h.o.wb⟩⟩
  unfold DD.ok DD.flip
  simp only [Bool.and_eq_true, decide_eq_true_eq, List.all_eq_true]
  refine ⟨⟨⟨by rw [flipB_length]; exact hf.bl, hf.wl⟩, fun b hb => ?_⟩, fun x hx => ?_⟩
  · unfold blOk; simpa using hlen b hb
  · rw [h.w] at hx; cases hx

/-- the blocks of an image, one byte changed -/
theorem cat_flip {d f : DD} (hd : d.Fit) {F q v : Nat} (hF : F + 64 ≤ 130) (h0 : ∀ i, i < 64 → i ≠ q / 64 → f.rd (F + i) = d.rd (F + i)) (h1 : f.rd (F + q / 64) = (d.rd (F + q / 64)).set (q % 64) ((d.rd (F + q / 64))[q % 64]! ^^^ v)) : ∀ j, j ≤ 64 → f.cat F j = (d.cat F j).set q ((d.cat F 64)[q]! ^^^ v)
  | 0, _ => rfl
  | j + 1, hj => by
    have ih := cat_flip hd hF h0 h1 j (by omega)
    have hl := DD.cat_len hd (f := F) (j := j) (by omega)
    rw [DD.cat, DD.cat, ih]
    by_cases e : j = q / 64
    · have hq : q % 64 = q - 64 * j := by omega
      have hr := DD.rd_len hd (m := F + j) (by omega)
      have hget : (d.cat F 64)[q]! = (d.rd (F + j))[q % 64]! := by
        have ht := DD.cat_take hd (f := F) (j := j + 1) (k := 64) (n := q + 1) (by omega) (by omega) (by omega)
        have hl64 := DD.cat_len hd (f := F) (j := 64) (by omega)
        have e1 : (d.cat F 64)[q]! = ((d.cat F 64).take (q + 1))[q]! := by rw [getElem!_pos _ q (by omega), getElem!_pos _ q (by rw [List.length_take]; omega), List.getElem_take]
        have hl1 := DD.cat_len hd (f := F) (j := j + 1) (by omega)
        rw [e1, ht, getElem!_pos _ q (by rw [List.length_take]; omega), List.getElem_take]
        simp only [DD.cat]
        rw [List.getElem_append_right (by omega), getElem!_pos _ (q % 64) (by omega)]
        simp only [hl, hq]
      rw [List.set_eq_of_length_le (by omega), List.set_append_right _ _ (by omega), hget, hl, ← hq, e, h1]
    · rw [h0 j (by omega) e]
      by_cases h : q < 64 * j
      · rw [List.set_append_left _ _ (by omega)]
      · rw [List.set_eq_of_length_le (by omega), List.set_eq_of_length_le (by rw [List.length_append, hl, DD.rd_len hd (by omega)]; omega)]
theorem xor_ne {a v : Nat} (hv : v ≠ 0) : a ≠ a ^^^ v := fun e => hv (by
  have := congrArg (fun z => a ^^^ z) e
  simp only [Nat.xor_self] at this
  rw [← Nat.xor_assoc, Nat.xor_self, Nat.zero_xor] at this
  exact this.symm)
theorem slot_newest {d : DD} (hd : d.Fit) {g : Int} {o : Nat} {im : List Nat} (ho : o < 2) (h : d.newestOf = ⟨true, g, (o : Int), im⟩) : d.slotOf o = ⟨true, g, (o : Int), im⟩ := by
  have hc : d.newestOf = d.slotOf 1 ∨ d.newestOf = d.slotOf 0 := by
    unfold DD.newestOf
    split
    · exact Or.inl rfl
    · exact Or.inr rfl
  rcases hc with e | e
  · have hs := (DD.slot_fine hd (slot := 1) (by omega)).slot (by rw [← e, h])
    rw [← e, h] at hs
    have : o = 1 := by simp only at hs; omega
    subst this
    rw [← e, h]
  · have hs := (DD.slot_fine hd (slot := 0) (by omega)).slot (by rw [← e, h])
    rw [← e, h] at hs
    have : o = 0 := by simp only at hs; omega
    subst this
    rw [← e, h]
/-- behind a whole laying-down, also the slots -/
theorem keep_slot {d : DD} (h : GoodK d) {g : GG} (hp : packB g ≠ []) (hg : d.newestOf.gen ≠ 1000000000000) : (d.keep g).slotOf (1 - d.newestOf.other) = d.slotOf (1 - d.newestOf.other) := by
  obtain ⟨h1, h2, h3, h4⟩ := keep_facts h hp hg
  have hl := packB_lenK g
  have hf := DD.fit h.ok
  have hr := newest_rng hf
  have hll := lay_len d hl
  have ho : d.ops (packB g) = d.lay (packB g) := if_pos ⟨h.ok, h.w, hp, hl⟩
  have hne : d.lay (packB g) ≠ [] := by
    unfold DD.lay
    rw [if_neg hg]
    simp
  obtain ⟨f, e1, e2, _, e4⟩ := applyN_view h.ok (lay_good d hl) (d.lay (packB g)).length (Nat.le_refl _) (by rw [h.w]; simp; omega)
  have hk : d.keep g = f := by
    unfold DD.keep
    rw [ho, if_neg hne]
    unfold DD.apply
    rw [if_pos ⟨h.ok, by omega, Int.le_refl _⟩, Int.toNat_natCast, e1]
    rfl
  rw [hk]
  exact (laid_slots hf (DD.fit e2) hl hp hg e4).2

/-- what the law looks at: two layings-down -/
structure Two2 (d : DD) (g h : GG) (o : Nat) : Prop where
  gd : GoodK d
  lt : o < 2
  k : d.newest = ⟨true, 2, (o : Int), packB h⟩
  hd : d.rd o = headB 2 ((packB h).length : Int) (wrap64 (sumN (packB h) : Int))
  img : d.img o (packB h).length = packB h
  old : d.slotOf (1 - o) = ⟨true, 1, ((1 - o : Nat) : Int), packB g⟩
theorem two_keeps {g h : GG} (hg : g.Ok) (hp : packB g ≠ []) (hq : packB h ≠ []) : ∃ o, Two2 ((blankD.keep g).keep h) g h o := by
  obtain ⟨o1, x1, n1⟩ := (KInv.zero zeroG).step (by omega) hg hp
  have hw := (newest_nat n1.inv.gd).symm.trans n1.k
  have hne : (blankD.keep g).newestOf.gen ≠ 1000000000000 := by rw [hw]; show ((0 + 1 : Nat) : Int) ≠ _; omega
  obtain ⟨k1, k2, _, k4⟩ := keep_facts n1.inv.gd hq hne
  have hs := keep_slot n1.inv.gd hq hne
  have ho := (blankD.keep g).newestOf.other_lt
  have ho1 := n1.lt
  have eo : 1 - (blankD.keep g).newestOf.other = o1 := by
    rw [hw]
    unfold KK.other
    by_cases e0 : o1 = 0
    · subst e0; rw [if_pos ⟨rfl, rfl⟩]
    · rw [if_neg (fun k => e0 (by have := k.2; simpa using this))]; omega
  have eg : (blankD.keep g).newestOf.gen + 1 = 2 := by rw [hw]; rfl
  rw [eg] at k2 k4
  rw [eo, slot_newest (DD.fit n1.inv.gd.ok) ho1 hw] at hs
  generalize (blankD.keep g).newestOf.other = o at *
  have hf := DD.fit k1.ok
  have hsl := slot_newest hf ho k2
  have hpl : 1 ≤ (packB h).length := by
    cases e : packB h with
    | nil => exact absurd e hq
    | cons x r => simp
  have hpm := packB_lenK h
  have hhd := headOf_yes (x := ⟨true, 2, ((packB h).length : Int), wrap64 (sumN (packB h) : Int)⟩) (bs := ((blankD.keep g).keep h).rd o) ⟨rfl, rng_mk ⟨⟨(by decide : (1 : Int) ≤ 2), (by decide : (2 : Int) ≤ 1000000000000)⟩, by show (1 : Int) ≤ ((packB h).length : Int) ∧ ((packB h).length : Int) ≤ 4096; omega⟩, wrap64_rng _, k4⟩
  refine ⟨o, k1, ho, (newest_nat k1).trans k2, k4, ?_, by rw [eo]; exact hs⟩
  unfold DD.slotOf at hsl
  rw [hhd] at hsl
  by_cases hc : (true = true ∧ wrap64 (sumN (((blankD.keep g).keep h).img o ((packB h).length : Int).toNat) : Int) = wrap64 (sumN (packB h) : Int))
  · rw [if_pos hc] at hsl
    have := congrArg KK.bytes hsl
    simpa using this
  · rw [if_neg hc] at hsl
    cases hsl

/-- where the changed bit lies -/
structure Flips (o n m y : Nat) : Prop where
  ml : m < 130
  yl : y < 64
  w : (m = o ∧ y < 36) ∨ ∃ q, q < n ∧ m = firstOf o + q / 64 ∧ y = q % 64
theorem flip_take {d : DD} {g h : GG} {o : Nat} (T : Two2 d g h o) (hg : g.Ok) (hp : packB g ≠ []) {m y v : Nat} (F : Flips o (packB h).length m y) (hv : v < 256) (hv0 : v ≠ 0) : (d.flip m y v).takeT = ⟨0, 1, canon g⟩ := by
  have hgd := flip_goodK (y := y) T.gd F.ml hv
  have hf := DD.fit T.gd.ok
  have hf2 := DD.fit hgd.ok
  have ho := T.lt
  have hbl := hf.bl
  have hrd := fun j (hj : j < 130) => flip_rd (d := d) T.gd.w (y := y) (v := v) (by rw [hbl]; exact F.ml) (j := j) (by rw [hbl]; exact hj)
  have hpm := packB_lenK h
  have hbyte : ∀ j, j < 130 → ∀ x, x ∈ d.rd j → x < 256 := fun j hj => DD.rd_byte hf T.gd.o hj
  have hmo : ∀ i, i < 64 → firstOf (1 - o) + i < 130 ∧ firstOf (1 - o) + i ≠ m ∧ (1 - o) ≠ m := fun i hi => by
    rcases F.w with ⟨e, _⟩ | ⟨q, h1, e, _⟩
    · unfold firstOf; omega
    · unfold firstOf at e ⊢; omega
  have hold : (d.flip m y v).slotOf (1 - o) = ⟨true, 1, ((1 - o : Nat) : Int), packB g⟩ := by
    rw [← T.old]
    refine slot_same ?_ (fun i hi => ?_)
    · rw [hrd _ (by omega), if_neg (hmo 0 (by omega)).2.2]
    · rw [hrd _ (hmo i hi).1, if_neg (hmo i hi).2.1]
  have hnew : (d.flip m y v).slotOf o = noK := by
    unfold DD.slotOf
    rcases F.w with ⟨e, h36⟩ | ⟨q, h1, e, e2⟩
    · have hx : headOf ((d.flip m y v).rd o) = noH := by
        rw [hrd o (by omega), if_pos e.symm, e, T.hd]
        refine head_flip h36 (Nat.xor_lt_two_pow (n := 8) ?_ hv) (xor_ne hv0)
        have := hbyte o (by omega) ((d.rd o)[y]!) (mem_at (by rw [DD.rd_len hf (by omega)]; exact F.yl))
        rw [T.hd] at this
        exact this
      rw [hx]
      exact if_neg (fun e => by cases e.1)
    · have hx : (d.flip m y v).rd o = d.rd o := by rw [hrd o (by omega), if_neg (by unfold firstOf at e; omega)]
      have hpl : 1 ≤ (packB h).length := by omega
      have hhd := headOf_yes (x := ⟨true, 2, ((packB h).length : Int), wrap64 (sumN (packB h) : Int)⟩) (bs := d.rd o) ⟨rfl, rng_mk ⟨⟨(by decide : (1 : Int) ≤ 2), (by decide : (2 : Int) ≤ 1000000000000)⟩, by show (1 : Int) ≤ ((packB h).length : Int) ∧ ((packB h).length : Int) ≤ 4096; omega⟩, wrap64_rng _, T.hd⟩
      have hcat := cat_flip hf (f := d.flip m y v) (F := firstOf o) (q := q) (v := v) (by unfold firstOf; omega) (fun i hi hne => by rw [hrd _ (by unfold firstOf; omega), if_neg (by omega)]) (by rw [hrd _ (by unfold firstOf; omega), if_pos e.symm, ← e, ← e2]) 64 (Nat.le_refl _)
      have hl64 := DD.cat_len hf (f := firstOf o) (j := 64) (by unfold firstOf; omega)
      have hget : (d.cat (firstOf o) 64)[q]! = (packB h)[q]! := by
        have := T.img
        unfold DD.img at this
        rw [← this, getElem!_pos _ q (by omega), getElem!_pos _ q (by rw [List.length_take]; omega), List.getElem_take]
      have himg : (d.flip m y v).img o (packB h).length = (packB h).set q ((packB h)[q]! ^^^ v) := by
        have := T.img
        unfold DD.img at this ⊢
        rw [hcat, List.take_set, this, hget]
      rw [hx, hhd]
      refine if_neg (fun k => ?_)
      have k2 := k.2
      simp only [Int.toNat_natCast] at k2
      rw [himg] at k2
      have hb := packB_bytesK h
      have e5 := wrap64_inj (sumN_lt _) (sumN_lt _) k2
      exact sum_set hb (Nat.xor_lt_two_pow (n := 8) (hb _ (mem_at h1)) hv) h1 (xor_ne hv0) e5
  have hN : (d.flip m y v).newestOf = ⟨true, 1, ((1 - o : Nat) : Int), packB g⟩ := by
    unfold DD.newestOf
    have h01 : o = 0 ∨ o = 1 := by omega
    rcases h01 with rfl | rfl
    · rw [hnew]
      have hold' : (d.flip m y v).slotOf 1 = ⟨true, 1, ((1 - 0 : Nat) : Int), packB g⟩ := hold
      rw [hold', if_pos ⟨rfl, Or.inl rfl⟩]
    · rw [hnew]
      have hold' : (d.flip m y v).slotOf 0 = ⟨true, 1, ((1 - 1 : Nat) : Int), packB g⟩ := hold
      rw [hold', if_neg (fun e => by cases e.1)]
  unfold DD.takeT
  rw [if_neg (by rw [hgd.ok]; decide), hN, if_neg (fun e => by cases e), unB_pack hg (packB_some hp) hp, if_neg (fun e => by cases e)]

end Go.Proofs.YtmdpmdmilgbfiaaGreatDoor

/-
  FMEM: one byte of a disk in memory is changed. Own work.
-/
namespace Go.Proofs.YtmdpmdmilgbfiaaGreatDoor
open Go.RowKit

theorem MBs.stepF {w w' : World} {lo hi : Nat} {a : Option Addr} {n : Nat} {F : Nat → List Nat} {fa : Nat → Option Addr} {fc : Nat → Nat} (h : MBs w lo hi a n F fa fc) {j : Nat} (hj : j < n) {ys : List Nat} (hy : ys.length = (F j).length) (hB : BB w' lo hi (fa j) ys) (hK : Kept (fun b => F j ≠ [] ∧ fa j = some ⟨b, 0, none⟩) w w') :
    MBs w' lo hi a n (fun i => if i = j then ys else F i) fa fc := by
  have hp : ∀ b, F j ≠ [] ∧ fa j = some ⟨b, 0, none⟩ → IsB w b := fun b hb => (h.tb ⟨j, hj, hb.1, hb.2⟩).2.2
  refine ⟨fun h0 => ?_, fun i hi => ?_, h.far⟩
  · obtain ⟨g, m, f, h1, h2, h3, h4, h5, h6⟩ := h.row h0
    refine ⟨g, m, f, h1, h2, h3, hK.rowIs h4 (fun hb => not_B_of_bs h4 (hp g hb)), h5, fun i hi => ?_⟩
    show f i = .slice (fa i) (if i = j then ys else F i).length (fc i)
    split
    · rename_i e; subst e; rw [hy]; exact h6 i hi
    · exact h6 i hi
  · show BB w' lo _ (fa i) (if i = j then ys else F i)
    split
    · rename_i e; subst e; exact hB
    · rename_i e
      exact (h.byt i hi).kept hK (fun b hb _ hq => h.ne hi hj e b hb hq.2)
theorem BRow.putF {w : World} {a n : Nat} {xs : List Nat} (h : BRow w a n xs) {y v : Nat} (_hy : Hid (y < xs.length)) : BRow (w.setCell ⟨a, y, none⟩ (.int .u8 (v : Int))) a n (xs.set y v) := by
  have hl : xs.length ≤ n := let ⟨_, _, _, h3, _⟩ := h; h3
  obtain ⟨f, hr, hf⟩ := h.row
  refine BRow.of_row (hr.set y (.int .u8 (v : Int))) (by rw [List.length_set]; exact hl) (fun i hi => ?_)
  rw [List.length_set] at hi
  rw [getElem!_pos (xs.set y v) i (by rw [List.length_set]; exact hi), List.getElem_set]
  by_cases e : i = y
  · rw [if_pos e, if_pos e.symm]
  · rw [if_neg e, if_neg (fun h => e h.symm), hf i hi, getElem!_pos xs i hi]
theorem MD.flip {w : World} {lo hi : Nat} {l : DL} {d : DD} {fa fb : Nat → Option Addr} {fc fe : Nat → Nat} (h : MD w lo hi l d fa fb fc fe) (hw : d.waiting = []) {m y v G : Nat} (hm : m < d.blocks.length) (hy : y < d.blocks[m]!.length) (hG : fa m = some ⟨G, 0, none⟩) :
    MD (w.setCell ⟨G, y, none⟩ (.int .u8 ((d.blocks[m]![y]! ^^^ v : Nat) : Int))) lo hi l (d.flip m y v) fa fb fc fe := by
  have hne : d.blocks[m]! ≠ [] := fun e => by rw [e] at hy; exact absurd hy (Nat.not_lt_zero _)
  have hK : Kept (fun b => d.blocks[m]! ≠ [] ∧ fa m = some ⟨b, 0, none⟩) w (w.setCell ⟨G, y, none⟩ (.int .u8 ((d.blocks[m]![y]! ^^^ v : Nat) : Int))) := (Kept.one w G y _).mono (fun z _ e => by rw [e]; exact ⟨hne, hG⟩)
  have hBB : BB (w.setCell ⟨G, y, none⟩ (.int .u8 ((d.blocks[m]![y]! ^^^ v : Nat) : Int))) lo hi (fa m) (d.blocks[m]!.set y (d.blocks[m]![y]! ^^^ v)) := by
    rcases h.b.byt m hm with e | ⟨G', n, h1, h2, h3, h4⟩
    · exact absurd e hne
    · rw [hG] at h1
      obtain rfl := some_addr h1
      exact Or.inr ⟨G, n, hG, h2, h3, h4.putF hy⟩
  have h1 := h.b.stepF hm (by rw [List.length_set]) hBB hK
  refine ⟨?_, ⟨fun h0 => absurd h0 (by show ¬ 0 < d.waiting.length; rw [hw]; simp), fun i hi => absurd hi (by show ¬ i < d.waiting.length; rw [hw]; simp), fun i j hij hj => absurd hj (by show ¬ j < d.waiting.length; rw [hw]; simp)⟩, fun i j _ hj => absurd hj (by show ¬ j < d.waiting.length; rw [hw]; simp)⟩
  show MBs _ lo hi l.ba (flipB d.blocks m y v).length (fun i => (flipB d.blocks m y v)[i]!) fa fc
  rw [flipB_length]
  refine h1.congr (fun i hi => ?_)
  unfold flipB
  rw [getElem!_pos _ i (by rw [List.length_set]; exact hi), List.getElem_set]
  by_cases e : i = m
  · rw [if_pos e.symm, if_pos e]
  · rw [if_neg (fun h => e h.symm), if_neg e, getElem!_pos d.blocks i hi]

theorem xor_u8F (a b : Nat) (ha : a < 256) (hb : b < 256) : bits .xor .u8 (a : Int) (IntKind.u8.wrap (b : Int)) = ((a ^^^ b : Nat) : Int) := by
  have h := Nat.xor_lt_two_pow (n := 8) ha hb
  have h1 : (BitVec.ofInt 8 (a : Int)).toNat = a := by
    rw [BitVec.ofInt_natCast, BitVec.toNat_ofNat]; exact Nat.mod_eq_of_lt (by omega)
  have h2 : (BitVec.ofInt 8 (b : Int)).toNat = b := by
    rw [BitVec.ofInt_natCast, BitVec.toNat_ofNat]; exact Nat.mod_eq_of_lt (by omega)
  rw [IntKind.wrap_u8', show (b : Int) % 256 = (b : Int) by omega]
  show IntKind.u8.wrap ((BitVec.ofInt 8 (a : Int) ^^^ BitVec.ofInt 8 (b : Int)).toNat : Int) = _
  rw [BitVec.toNat_xor, h1, h2, IntKind.wrap_u8']
  omega

end Go.Proofs.YtmdpmdmilgbfiaaGreatDoor
