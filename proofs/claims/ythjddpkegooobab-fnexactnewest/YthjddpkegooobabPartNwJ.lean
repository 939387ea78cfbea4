import Derived.Deep.AppendLies
import Derived.Deep.QuietTactic
import Derived.BigQuiet
import Derived.Test.YthjddpkegooobabPartNwI

/-
  NPLAIN: slots, what is newest, what is done to lay an image down, plain. Own work.
-/
namespace Go.Proofs.Ythjddpkegooobab
open Go.RowKit

/-- the first j blocks from a block on, one behind the other -/
def DD.cat (d : DD) (f : Nat) : Nat → List Nat
  | 0 => []
  | j + 1 => d.cat f j ++ d.rd (f + j)
theorem DD.cat_len {d : DD} (h : d.Fit) {f : Nat} : ∀ {j : Nat}, f + j ≤ 130 → (d.cat f j).length = 64 * j
  | 0, _ => rfl
  | j + 1, hj => by
    have h1 := DD.cat_len h (f := f) (j := j) (by omega)
    have h2 := DD.rd_len h (m := f + j) (by omega)
    simp only [DD.cat, List.length_append, h1, h2]
    omega
theorem DD.cat_byte {d : DD} (h : d.Fit) (ho : d.Ok) {f : Nat} : ∀ {j : Nat}, f + j ≤ 130 → ∀ x, x ∈ d.cat f j → x < 256
  | 0, _ => fun x hx => by cases hx
  | j + 1, hj => fun x hx => by
    rcases List.mem_append.1 hx with e | e
    · exact DD.cat_byte h ho (j := j) (by omega) x e
    · exact DD.rd_byte h ho (m := f + j) (by omega) x e
theorem DD.cat_take {d : DD} (h : d.Fit) {f : Nat} {j k n : Nat} (hjk : j ≤ k) (hk : f + k ≤ 130) (hn : n ≤ 64 * j) : (d.cat f k).take n = (d.cat f j).take n := by
  induction k with
  | zero => obtain rfl : j = 0 := by omega
            rfl
  | succ k ih =>
    by_cases e : j = k + 1
    · subst e; rfl
    · rw [DD.cat, List.take_append_of_le_length (by rw [DD.cat_len h (by omega)]; omega)]
      exact ih (by omega) (by omega)

/-- the first block of a slot's image -/
def firstOf (slot : Nat) : Nat := 2 + slot * 64
/-- the first n bytes of a slot's image -/
def DD.img (d : DD) (slot n : Nat) : List Nat := (d.cat (firstOf slot) 64).take n
theorem DD.img_len {d : DD} (h : d.Fit) {slot n : Nat} (hs : slot < 2) (hn : n ≤ 4096) : (d.img slot n).length = n := by
  unfold DD.img firstOf
  rw [List.length_take, DD.cat_len h (by omega)]
  omega
theorem DD.img_byte {d : DD} (h : d.Fit) (ho : d.Ok) {slot n : Nat} (hs : slot < 2) : ∀ x, x ∈ d.img slot n → x < 256 := fun x hx =>
  DD.cat_byte h ho (by unfold firstOf; omega) x (List.mem_of_mem_take hx)
theorem DD.img_part {d : DD} (h : d.Fit) {slot n j : Nat} (hs : slot < 2) (hj : j ≤ 64) (hn : n ≤ 64 * j) : (d.cat (firstOf slot) j).take n = d.img slot n :=
  (DD.cat_take h hj (by unfold firstOf; omega) hn).symm

structure KK where
  ok : Bool
  gen : Int
  slot : Int
  bytes : List Nat
def noK : KK := ⟨false, 0, 0, []⟩
abbrev KK.val (k : KK) (a : Option Addr) (c : Nat) : Value := .agg #[.bool k.ok, .int .i64 k.gen, .int .i64 k.slot, .slice a k.bytes.length c]

def DD.slotOf (d : DD) (slot : Nat) : KK :=
  if (headOf (d.rd slot)).ok = true ∧ wrap64 (sumN (d.img slot (headOf (d.rd slot)).len.toNat) : Int) = (headOf (d.rd slot)).sum then ⟨true, (headOf (d.rd slot)).gen, (slot : Int), d.img slot (headOf (d.rd slot)).len.toNat⟩ else noK
def DD.newestOf (d : DD) : KK := if (d.slotOf 1).ok = true ∧ ((d.slotOf 0).ok = false ∨ (d.slotOf 0).gen < (d.slotOf 1).gen) then d.slotOf 1 else d.slotOf 0
def DD.newest (d : DD) : KK := if d.ok = true then d.newestOf else noK

/-- what a slot's answer is -/
structure KK.Fine (k : KK) (slot : Nat) : Prop where
  no : k.ok = false → k = noK
  gen : k.ok = true → 1 ≤ k.gen ∧ k.gen ≤ 1000000000000
  slot : k.ok = true → k.slot = (slot : Int)
  len : k.bytes.length ≤ 4096
theorem DD.slot_fine {d : DD} (h : d.Fit) {slot : Nat} (hs : slot < 2) : (d.slotOf slot).Fine slot := by
  unfold DD.slotOf
  rcases headOf_cases (d.rd slot) with hh | hh
  · have hr := rng_i64 hh.rng
    split
    · exact ⟨fun e => (by cases e), fun _ => hr.1, fun _ => rfl, by rw [DD.img_len h hs (by omega)]; omega⟩
    · exact ⟨fun _ => rfl, fun e => (by cases e), fun e => (by cases e), Nat.zero_le _⟩
  · rw [if_neg (fun e => by rw [hh] at e; cases e.1)]
    exact ⟨fun _ => rfl, fun e => (by cases e), fun e => (by cases e), Nat.zero_le _⟩

/-- the program's way: the greater Gen, one slot behind the other -/
theorem newest_steps {a b : KK} (ha : a.Fine 0) (hb : b.Fine 1) : (if b.ok = true ∧ (a.ok = false ∨ a.gen < b.gen) then b else a) = (if (if noK.gen < a.gen then a else noK).gen < b.gen then b else (if noK.gen < a.gen then a else noK)) := by
  have e1 : (if noK.gen < a.gen then a else noK) = a := by
    cases hk : a.ok with
    | false => rw [ha.no hk]; simp [noK]
    | true => rw [if_pos (by have := ha.gen hk; simp [noK]; omega)]
  rw [e1]
  cases hk : b.ok with
  | false =>
    rw [hb.no hk]
    have : ¬ (a.gen < noK.gen) := by
      cases hka : a.ok with
      | false => rw [ha.no hka]; simp
      | true => have := ha.gen hka; simp [noK]; omega
    rw [if_neg (by simp [noK]), if_neg this]
  | true =>
    cases hka : a.ok with
    | false =>
      rw [if_pos ⟨rfl, Or.inl rfl⟩, ha.no hka, if_pos (by have := hb.gen hk; simp [noK]; omega)]
    | true =>
      by_cases hlt : a.gen < b.gen
      · rw [if_pos ⟨rfl, Or.inr hlt⟩, if_pos hlt]
      · rw [if_neg (fun e => by rcases e.2 with e | e; cases e; exact hlt e), if_neg hlt]

end Go.Proofs.Ythjddpkegooobab

/-
  REGIONV: the end of a region that draws its order. Own work.
-/
namespace Go.Proofs.Ythjddpkegooobab
open Go.RowKit

/-- none may come up any more -/
theorem anyU_done {P : Program} {ops : Array Oper} {Q : Exit → Act → World → Prop} {md : Region.Mode} {S : World → Prop} {lst : Nat} {fuel : Nat} {listed : Array Bool} {a : Act} {w : World} (hd : Region.ready md ops listed = []) (hQ : Q .normal a w) : anyU P md ops Q S lst fuel listed a w := by
  cases fuel with
  | zero => exact ⟨hd, hQ⟩
  | succ f => exact ⟨fun _ => hQ, fun i hi => by rw [hd] at hi; cases hi⟩

end Go.Proofs.Ythjddpkegooobab

/-
  SIMAGE: the specification's slots. Own work.
-/
namespace Go.Proofs.Ythjddpkegooobab
open Go.RowKit

/-- a struct of four cells, that may be written -/
structure V4 (w : World) (R : Nat) (a b c d : Value) : Prop where
  lt : R < w.heap.size
  c0 : w.cell? ⟨R, 0, none⟩ = some a
  c1 : w.cell? ⟨R, 1, none⟩ = some b
  c2 : w.cell? ⟨R, 2, none⟩ = some c
  c3 : w.cell? ⟨R, 3, none⟩ = some d
  f : ∀ o, w.frozen? ⟨R, o, none⟩ = false
theorem V4.kept {p : Nat → Prop} {w w' : World} {R : Nat} {a b c d : Value} (h : V4 w R a b c d) (k : Kept p w w') (hn : ¬ p R) : V4 w' R a b c d :=
  ⟨Nat.lt_of_lt_of_le h.lt k.size, k.cell h.c0 hn, k.cell h.c1 hn, k.cell h.c2 hn, k.cell h.c3 hn, fun o => (World.frozen?_of_block (w := w) (a := ⟨R, o, none⟩) (k.block R h.lt hn)).trans (h.f o)⟩
theorem V4.grow {w w' : World} {R : Nat} {a b c d : Value} (h : V4 w R a b c d) (k : Below w.heap.size w w') : V4 w' R a b c d := h.kept (Kept.of_below k (fun _ => False)) (fun e => e)
theorem V4.new_at (w : World) (a b c d : Value) (t : TypeId) (R : Nat) (hR : R = w.heap.size) : V4 (w.alloc (.cells #[a, b, c, d] t)) R a b c d := by
  subst hR
  exact ⟨by simp, by simp, by simp, by simp, by simp, fun o => by simp⟩
theorem retV4 {w : World} {R : Nat} {a b c d : Value} (hv : V4 w R a b c d) (A B C D : Value) :
    (w.setCell ⟨R, 0, none⟩ A).cell? ⟨R, 0, none⟩ = some A ∧ ((w.setCell ⟨R, 0, none⟩ A).setCell ⟨R, 1, none⟩ B).cell? ⟨R, 1, none⟩ = some B ∧ (((w.setCell ⟨R, 0, none⟩ A).setCell ⟨R, 1, none⟩ B).setCell ⟨R, 2, none⟩ C).cell? ⟨R, 2, none⟩ = some C ∧ ((((w.setCell ⟨R, 0, none⟩ A).setCell ⟨R, 1, none⟩ B).setCell ⟨R, 2, none⟩ C).setCell ⟨R, 3, none⟩ D).cell? ⟨R, 3, none⟩ = some D ∧
      Kept (fun b => b = R) w ((((w.setCell ⟨R, 0, none⟩ A).setCell ⟨R, 1, none⟩ B).setCell ⟨R, 2, none⟩ C).setCell ⟨R, 3, none⟩ D) := by
  refine ⟨World.cell?_setCell_same _ _ _ hv.c0, World.cell?_setCell_same _ _ _ ((World.cell?_setCell_other _ _ _ _ (by simp)).trans hv.c1), World.cell?_setCell_same _ _ _ (((World.cell?_setCell_other _ _ _ _ (by simp)).trans (World.cell?_setCell_other _ _ _ _ (by simp))).trans hv.c2), World.cell?_setCell_same _ _ _ ((((World.cell?_setCell_other _ _ _ _ (by simp)).trans (World.cell?_setCell_other _ _ _ _ (by simp))).trans (World.cell?_setCell_other _ _ _ _ (by simp))).trans hv.c3), ?_⟩
  exact ((((Kept.refl (fun b => b = R) w).set (a := ⟨R, 0, none⟩) (fun _ => rfl) A).set (a := ⟨R, 1, none⟩) (fun _ => rfl) B).set (a := ⟨R, 2, none⟩) (fun _ => rfl) C).set (a := ⟨R, 3, none⟩) (fun _ => rfl) D

theorem add_plainH (g off j : Nat) : Addr.add ⟨g, off, none⟩ j = ⟨g, off + j, none⟩ := by simp [Addr.add]
theorem bytes_news {w : World} {g off : Nat} {bs : List Nat} (h : BytesAt w (some ⟨g, off, none⟩) bs) : ∀ j u, (bcells bs)[j]? = some u → w.cell? (Addr.add ⟨g, off, none⟩ j) = some u := fun j u hu => by
  have hj : j < bs.length := by
    have := (List.getElem?_eq_some_iff.1 hu).1
    rwa [bcells_length] at this
  obtain ⟨b', off', e, hc⟩ := h j hj
  injection e with e
  injection e with e1 e2
  subst e1
  subst e2
  rw [bcells_get hj] at hu
  injection hu with hu
  rw [← hu, add_plainH]
  exact hc
theorem bcells_append (a b : List Nat) : bcells (a ++ b) = bcells a ++ bcells b := by simp [bcells]
theorem bytes_some {w : World} {oa : Option Addr} {bs : List Nat} (h : BytesAt w oa bs) (hl : 0 < bs.length) : ∃ g off, oa = some ⟨g, off, none⟩ ∧ g < w.heap.size := by
  obtain ⟨b, off, e, hc⟩ := h 0 hl
  exact ⟨b, off, e, World.block_lt_of_cell? _ _ hc⟩

theorem ownsRow_nilH (w : World) (base : Nat) (e : TypeId) : w.ownsRow base e 1 (.slice none 0 0) 0 (bcells []) := ⟨rfl, Or.inl ⟨rfl, rfl⟩⟩

/-- what is kept in a slot, as it is handed back -/
def KPost (k : KK) (w : World) (e : Ending) (w' : World) : Prop := ∃ oa c, e = .returned (k.val oa c) ∧ Hid (k.bytes.length ≤ c) ∧ BytesAt w' oa k.bytes ∧ (∀ g off, oa = some ⟨g, off, none⟩ → w.heap.size ≤ g) ∧ Below w.heap.size w w'
theorem KPost.no {w w' : World} (h : Below w.heap.size w w') : KPost noK w (.returned (.agg #[.bool false, .int .i64 0, .int .i64 0, .slice none 0 0])) w' := ⟨none, 0, rfl, Nat.le_refl _, fun i hi => absurd hi (Nat.not_lt_zero _), fun _ _ e => (by cases e), h⟩

theorem BytesAt.keptH {p : Nat → Prop} {w w' : World} {a : Option Addr} {bs : List Nat} (h : BytesAt w a bs) (k : Kept p w w') (hn : ∀ g off, a = some ⟨g, off, none⟩ → ¬ p g) : BytesAt w' a bs := fun i hi => by
  obtain ⟨b, off, ha, hc⟩ := h i hi
  exact ⟨b, off, ha, k.cell hc (hn b off ha)⟩
theorem BytesAt.takeH {w : World} {oa : Option Addr} {xs : List Nat} (h : BytesAt w oa xs) (n : Nat) : BytesAt w oa (xs.take n) := fun i hi => by
  have h1 : i < n ∧ i < xs.length := by rw [List.length_take] at hi; omega
  obtain ⟨b, off, e, hc⟩ := h i h1.2
  refine ⟨b, off, e, ?_⟩
  rw [getElem!_pos _ i hi, List.getElem_take, ← getElem!_pos xs i h1.2]
  exact hc
theorem calls_argsS {P : Program} {f : Nat} {a b : Array Value} {w : World} {Q : Ending → World → Prop} (h : Calls P f a w Q) (e : a = b) : Calls P f b w Q := by subst e; exact h

set_option maxRecDepth 100000 in
theorem l4first_any (m : Nat) (w : World) (hm : m < 2) : Calls Try.prog 161 #[.int .i64 (m : Int)] w fun e w' => e = .returned (.int .i64 (firstOf m : Nat)) ∧ Below w.heap.size w w' := by
  go_enter Try.func161, Try.ntmps161
  go_wp2
  go_ret
  exact ⟨congrArg (fun z => Ending.returned (.int .i64 z)) (by simp only [firstOf]; first | omega | (unfold wrap64; omega)), gre _⟩

set_option maxHeartbeats 2000000 in
set_option maxRecDepth 100000 in
theorem l4image_any (d : DD) (l : DL) (m : Nat) (w : World) (hf : d.Fit) (ho : d.Ok) (ha : DAt w l d) (hm : m < 2) :
    Calls Try.prog 159 #[d.val l, .int .i64 (m : Int)] w (KPost (d.slotOf m) w) := by
  have hA := gal (gal (gre w) (.cells #[.slice l.ba d.blocks.length l.bc, .slice l.wa d.waiting.length l.wc] 50)) (.cells #[.bool false, .int .i64 0, .int .i64 0, .slice none 0 0] 82)
  have hX0 := (DBox.new w d l 50).grow (gal (gre _) (.cells #[.bool false, .int .i64 0, .int .i64 0, .slice none 0 0] 82))
  have hR0 := V4.new_at (w.alloc (.cells #[.slice l.ba d.blocks.length l.bc, .slice l.wa d.waiting.length l.wc] 50)) (.bool false) (.int .i64 0) (.int .i64 0) (.slice none 0 0) 82 (w.heap.size + 1) (by simp)
  obtain ⟨h, hh⟩ := hid_ex (headOf (d.rd m))
  rcases headOf_cases (d.rd m) with hi | hi
  · rw [← hh.out] at hi
    obtain ⟨ok, gen, len, sum⟩ := h
    obtain ⟨rfl, hrng, hsum, heq⟩ := hi
    have hr := rng_i64 hrng
    simp only at hr
    obtain ⟨n, rfl⟩ : ∃ n : Nat, len = (n : Int) := ⟨len.toNat, by omega⟩
    clear hrng heq
    obtain ⟨img, himg⟩ := hid_ex (d.img m n)
    have hsl : Hid (d.slotOf m = if wrap64 (sumN img : Int) = sum then ⟨true, gen, (m : Int), img⟩ else noK) := by
      show _ = _
      unfold DD.slotOf
      rw [← hh.out, himg.out]
      simp
    obtain ⟨i0, hi0, hz0, hz1, hz2⟩ := info_parts info_u8
    go_enter Try.func159, Try.ntmps159
    go_wp2_with (go_at_call 114; refine (l4head_any d l m _ hf ho (ha.grow hA) (by omega)).mono ?_; rw [← hh.out]; rintro e w1 ⟨rfl, hb1⟩)
    have hHb := HBox.new w1 true gen (n : Int) sum 74
    have hb2 := gal hb1 (.cells #[.bool true, .int .i64 gen, .int .i64 (n : Int), .int .i64 sum] 74)
    have hX2 := hX0.grow hb2
    have hR2 := hR0.grow hb2
    have hA2 := gca hA hb2
    have hRl := (hR0.grow hb1).lt
    generalize w1.alloc (.cells #[.bool true, .int .i64 gen, .int .i64 (n : Int), .int .i64 sum] 74) = wH at hHb hb2 hX2 hR2 hA2 ⊢
    generalize w1.heap.size = H at hHb hRl ⊢
    clear hb1 hb2 hX0 hR0 hA
    have hHl := hHb.lt
    go_loopw [6, 7] (fun a k wr => ∃ (j : Nat) (oa : Option Addr) (c : Nat), a = .slice oa (64 * j) c ∧ k = .int .i64 (j : Int) ∧ j ≤ 64 ∧ 64 * j < n + 64 ∧ wr.ownsRow wH.heap.size 5 1 (.slice oa (64 * j) c) (64 * j) (bcells (d.cat (firstOf m) j)) ∧ Below wH.heap.size wH wr) (fun _ k _ => 64 - (intOf k).toNat)
    case atStart => exact ⟨0, none, 0, rfl, rfl, by omega, by omega, ownsRow_nilH _ _ _, gre _⟩
    case round =>
      obtain ⟨j, oa, c, rfl, rfl, hj, hjn, hO, hb⟩ := hrel
      obtain ⟨_, p0, p1, p2, p3⟩ := hHb.kept (Kept.of_below hb (fun _ => False)) (fun e => e)
      have hXr := hX2.grow hb
      obtain ⟨_, z0, z1, z2, z3, zf⟩ := hR2.grow hb
      by_cases hlt : 64 * j < n
      · have hd : ((64 * j : Nat) : Int) < (n : Int) := by omega
        have hd2 : (64 : Int) * (j : Int) < (n : Int) := by omega
        go_wp2_with (go_quiet (fail))
        have hB : Below wr.heap.size wr wr.drew := gdr (gre _)
        refine wp_regionU (fun u => DBox u w.heap.size d l) 99 (by kernel_rfl) (hXr.grow hB) (fun _ => ?_)
        refine anyU_take (i := 0) (v := ?_) rfl (by kernel_rfl) (by kernel_rfl) (by kernel_rfl) (by kernel_rfl) (fun _ _ _ h => h) (Or.inl ⟨by rfl, ?_⟩) (hXr.grow hB) ?_
        rotate_left
        · intro u hSu; (try dsimp only at hSu); go_simp <;> with_reducible rfl
        simp only [Act.put, List.getElem_toArray, List.getElem_cons_zero, List.setIfInBounds_toArray, List.set_cons_zero, List.set_cons_succ]
        refine anyU_take (i := 1) (v := ?_) rfl (by kernel_rfl) (by kernel_rfl) (by kernel_rfl) (by kernel_rfl) (fun _ _ _ h => h) (Or.inl ⟨by rfl, ?_⟩) (hXr.grow hB) ?_
        rotate_left
        · intro u hSu; obtain ⟨_, s0, s1⟩ := hSu; go_simp <;> with_reducible rfl
        simp only [Act.put, List.getElem_toArray, List.getElem_cons_zero, List.getElem_cons_succ, List.setIfInBounds_toArray, List.set_cons_zero, List.set_cons_succ]
        refine anyU_take (i := 2) (v := ?_) rfl (by kernel_rfl) (by kernel_rfl) (by kernel_rfl) (by kernel_rfl) (fun _ _ _ h => h) (Or.inl ⟨by rfl, ?_⟩) (hXr.grow hB) ?_
        rotate_left
        · intro u hSu; (try dsimp only at hSu); go_simp <;> with_reducible rfl
        simp only [Act.put, List.getElem_toArray, List.getElem_cons_zero, List.getElem_cons_succ, List.setIfInBounds_toArray, List.set_cons_zero, List.set_cons_succ]
        refine anyU_take (i := 4) (v := ?_) rfl (by kernel_rfl) (by kernel_rfl) (by kernel_rfl) (by kernel_rfl) (fun _ _ _ h => h) (Or.inl ⟨by rfl, ?_⟩) (hXr.grow hB) ?_
        rotate_left
        · intro u hSu; (try dsimp only at hSu); go_simp <;> with_reducible rfl
        simp only [Act.put, List.getElem_toArray, List.getElem_cons_zero, List.getElem_cons_succ, List.setIfInBounds_toArray, List.set_cons_zero, List.set_cons_succ]
        refine anyU_one (i := 3) (by kernel_rfl) rfl (fun K hK => ?_)
        go_simp
        refine (l4first_any m _ hm).mono ?_
        rintro e w3 ⟨rfl, hb3⟩
        have hB := gca hB hb3
        refine hK.out _ _ (hXr.grow hB) ?_
        clear hK
        refine anyU_one (i := 5) (by kernel_rfl) rfl (fun K hK => ?_)
        go_simp
        refine hK.out _ _ (hXr.grow hB) ?_
        clear hK
        have hrd := DD.rd_len hf (m := firstOf m + j) (by unfold firstOf; omega)
        obtain ⟨bs, hbs⟩ := hid_ex (d.rd (firstOf m + j))
        have hwr : IntKind.i64.wrap ((firstOf m : Nat) + (j : Int)) = ((firstOf m + j : Nat) : Int) := by rw [IntKind.wrap_i64]; unfold firstOf; omega
        have hbl : Hid (bs.length = 64) := by show _ = _; rw [hbs.out]; exact hrd
        refine anyU_one (i := 6) (by kernel_rfl) rfl (fun K hK => ?_)
        go_simp
        refine (calls_argsS (l3read_own d l (firstOf m + j) w3 hf (ha.grow (gca (gca hA2 hb) hB)) (by unfold firstOf; omega)) (by first | (rw [Int.natCast_add]; done) | (rw [Int.natCast_add]; rfl) | rw [hwr])).mono ?_
        rw [show readN d.blocks d.waiting ((firstOf m + j : Nat) : Int) d.waiting.length = bs from hbs.out.symm]
        rintro e w4 ⟨oa4, c4, rfl, hO4, hb4⟩
        have hB := gca hB hb4
        refine hK.out _ _ (hXr.grow hB) ?_
        clear hK
        have hO5 := (Kept.of_below hB (fun _ => False)).owns hO (fun _ _ e => e)
        obtain ⟨g4, off4, rfl, hg4⟩ := bytes_some (owns_bytes hO4) (by rw [hbl.out]; decide)
        have hn5 := bytes_news (owns_bytes hO4)
        have hs5 := hB.size
        have hsH := hb.size
        refine anyU_one (i := 7) (by kernel_rfl) rfl (fun K hK => ?_)
        refine step_append_lies _ (by rfl) (.tmp 22) (.tmp 28) 28 rfl wH.heap.size 5 i0 (.int .u8 0) 1 1 Try.underlying28 hi0 hz0 hz1 hz2 rfl (by decide) (.slice oa (64 * j) c) (64 * j) (bcells (d.cat (firstOf m) j)) (by rfl) hO5 ⟨g4, off4, none⟩ bs.length c4 (bcells bs) (by rfl) (by rw [bcells_length, Nat.mul_one]) hn5 cells_u8 (by rw [hbl.out]; decide) (by rw [hbl.out]; unfold maxLen; omega) (by rw [hbl.out]; omega) (by omega) w4.heap.size rfl ?_
        intro gg cc w6 hown6 hgrow6 hat6 hlt6
        have K6 := Kept.of_grown hgrow6
        have hX6 := (hXr.grow hB).kept K6 (fun e => by have := (hO5.lt _ e).1; have := hX2.lt; omega)
        refine hK.out _ _ hX6 ?_
        clear hK
        simp only [Act.put, List.getElem_toArray, List.getElem_cons_zero, List.getElem_cons_succ, List.setIfInBounds_toArray, List.set_cons_zero, List.set_cons_succ]
        refine anyU_one (i := 8) (by kernel_rfl) rfl (fun K hK => ?_)
        go_simp
        refine hK.out _ _ hX6 ?_
        clear hK
        refine anyU_done (by kernel_rfl) ?_
        have hb6 : Below wH.heap.size wH w6 := (hb.trans (hB.mono hsH)).trans (K6.below (B := wH.heap.size) (by omega) (fun k hk e => by have := (hO5.lt _ e).1; omega))
        rw [← bcells_append, hbl.out] at hown6
        have hcat : d.cat (firstOf m) j ++ bs = d.cat (firstOf m) (j + 1) := by rw [hbs.out]; rfl
        rw [hcat, show 64 * j + 64 = 64 * (j + 1) by omega] at hown6
        rw [hbl.out, show 64 * j + 64 = 64 * (j + 1) by omega]
        go_wp2
        go_roundw
        case rel => exact ⟨j + 1, some ⟨gg, 0, none⟩, cc, rfl, by go_num, by omega, by omega, hown6, hb6⟩
        case measure => simp [intOf]; omega
      · have hd : ¬ ((64 : Int) * (j : Int) < (n : Int)) := by omega
        have hcl := DD.cat_len hf (f := firstOf m) (j := j) (by unfold firstOf; omega)
        have hcap := owns_capH hO
        have himg' : (d.cat (firstOf m) j).take n = img := by rw [himg.out]; exact DD.img_part hf hm hj (by omega)
        have hil : Hid (img.length = n) := by show _ = _; rw [himg.out]; exact DD.img_len hf hm (by omega)
        have hib : ∀ x, x ∈ img → x < 256 := by rw [himg.out]; exact DD.img_byte hf ho hm
        have hbt : BytesAt wr oa img := by
          rw [← himg']
          rw [← hcl] at hO
          exact (owns_bytes hO).takeH n
        have hHr := hHb.kept (Kept.of_below hb (fun _ => False)) (fun e => e)
        have hRr := hR2.grow hb
        have q0 : (0 : Int) ≤ (n : Int) := by omega
        have q1 : (n : Int) ≤ (c : Int) := by omega
        clear himg' hO hcl hcap
        go_upto_region 10 with (go_quiet (fail))
        by_cases t : wrap64 (sumN img : Int) = sum
        · have t' : (IntKind.i64.wrap (sumN img : Int) != sum) = false := by rw [← wrap64_eq, t]; simp
          have hsl2 : Hid (d.slotOf m = ⟨true, gen, (m : Int), img⟩) := hsl.out.trans (if_pos t)
          clear t
          have hB : Below wr.heap.size wr wr.drew := gdr (gre _)
          refine wp_regionU (fun u => HBox u H true gen (n : Int) sum) 99 (by kernel_rfl) (hHr.kept (Kept.of_below hB (fun _ => False)) (fun e => e)) (fun _ => ?_)
          refine anyU_take (i := 0) (v := ?_) rfl (by kernel_rfl) (by kernel_rfl) (by kernel_rfl) (by kernel_rfl) (fun _ _ _ h => h) (Or.inl ⟨by rfl, ?_⟩) (hHr.kept (Kept.of_below hB (fun _ => False)) (fun e => e)) ?_
          rotate_left
          · intro u hSu; (try dsimp only at hSu); go_simp <;> with_reducible rfl
          simp only [Act.put, List.getElem_toArray, List.getElem_cons_zero, List.setIfInBounds_toArray, List.set_cons_zero, List.set_cons_succ]
          refine anyU_take (i := 3) (v := ?_) rfl (by kernel_rfl) (by kernel_rfl) (by kernel_rfl) (by kernel_rfl) (fun _ _ _ h => h) (Or.inl ⟨by rfl, ?_⟩) (hHr.kept (Kept.of_below hB (fun _ => False)) (fun e => e)) ?_
          rotate_left
          · intro u hSu; (try dsimp only at hSu); go_simp <;> with_reducible rfl
          simp only [Act.put, List.getElem_toArray, List.getElem_cons_zero, List.getElem_cons_succ, List.setIfInBounds_toArray, List.set_cons_zero, List.set_cons_succ]
          refine anyU_take (i := 4) (v := ?_) rfl (by kernel_rfl) (by kernel_rfl) (by kernel_rfl) (by kernel_rfl) (fun _ _ _ h => h) (Or.inl ⟨by rfl, ?_⟩) (hHr.kept (Kept.of_below hB (fun _ => False)) (fun e => e)) ?_
          rotate_left
          · intro u hSu; obtain ⟨_, s0, s1, s2, s3⟩ := hSu; go_simp <;> with_reducible rfl
          simp only [Act.put, List.getElem_toArray, List.getElem_cons_zero, List.getElem_cons_succ, List.setIfInBounds_toArray, List.set_cons_zero, List.set_cons_succ]
          refine anyU_one (i := 1) (by kernel_rfl) rfl (fun K hK => ?_)
          go_simp
          refine (calls_argsS (l2sum_any oa img c _ (hbt.grow hB) (by rw [hil.out]; unfold maxLen; omega) hib) (by rw [hil.out])).mono ?_
          rintro e w3 ⟨rfl, hb3⟩
          have hB := gca hB hb3
          refine hK.out _ _ (hHr.kept (Kept.of_below hB (fun _ => False)) (fun e => e)) ?_
          clear hK
          refine anyU_one (i := 2) (by kernel_rfl) rfl (fun K hK => ?_)
          go_simp
          refine hK.out _ _ (hHr.kept (Kept.of_below hB (fun _ => False)) (fun e => e)) ?_
          clear hK
          refine anyU_one (i := 5) (by kernel_rfl) rfl (fun K hK => ?_)
          go_simp
          refine hK.out _ _ (hHr.kept (Kept.of_below hB (fun _ => False)) (fun e => e)) ?_
          clear hK
          refine anyU_done (by kernel_rfl) ?_
          have hRf := hRr.grow hB
          have hBf := gca (gca hA2 hb) hB
          obtain ⟨_, z0, z1, z2, z3, zf⟩ := id hRf
          have hH3 := hHr.kept (Kept.of_below hB (fun _ => False)) (fun e => e)
          have hb3t := hbt.grow hB
          go_upto_region 12 with fail
          have hB2 : Below w3.heap.size w3 w3.drew := gdr (gre _)
          refine wp_regionU (fun u => HBox u H true gen (n : Int) sum) 6 (by kernel_rfl) (hH3.kept (Kept.of_below hB2 (fun _ => False)) (fun e => e)) (fun _ => ?_)
          refine anyU_take (i := 0) (v := ?_) rfl (by kernel_rfl) (by kernel_rfl) (by kernel_rfl) (by kernel_rfl) (fun _ _ _ h => h) (Or.inl ⟨by rfl, ?_⟩) (hH3.kept (Kept.of_below hB2 (fun _ => False)) (fun e => e)) ?_
          rotate_left
          · intro u hSu; (try dsimp only at hSu); go_simp <;> with_reducible rfl
          simp only [Act.put, List.getElem_toArray, List.getElem_cons_zero, List.setIfInBounds_toArray, List.set_cons_zero, List.set_cons_succ]
          refine anyU_take (i := 1) (v := ?_) rfl (by kernel_rfl) (by kernel_rfl) (by kernel_rfl) (by kernel_rfl) (fun _ _ _ h => h) (Or.inl ⟨by rfl, ?_⟩) (hH3.kept (Kept.of_below hB2 (fun _ => False)) (fun e => e)) ?_
          rotate_left
          · intro u hSu; obtain ⟨_, s0, s1, s2, s3⟩ := hSu; go_simp <;> with_reducible rfl
          simp only [Act.put, List.getElem_toArray, List.getElem_cons_zero, List.getElem_cons_succ, List.setIfInBounds_toArray, List.set_cons_zero, List.set_cons_succ]
          refine anyU_take (i := 2) (v := ?_) rfl (by kernel_rfl) (by kernel_rfl) (by kernel_rfl) (by kernel_rfl) (fun _ _ _ h => h) (Or.inl ⟨by rfl, ?_⟩) (hH3.kept (Kept.of_below hB2 (fun _ => False)) (fun e => e)) ?_
          rotate_left
          · intro u hSu; (try dsimp only at hSu); go_simp <;> with_reducible rfl
          simp only [Act.put, List.getElem_toArray, List.getElem_cons_zero, List.getElem_cons_succ, List.setIfInBounds_toArray, List.set_cons_zero, List.set_cons_succ]
          refine anyU_take (i := 3) (v := ?_) rfl (by kernel_rfl) (by kernel_rfl) (by kernel_rfl) (by kernel_rfl) (fun _ _ _ h => h) (Or.inl ⟨by rfl, ?_⟩) (hH3.kept (Kept.of_below hB2 (fun _ => False)) (fun e => e)) ?_
          rotate_left
          · intro u hSu; (try dsimp only at hSu); go_simp <;> with_reducible rfl
          simp only [Act.put, List.getElem_toArray, List.getElem_cons_zero, List.getElem_cons_succ, List.setIfInBounds_toArray, List.set_cons_zero, List.set_cons_succ]
          refine anyU_one (i := 4) (by kernel_rfl) rfl (fun K hK => ?_)
          go_simp
          refine (calls_argsS (l2copy_any oa img c _ (by rw [hil.out]; omega) (hb3t.grow hB2)) (by rw [hil.out])).mono ?_
          rintro e w5 ⟨oa5, c5, rfl, hO5, hb5⟩
          have hB2 := gca hB2 hb5
          refine hK.out _ _ (hH3.kept (Kept.of_below hB2 (fun _ => False)) (fun e => e)) ?_
          clear hK
          refine anyU_one (i := 5) (by kernel_rfl) rfl (fun K hK => ?_)
          go_simp
          refine hK.out _ _ (hH3.kept (Kept.of_below hB2 (fun _ => False)) (fun e => e)) ?_
          clear hK
          have hRg := hRf.grow hB2
          obtain ⟨_, z0, z1, z2, z3, zf⟩ := id hRg
          refine anyU_last (by kernel_rfl) rfl (by kernel_rfl) (fun K hK => ?_)
          go_simp
          refine hK.out _ _ ?_
          clear hK
          have hBg := gca hBf hB2
          go_wp2
          obtain ⟨c0, c1, c2, c3, K⟩ := retV4 hRg (.bool true) (.int .i64 gen) (.int .i64 (m : Int)) (.slice oa5 img.length c5)
          refine bodyPost_ret (v := .agg #[.bool true, .int .i64 gen, .int .i64 (m : Int), .slice oa5 img.length c5]) (by simp [results, Try.results159, go_sem, c0, c1, c2, c3]) rfl ⟨oa5, c5, by rw [hsl2.out], (by show _ ≤ c5; rw [hsl2.out]; exact owns_capH hO5), ?_, fun g off e => (by have h5 := hO5.lt g (by rw [e]; rfl); have := hH3.lt; have : w3.drew.heap.size = w3.heap.size := rfl; omega), hBg.trans (K.below (B := w.heap.size) hBg.size (fun k hk e => by omega))⟩
          rw [hsl2.out]
          exact (owns_bytes hO5).keptH K (fun g off e hp => by
            have h5 := hO5.lt g (by rw [e]; rfl)
            have := hH3.lt
            have := hB.size
            have : w3.drew.heap.size = w3.heap.size := rfl
            omega)
        · have t' : (IntKind.i64.wrap (sumN img : Int) != sum) = true := by rw [← wrap64_eq]; simpa using t
          have hsl2 : Hid (d.slotOf m = noK) := hsl.out.trans (if_neg t)
          clear t
          have hB : Below wr.heap.size wr wr.drew := gdr (gre _)
          refine wp_regionU (fun u => HBox u H true gen (n : Int) sum) 99 (by kernel_rfl) (hHr.kept (Kept.of_below hB (fun _ => False)) (fun e => e)) (fun _ => ?_)
          refine anyU_take (i := 0) (v := ?_) rfl (by kernel_rfl) (by kernel_rfl) (by kernel_rfl) (by kernel_rfl) (fun _ _ _ h => h) (Or.inl ⟨by rfl, ?_⟩) (hHr.kept (Kept.of_below hB (fun _ => False)) (fun e => e)) ?_
          rotate_left
          · intro u hSu; (try dsimp only at hSu); go_simp <;> with_reducible rfl
          simp only [Act.put, List.getElem_toArray, List.getElem_cons_zero, List.setIfInBounds_toArray, List.set_cons_zero, List.set_cons_succ]
          refine anyU_take (i := 3) (v := ?_) rfl (by kernel_rfl) (by kernel_rfl) (by kernel_rfl) (by kernel_rfl) (fun _ _ _ h => h) (Or.inl ⟨by rfl, ?_⟩) (hHr.kept (Kept.of_below hB (fun _ => False)) (fun e => e)) ?_
          rotate_left
          · intro u hSu; (try dsimp only at hSu); go_simp <;> with_reducible rfl
          simp only [Act.put, List.getElem_toArray, List.getElem_cons_zero, List.getElem_cons_succ, List.setIfInBounds_toArray, List.set_cons_zero, List.set_cons_succ]
          refine anyU_take (i := 4) (v := ?_) rfl (by kernel_rfl) (by kernel_rfl) (by kernel_rfl) (by kernel_rfl) (fun _ _ _ h => h) (Or.inl ⟨by rfl, ?_⟩) (hHr.kept (Kept.of_below hB (fun _ => False)) (fun e => e)) ?_
          rotate_left
          · intro u hSu; obtain ⟨_, s0, s1, s2, s3⟩ := hSu; go_simp <;> with_reducible rfl
          simp only [Act.put, List.getElem_toArray, List.getElem_cons_zero, List.getElem_cons_succ, List.setIfInBounds_toArray, List.set_cons_zero, List.set_cons_succ]
          refine anyU_one (i := 1) (by kernel_rfl) rfl (fun K hK => ?_)
          go_simp
          refine (calls_argsS (l2sum_any oa img c _ (hbt.grow hB) (by rw [hil.out]; unfold maxLen; omega) hib) (by rw [hil.out])).mono ?_
          rintro e w3 ⟨rfl, hb3⟩
          have hB := gca hB hb3
          refine hK.out _ _ (hHr.kept (Kept.of_below hB (fun _ => False)) (fun e => e)) ?_
          clear hK
          refine anyU_one (i := 2) (by kernel_rfl) rfl (fun K hK => ?_)
          go_simp
          refine hK.out _ _ (hHr.kept (Kept.of_below hB (fun _ => False)) (fun e => e)) ?_
          clear hK
          refine anyU_one (i := 5) (by kernel_rfl) rfl (fun K hK => ?_)
          go_simp
          refine hK.out _ _ (hHr.kept (Kept.of_below hB (fun _ => False)) (fun e => e)) ?_
          clear hK
          refine anyU_done (by kernel_rfl) ?_
          have hRf := hRr.grow hB
          have hBf := gca (gca hA2 hb) hB
          obtain ⟨_, z0, z1, z2, z3, zf⟩ := id hRf
          go_upto_region 99 with fail
          obtain ⟨c0, c1, c2, c3, K⟩ := retV4 hRf (.bool false) (.int .i64 0) (.int .i64 0) (.slice none 0 0)
          exact bodyPost_ret (v := noK.val none 0) (by simp [results, Try.results159, go_sem, c0, c1, c2, c3, noK]) rfl (by rw [hsl2.out]; exact KPost.no (hBf.trans (K.below (B := w.heap.size) hBf.size (fun k hk e => by omega))))
  · rw [show d.slotOf m = noK from if_neg (fun e => by rw [hi] at e; cases e.1)]
    go_enter Try.func159, Try.ntmps159
    go_upto_region 99 with (go_at_call 114; refine (l4head_any d l m _ hf ho (ha.grow hA) (by omega)).mono ?_; rw [hi]; rintro e w1 ⟨rfl, hb1⟩; have hR1 := (hR0.grow hb1).grow (gal (gre _) (.cells #[.bool false, .int .i64 0, .int .i64 0, .int .i64 0] 74)); obtain ⟨_, z0, z1, z2, z3, zf⟩ := id hR1)
    obtain ⟨c0, c1, c2, c3, K⟩ := retV4 hR1 (.bool false) (.int .i64 0) (.int .i64 0) (.slice none 0 0)
    have hB := gal (gca hA hb1) (.cells #[.bool false, .int .i64 0, .int .i64 0, .int .i64 0] 74)
    exact bodyPost_ret (v := noK.val none 0) (by simp [results, Try.results159, go_sem, c0, c1, c2, c3, noK]) rfl (KPost.no (hB.trans (K.below (B := w.heap.size) hB.size (fun k hk e => by omega))))

end Go.Proofs.Ythjddpkegooobab

/-
  SNEWESTA: the specification's Newest. Own work.
-/
namespace Go.Proofs.Ythjddpkegooobab
open Go.RowKit

abbrev KV4 (w : World) (R : Nat) (k : KK) (oa : Option Addr) (c : Nat) : Prop := V4 w R (.bool k.ok) (.int .i64 k.gen) (.int .i64 k.slot) (.slice oa k.bytes.length c)

set_option maxHeartbeats 1000000 in
set_option maxRecDepth 100000 in
theorem l4newest_any (d : DD) (l : DL) (w : World) (hf : d.Fit) (ho : d.Ok) (ha : DAt w l d) :
    Calls Try.prog 119 #[d.val l] w (KPost d.newestOf w) := by
  have hA := gal (gal (gre w) (.cells #[.slice l.ba d.blocks.length l.bc, .slice l.wa d.waiting.length l.wc] 50)) (.cells #[.bool false, .int .i64 0, .int .i64 0, .slice none 0 0] 82)
  have hX0 := (DBox.new w d l 50).grow (gal (gre _) (.cells #[.bool false, .int .i64 0, .int .i64 0, .slice none 0 0] 82))
  have hR0 := V4.new_at (w.alloc (.cells #[.slice l.ba d.blocks.length l.bc, .slice l.wa d.waiting.length l.wc] 50)) (.bool false) (.int .i64 0) (.int .i64 0) (.slice none 0 0) 82 (w.heap.size + 1) (by simp)
  obtain ⟨a, hka⟩ := hid_ex (d.slotOf 0)
  obtain ⟨b, hkb⟩ := hid_ex (d.slotOf 1)
  have hn : Hid (d.newestOf = if b.ok = true ∧ (a.ok = false ∨ a.gen < b.gen) then b else a) := by
    show _ = _
    unfold DD.newestOf
    rw [← hka.out, ← hkb.out]
  go_enter Try.func119, Try.ntmps119
  go_upto_region 2 with (go_at_call 159; refine (l4image_any d l 0 _ hf ho (ha.grow hA) (by omega)).mono ?_; rw [← hka.out]; rintro e w1 ⟨oa1, c1, rfl, hcp1, hb1t, hlo1, hb1⟩)
  have hKa := V4.new_at w1 (.bool a.ok) (.int .i64 a.gen) (.int .i64 a.slot) (.slice oa1 a.bytes.length c1) 82 w1.heap.size rfl
  have hb2 := gal hb1 (.cells #[.bool a.ok, .int .i64 a.gen, .int .i64 a.slot, .slice oa1 a.bytes.length c1] 82)
  have hat2 := hb1t.grow (gal (gre w1) (.cells #[.bool a.ok, .int .i64 a.gen, .int .i64 a.slot, .slice oa1 a.bytes.length c1] 82))
  have hX2 := hX0.grow hb2
  have hR2 := hR0.grow hb2
  have hA2 := gca hA hb2
  have hRl := (hR0.grow hb1).lt
  generalize w1.alloc (.cells #[.bool a.ok, .int .i64 a.gen, .int .i64 a.slot, .slice oa1 a.bytes.length c1] 82) = w2 at hKa hb2 hat2 hX2 hR2 hA2 ⊢
  generalize w1.heap.size = PA at hKa hRl ⊢
  clear hb1 hb2 hX0 hR0 hA hb1t
  obtain ⟨_, x0, x1⟩ := id hX2
  go_upto_region 3 with (go_at_call 159; refine (l4image_any d l 1 _ hf ho (ha.grow hA2) (by omega)).mono ?_; rw [← hkb.out]; rintro e w3 ⟨oa3, c3, rfl, hcp3, hb3t, hlo3, hb3⟩)
  have hKb := V4.new_at w3 (.bool b.ok) (.int .i64 b.gen) (.int .i64 b.slot) (.slice oa3 b.bytes.length c3) 82 w3.heap.size rfl
  have hb4 := gal hb3 (.cells #[.bool b.ok, .int .i64 b.gen, .int .i64 b.slot, .slice oa3 b.bytes.length c3] 82)
  have hbt4 := hb3t.grow (gal (gre w3) (.cells #[.bool b.ok, .int .i64 b.gen, .int .i64 b.slot, .slice oa3 b.bytes.length c3] 82))
  have hat4 := hat2.grow hb4
  have hKa4 := hKa.grow hb4
  have hR4 := hR2.grow hb4
  have hA4 := gca hA2 hb4
  have hPl := hKa.lt
  have hPs := hb3.size
  generalize w3.alloc (.cells #[.bool b.ok, .int .i64 b.gen, .int .i64 b.slot, .slice oa3 b.bytes.length c3] 82) = w4 at hKb hb4 hbt4 hat4 hKa4 hR4 hA4 ⊢
  generalize w3.heap.size = PB at hKb hPs ⊢
  clear x0 x1 hb3 hb4 hX2 hKa hR2 hat2 hb3t
  obtain ⟨_, p0, p1, p2, p3, pf⟩ := id hKa4
  obtain ⟨_, q0, q1, q2, q3, qf⟩ := id hKb
  obtain ⟨_, z0, z1, z2, z3, zf⟩ := id hR4
  have hfin : ∀ (k : KK) (oa : Option Addr) (c : Nat) (bs : List Nat), BytesAt w4 oa bs → (∀ g off, oa = some ⟨g, off, none⟩ → w.heap.size + 1 < g) → ∀ w', Kept (fun b => b = w.heap.size + 1) w4 w' → BytesAt w' oa bs ∧ (∀ g off, oa = some ⟨g, off, none⟩ → w.heap.size ≤ g) ∧ Below w.heap.size w w' := fun k oa c bs h1 h2 w' K =>
    ⟨h1.keptH K (fun g off e hp => by have := h2 g off e; omega), fun g off e => (by have := h2 g off e; omega), hA4.trans (K.below (B := w.heap.size) hA4.size (fun k hk e => by omega))⟩
  have ga1 : ∀ g off, oa1 = some ⟨g, off, none⟩ → w.heap.size + 1 < g := fun g off e => by have := hlo1 g off e; simp at this; omega
  have ga3 : ∀ g off, oa3 = some ⟨g, off, none⟩ → w.heap.size + 1 < g := fun g off e => by have := hlo3 g off e; omega
  have hsel : Hid (d.newestOf = a) ∧ b.ok = false ∨ Hid (d.newestOf = b) ∧ b.ok = true ∧ a.ok = false ∨ Hid (d.newestOf = b) ∧ b.ok = true ∧ a.ok = true ∧ a.gen < b.gen ∨ Hid (d.newestOf = a) ∧ b.ok = true ∧ a.ok = true ∧ ¬ (a.gen < b.gen) := by
    cases hbo : b.ok with
    | false => exact Or.inl ⟨hn.out.trans (if_neg (fun e => by rw [hbo] at e; cases e.1)), rfl⟩
    | true =>
      cases hao : a.ok with
      | false => exact Or.inr (Or.inl ⟨hn.out.trans (if_pos ⟨hbo, Or.inl hao⟩), rfl, rfl⟩)
      | true =>
        by_cases hg : a.gen < b.gen
        · exact Or.inr (Or.inr (Or.inl ⟨hn.out.trans (if_pos ⟨hbo, Or.inr hg⟩), rfl, rfl, hg⟩))
        · exact Or.inr (Or.inr (Or.inr ⟨hn.out.trans (if_neg (fun e => by rcases e.2 with e | e; · rw [hao] at e; cases e
                                                                          · exact hg e)), rfl, rfl, hg⟩))
  clear hn
  rcases hsel with ⟨hs, hbo⟩ | ⟨hs, hbo, hao⟩ | ⟨hs, hbo, hao, hg⟩ | ⟨hs, hbo, hao, hg⟩
  · rw [hbo] at q0
    go_upto_region 99 with fail
    obtain ⟨r0, r1, r2, r3, K⟩ := retV4 hR4 (.bool a.ok) (.int .i64 a.gen) (.int .i64 a.slot) (.slice oa1 a.bytes.length c1)
    exact bodyPost_ret (v := .agg #[.bool a.ok, .int .i64 a.gen, .int .i64 a.slot, .slice oa1 a.bytes.length c1]) (by simp [results, Try.results119, go_sem, r0, r1, r2, r3]) rfl ⟨oa1, c1, by rw [hs.out], (by show _ ≤ c1; rw [hs.out]; exact hcp1.out), by rw [hs.out]; exact (hfin a oa1 c1 _ hat4 ga1 _ K).1, (hfin a oa1 c1 _ hat4 ga1 _ K).2⟩
  · rw [hbo] at q0; rw [hao] at p0
    go_upto_region 99 with fail
    obtain ⟨r0, r1, r2, r3, K⟩ := retV4 hR4 (.bool true) (.int .i64 b.gen) (.int .i64 b.slot) (.slice oa3 b.bytes.length c3)
    exact bodyPost_ret (v := .agg #[.bool true, .int .i64 b.gen, .int .i64 b.slot, .slice oa3 b.bytes.length c3]) (by simp [results, Try.results119, go_sem, r0, r1, r2, r3]) rfl ⟨oa3, c3, by rw [hs.out]; simp only [KK.val, hbo], (by show _ ≤ c3; rw [hs.out]; exact hcp3.out), by rw [hs.out]; exact (hfin b oa3 c3 _ hbt4 ga3 _ K).1, (hfin b oa3 c3 _ hbt4 ga3 _ K).2⟩
  · rw [hbo] at q0; rw [hao] at p0
    go_upto_region 99 with fail
    obtain ⟨r0, r1, r2, r3, K⟩ := retV4 hR4 (.bool true) (.int .i64 b.gen) (.int .i64 b.slot) (.slice oa3 b.bytes.length c3)
    exact bodyPost_ret (v := .agg #[.bool true, .int .i64 b.gen, .int .i64 b.slot, .slice oa3 b.bytes.length c3]) (by simp [results, Try.results119, go_sem, r0, r1, r2, r3]) rfl ⟨oa3, c3, by rw [hs.out]; simp only [KK.val, hbo], (by show _ ≤ c3; rw [hs.out]; exact hcp3.out), by rw [hs.out]; exact (hfin b oa3 c3 _ hbt4 ga3 _ K).1, (hfin b oa3 c3 _ hbt4 ga3 _ K).2⟩
  · rw [hbo] at q0; rw [hao] at p0
    go_upto_region 99 with fail
    obtain ⟨r0, r1, r2, r3, K⟩ := retV4 hR4 (.bool true) (.int .i64 a.gen) (.int .i64 a.slot) (.slice oa1 a.bytes.length c1)
    exact bodyPost_ret (v := .agg #[.bool true, .int .i64 a.gen, .int .i64 a.slot, .slice oa1 a.bytes.length c1]) (by simp [results, Try.results119, go_sem, r0, r1, r2, r3]) rfl ⟨oa1, c1, by rw [hs.out]; simp only [KK.val, hao], (by show _ ≤ c1; rw [hs.out]; exact hcp1.out), by rw [hs.out]; exact (hfin a oa1 c1 _ hat4 ga1 _ K).1, (hfin a oa1 c1 _ hat4 ga1 _ K).2⟩

end Go.Proofs.Ythjddpkegooobab

/-
  SNEWEST: the specification's Newest. Own work.
-/
namespace Go.Proofs.Ythjddpkegooobab
open Go.RowKit

set_option maxHeartbeats 1000000 in
set_option maxRecDepth 100000 in
theorem specNewest_any (d : DD) (l : DL) (w : World) (hd : d.Ok) (ha : DAt w l d) :
    Calls Try.prog 56 #[d.val l] w (KPost d.newest w) := by
  have hA := gal (gal (gre w) (.cells #[.slice l.ba d.blocks.length l.bc, .slice l.wa d.waiting.length l.wc] 50)) (.cells #[.bool false, .int .i64 0, .int .i64 0, .slice none 0 0] 82)
  have hX0 := (DBox.new w d l 50).grow (gal (gre _) (.cells #[.bool false, .int .i64 0, .int .i64 0, .slice none 0 0] 82))
  have hR0 := V4.new_at (w.alloc (.cells #[.slice l.ba d.blocks.length l.bc, .slice l.wa d.waiting.length l.wc] 50)) (.bool false) (.int .i64 0) (.int .i64 0) (.slice none 0 0) 82 (w.heap.size + 1) (by simp)
  cases hok : d.ok with
  | false =>
    have hok' : Hid _ := hok
    rw [show d.newest = noK from if_neg (by rw [hok]; simp)]
    clear hok
    go_enter Try.func56, Try.ntmps56
    go_upto_region 99 with (go_at_call 36; refine (specDiskOk_any d l _ hd (ha.grow hA)).mono ?_; rintro e w2 ⟨rfl, hb2⟩; rw [hok'.out]; have hR2 := hR0.grow hb2; obtain ⟨_, z0, z1, z2, z3, zf⟩ := id hR2)
    obtain ⟨c0, c1, c2, c3, K⟩ := retV4 hR2 (.bool false) (.int .i64 0) (.int .i64 0) (.slice none 0 0)
    exact bodyPost_ret (v := noK.val none 0) (by simp [results, Try.results56, go_sem, c0, c1, c2, c3, noK]) rfl (KPost.no ((gca hA hb2).trans (K.below (B := w.heap.size) (gca hA hb2).size (fun k hk e => by omega))))
  | true =>
    have hok' : Hid _ := hok
    rw [show d.newest = d.newestOf from if_pos hok]
    clear hok
    obtain ⟨k, hk⟩ := hid_ex d.newestOf
    rw [← hk.out]
    go_enter Try.func56, Try.ntmps56
    go_upto_region 99 with (first
      | (go_at_call 36; refine (specDiskOk_any d l _ hd (ha.grow hA)).mono ?_; rintro e w2 ⟨rfl, hb2⟩; rw [hok'.out]; obtain ⟨_, x0, x1⟩ := hX0.grow hb2)
      | (go_at_call 119; refine (l4newest_any d l _ (DD.fit hok'.out) hd (ha.grow (gca hA hb2))).mono ?_; rw [← hk.out]; rintro e w3 ⟨oa, c, rfl, hcp, hbt, hlo, hb3⟩; have hR3 := (hR0.grow hb2).grow hb3; obtain ⟨_, z0, z1, z2, z3, zf⟩ := id hR3))
    obtain ⟨c0, c1, c2, c3, K⟩ := retV4 hR3 (.bool k.ok) (.int .i64 k.gen) (.int .i64 k.slot) (.slice oa k.bytes.length c)
    have hB3 := gca (gca hA hb2) hb3
    have hl2 := (hR0.grow hb2).lt
    exact bodyPost_ret (v := k.val oa c) (by simp [results, Try.results56, go_sem, c0, c1, c2, c3]) rfl ⟨oa, c, rfl, hcp, hbt.keptH K (fun g off e hp => by have := hlo g off e; omega), fun g off e => (by have := hlo g off e; omega), hB3.trans (K.below (B := w.heap.size) hB3.size (fun k hk e => by omega))⟩

end Go.Proofs.Ythjddpkegooobab

/-
  DSZ: the laws' sizes of disks. Own work.
-/
namespace Go.Proofs.Ythjddpkegooobab
open Go.RowKit

set_option maxRecDepth 100000 in
theorem szByteS_any (a : Option Addr) (n cap : Nat) (left : Int) (w : World) (hl : n ≤ maxLen) (h0 : 0 ≤ left) (h1 : left ≤ 1048576) :
    Calls Try.prog 152 #[.slice a n cap, .int .i64 left] w fun e w' => e = .returned (.int .i64 (leftBy left n)) ∧ Below w.heap.size w w' := by
  unfold maxLen at hl
  go_enter Try.func152, Try.ntmps152
  go_wp2
  all_goals go_ret
  · exact ⟨ret_int (leftBy_neg (by assumption)).symm, gre _⟩
  · exact ⟨ret_int (leftBy_pos (Int.not_lt.2 (by assumption))).symm, gre _⟩

set_option maxRecDepth 100000 in
theorem szByteSS_any (a : Option Addr) (cap : Nat) (vs : List (List Nat)) (left : Int) (w : World) (hl : vs.length ≤ maxLen) (hv : ∀ v, v ∈ vs → v.length ≤ maxLen) (h0 : 0 ≤ left) (h1 : left ≤ 1048576) (ha : BlksAt w a vs) :
    Calls Try.prog 97 #[.slice a vs.length cap, .int .i64 left] w fun e w' => e = .returned (.int .i64 (leftBy left (vs.length + szBs vs))) ∧ Below w.heap.size w w' := by
  unfold maxLen at hl
  have hsn := szBs_nonneg vs
  go_enter Try.func97, Try.ntmps97
  go_wp2
  · go_ret
    exact ⟨ret_int (leftBy_neg (by omega)).symm, gre _⟩
  go_loopw [1, 5] (fun l i wr => ∃ k : Nat, k ≤ vs.length ∧ i = .int .i64 k ∧ l = .int .i64 (left - vs.length - szBs (vs.take k)) ∧ 0 ≤ left - vs.length - szBs (vs.take k) ∧ Below w.heap.size w wr) (fun _ i _ => vs.length - (intOf i).toNat)
  case atStart => exact ⟨0, Nat.zero_le _, rfl, by simp [szBs], by simp [szBs]; omega, gre _⟩
  case round =>
    obtain ⟨k, hk, rfl, rfl, hpos, hb⟩ := hrel
    by_cases hlt : k < vs.length
    · obtain ⟨v, b, off, a', c', hvk, hvm, rfl, hc, hva⟩ := (ha.grow hb).get hlt
      have hstep : Hid (szBs (vs.take (k + 1)) = szBs (vs.take k) + v.length) := by rw [hvk.out]; exact szBs_take_succ vs k hlt
      have hle := szBs_take_le vs (k + 1)
      have hn0 := szBs_nonneg (vs.take k)
      go_wp2_with (go_at_call 152; refine (szByteS_any a' v.length c' _ _ (hv v hvm) (by omega) (by omega)).mono ?_; rintro e w' ⟨rfl, hb'⟩)
      · go_ret
        have hn := leftBy_of_neg (by assumption)
        have hs := hstep.out
        exact ⟨ret_int (leftBy_neg (by omega)).symm, gca hb hb'⟩
      · have hn := leftBy_of_nonneg (by assumption)
        have hs := hstep.out
        go_roundw
        case rel => exact ⟨k + 1, by omega, by go_num, by rw [hn.1, hs]; go_num, by omega, gca hb hb'⟩
        case measure => simp [intOf]; omega
    · go_wp2
      go_ret
      have e : k = vs.length := by omega
      subst e
      rw [List.take_length] at hpos
      exact ⟨ret_int (by rw [List.take_length, leftBy_pos (by omega)]; omega), hb⟩

set_option maxRecDepth 100000 in
theorem szWrite_any (x : DW) (a : Option Addr) (cap : Nat) (left : Int) (w : World) (hl : x.bytes.length ≤ maxLen) (h0 : 0 ≤ left) (h1 : left ≤ 1048576) :
    Calls Try.prog 153 #[x.val a cap, .int .i64 left] w fun e w' => e = .returned (.int .i64 (leftBy left x.bytes.length)) ∧ Below w.heap.size w w' := by
  go_enter Try.func153, Try.ntmps153
  go_wp2_with (go_at_call 152; refine (szByteS_any a x.bytes.length cap _ _ hl h0 h1).mono ?_; rintro e w' ⟨rfl, hb'⟩)
  · go_ret
    have hneg := leftBy_of_neg (by assumption)
    exact ⟨ret_int (leftBy_neg (by omega)).symm, gca (gal (gre _) _) hb'⟩
  · go_ret
    exact ⟨rfl, gca (gal (gre _) _) hb'⟩

set_option maxRecDepth 100000 in
theorem szWriteS_any (a : Option Addr) (cap : Nat) (vs : List DW) (left : Int) (w : World) (hl : vs.length ≤ maxLen) (hv : ∀ v, v ∈ vs → v.bytes.length ≤ maxLen) (h0 : 0 ≤ left) (h1 : left ≤ 1048576) (ha : WrsAt w a vs) :
    Calls Try.prog 98 #[.slice a vs.length cap, .int .i64 left] w fun e w' => e = .returned (.int .i64 (leftBy left (vs.length + szWs vs))) ∧ Below w.heap.size w w' := by
  unfold maxLen at hl
  have hsn := szWs_nonneg vs
  go_enter Try.func98, Try.ntmps98
  go_wp2
  · go_ret
    exact ⟨ret_int (leftBy_neg (by omega)).symm, gre _⟩
  go_loopw [1, 5] (fun l i wr => ∃ k : Nat, k ≤ vs.length ∧ i = .int .i64 k ∧ l = .int .i64 (left - vs.length - szWs (vs.take k)) ∧ 0 ≤ left - vs.length - szWs (vs.take k) ∧ Below w.heap.size w wr) (fun _ i _ => vs.length - (intOf i).toNat)
  case atStart => exact ⟨0, Nat.zero_le _, rfl, by simp [szWs], by simp [szWs]; omega, gre _⟩
  case round =>
    obtain ⟨k, hk, rfl, rfl, hpos, hb⟩ := hrel
    by_cases hlt : k < vs.length
    · obtain ⟨v, b, off, a', c', hvk, hvm, rfl, hc, hc2, hva⟩ := (ha.grow hb).get hlt
      have hstep : Hid (szWs (vs.take (k + 1)) = szWs (vs.take k) + v.bytes.length) := by rw [hvk.out]; exact szWs_take_succ vs k hlt
      have hle := szWs_take_le vs (k + 1)
      have hn0 := szWs_nonneg (vs.take k)
      go_wp2_with (go_at_call 153; refine (szWrite_any v a' c' _ _ (hv v hvm) (by omega) (by omega)).mono ?_; rintro e w' ⟨rfl, hb'⟩)
      · go_ret
        have hn := leftBy_of_neg (by assumption)
        have hs := hstep.out
        exact ⟨ret_int (leftBy_neg (by omega)).symm, gca hb hb'⟩
      · have hn := leftBy_of_nonneg (by assumption)
        have hs := hstep.out
        go_roundw
        case rel => exact ⟨k + 1, by omega, by go_num, by rw [hn.1, hs]; go_num, by omega, gca hb hb'⟩
        case measure => simp [intOf]; omega
    · go_wp2
      go_ret
      have e : k = vs.length := by omega
      subst e
      rw [List.take_length] at hpos
      exact ⟨ret_int (by rw [List.take_length, leftBy_pos (by omega)]; omega), hb⟩

set_option maxRecDepth 100000 in
theorem szDisk_any (d : DD) (l : DL) (left : Int) (w : World) (hd : d.Ok) (h0 : 0 ≤ left) (h1 : left ≤ 1048576) (ha : DAt w l d) :
    Calls Try.prog 35 #[d.val l, .int .i64 left] w fun e w' => e = .returned (.int .i64 (leftBy left d.sz)) ∧ Below w.heap.size w w' := by
  have hz : Hid (d.sz = (d.blocks.length + szBs d.blocks) + (d.waiting.length + szWs d.waiting)) := rfl
  have hrz := szBs_nonneg d.blocks
  have hnz := szWs_nonneg d.waiting
  go_enter Try.func35, Try.ntmps35
  go_wp2_with (go_at_call 97; refine (szByteSS_any l.ba l.bc d.blocks _ _ hd.bl (fun v hv => (hd.bb v hv).len) h0 h1 (ha.b.grow (gal (gre _) _))).mono ?_; rintro e w' ⟨rfl, hb'⟩; obtain ⟨hc, hf⟩ := bcell hb')
  · go_ret
    have hneg := leftBy_of_neg (by assumption)
    have := hz.out
    exact ⟨ret_int (leftBy_neg (by omega)).symm, gca (gal (gre _) _) hb'⟩
  · have hnn := leftBy_of_nonneg (by assumption)
    have hB : Below w.heap.size w w' := gca (gal (gre _) _) hb'
    have hle : leftBy left (d.blocks.length + szBs d.blocks) ≤ 1048576 := by omega
    have hge : 0 ≤ leftBy left (d.blocks.length + szBs d.blocks) := by omega
    have hnn' : Hid _ := hnn
    clear hnn
    go_wp2_with (go_at_call 98; refine (szWriteS_any l.wa l.wc d.waiting _ _ hd.wl (fun v hv => (hd.wb v hv).len) hge hle (ha.w.grow hB)).mono ?_; rintro e w'' ⟨rfl, hb''⟩)
    · go_ret
      have hneg := leftBy_of_neg (by assumption)
      have := hz.out
      have := hnn'.out
      exact ⟨ret_int (leftBy_neg (by omega)).symm, gca hB hb''⟩
    · go_ret
      have h1 := leftBy_of_nonneg (by assumption)
      have := hz.out
      have := hnn'.out
      exact ⟨ret_int (by rw [h1.1, leftBy_pos (s := d.sz) (by omega)]; omega), gca hB hb''⟩

end Go.Proofs.Ythjddpkegooobab

/-
  BYTESA: the laws' bytes. Own work.
-/
namespace Go.Proofs.Ythjddpkegooobab
open Go.RowKit

set_option maxRecDepth 100000 in
theorem toByteS_any (a : Option Addr) (bs : List Nat) (cap : Nat) (w : World) (hl : bs.length ≤ 1048576) (ha : BytesAt w a bs) :
    Calls Try.prog 25 #[.slice a bs.length cap] w fun e w' => ∃ b, e = .returned (.slice (some ⟨b, 0, none⟩) bs.length bs.length) ∧ w.heap.size ≤ b ∧ BRow w' b bs.length bs ∧ Below w.heap.size w w' := by
  obtain ⟨i0, hi, hz0, hz1, hz2⟩ := info_parts info_u8
  have hmk : ∀ u : World, (Instr.makeSlice 28 (.int .i64 (bs.length : Int)) (.int .i64 (bs.length : Int))).run Try.prog u =
      .ok (.slice (some ⟨u.heap.size, 0, none⟩) bs.length bs.length) (u.alloc (.cells (madeCells #[.int .u8 0] bs.length) 5)) := fun u => by
    have h := run_make (P := Try.prog) u 28 5 i0 _ Try.underlying28 hi hz0 .i64 .i64 (bs.length : Int) (bs.length : Int) (by omega) (Int.le_refl _) (by rw [hz2]; omega) (by omega)
    simpa [hz1, Value.cells] using h
  go_enter Try.func25, Try.ntmps25
  go_wp2
  go_loopw [4] (fun i wr => ∃ (k : Nat) (f : Nat → Value), k ≤ bs.length ∧ i = .int .i64 k ∧ wr.rowIs w.heap.size 5 bs.length f ∧ (∀ j, j < k → f j = .int .u8 ((bs[j]! : Nat) : Int)) ∧ Below w.heap.size w wr) (fun i _ => bs.length - (intOf i).toNat)
  case atStart => exact ⟨0, _, Nat.zero_le _, rfl, rowIs_made_any _ _ _ _, fun i hi => absurd hi (Nat.not_lt_zero _), (Below.refl _ _).alloc (Nat.le_refl _) _⟩
  case round =>
    obtain ⟨k, f, hk, rfl, hrow, hin, hb⟩ := hrel
    by_cases hlt : k < bs.length
    · obtain ⟨x, b, off, hxk, hxm, rfl, hc⟩ := (ha.grow hb).get hlt
      have d0 := hrow.cell hlt
      have f0 := hrow.frozen
      go_wp2
      go_roundw
      case rel =>
        refine ⟨k + 1, _, by omega, by go_num, hrow.set _ _, fun j hj => ?_, hb.setCell (Nat.le_refl _) _⟩
        show (if j = k then _ else _) = _
        split
        · rename_i e; rw [e, ← hxk.out]
        · exact hin j (by omega)
      case measure => simp [intOf]; omega
    · go_wp2
      go_ret
      have e : k = bs.length := by omega
      subst e
      exact ⟨_, rfl, Nat.le_refl _, BRow.of_row hrow (Nat.le_refl _) hin, hb⟩

set_option maxRecDepth 100000 in
theorem eqByteS_same (a a' : Option Addr) (bs : List Nat) (cap cap' : Nat) (w : World) (hl : bs.length ≤ maxLen) (ha : BytesAt w a bs) (ha' : BytesAt w a' bs) :
    Calls Try.prog 19 #[.slice a bs.length cap, .slice a' bs.length cap'] w fun e w' => e = .returned (.bool true) ∧ Below w.heap.size w w' := by
  unfold maxLen at hl
  have hne : ((bs.length : Int) != (bs.length : Int)) = false := by simp
  go_enter Try.func19, Try.ntmps19
  go_wp2
  go_loopw [5] (fun i wr => ∃ (k : Nat), k ≤ bs.length ∧ i = .int .i64 k ∧ Below w.heap.size w wr) (fun i _ => bs.length - (intOf i).toNat)
  case atStart => exact ⟨0, Nat.zero_le _, rfl, gre _⟩
  case round =>
    obtain ⟨k, hk, rfl, hb⟩ := hrel
    by_cases hlt : k < bs.length
    · obtain ⟨x, b, off, hxk, hxm, rfl, hc⟩ := (ha.grow hb).get hlt
      obtain ⟨y, b', off', hyk, hym, rfl, hc'⟩ := (ha'.grow hb).get hlt
      obtain rfl : y = x := by rw [hyk.out, hxk.out]
      have hn2 : ((y : Int) != (y : Int)) = false := by simp
      go_wp2_with (go_quiet (fail))
      go_roundw
      case rel => exact ⟨k + 1, by omega, by go_num, hb.trans ⟨rfl, rfl, rfl, Nat.le_refl _, fun _ _ => rfl⟩⟩
      case measure => simp [intOf]; omega
    · go_wp2
      go_ret
      exact ⟨rfl, hb⟩

end Go.Proofs.Ythjddpkegooobab
