/-
  PLACE: a thing's place among those met. Own work.
-/
import Derived.Test.YthjddpkegooobaaPtrMap
import Derived.Test.YthjddpkegooobaaCanonPlain
import Derived.Test.YthjddpkegooobaaLinked2
namespace Go.Proofs.Ythjddpkegooobaa
open Go.RowKit

set_option maxRecDepth 100000 in
theorem zero_int (w : World) : (zeroValue 3).run Try.prog w = .ok (.int .i64 0) w := by kernel_rfl
theorem info_struct_thing : (Try.prog.info? 142).map (fun i => i.size) = some 2 := by kernel_rfl

/-- the meeting: its map and its list -/
structure Meet (w : World) (tb : Nat → Nat) (M mb base : Nat) (ord : List Nat) (ma : Option Addr) (mc : Nat) : Prop where
  lt : M < w.heap.size
  c0 : w.cell? ⟨M, 0, none⟩ = some (.map (some mb))
  c1 : w.cell? ⟨M, 1, none⟩ = some (.slice ma ord.length mc)
  f : ∀ o, w.frozen? ⟨M, o, none⟩ = false
  map : PMap w mb (ord.map tb)
  met : w.ownsRow base 139 1 (.slice ma ord.length mc) ord.length (ord.map fun x => ptr (tb x))
  mlt : M < base ∧ mb < base ∧ M ≠ mb

set_option maxRecDepth 100000 in
theorem Meet.kept {p : Nat → Prop} {w w' : World} {tb : Nat → Nat} {M mb base : Nat} {ord : List Nat} {ma : Option Addr} {mc : Nat} (h : Meet w tb M mb base ord ma mc) (k : Kept p w w') (h1 : ¬ p M) (h2 : ¬ p mb) (h3 : ∀ b, ma = some ⟨b, 0, none⟩ → ¬ p b) : Meet w' tb M mb base ord ma mc :=
  ⟨Nat.lt_of_lt_of_le h.lt k.size, k.cell h.c0 h1, k.cell h.c1 h1, fun o => (World.frozen?_of_block (w := w) (k.block M h.lt h1)).trans (h.f o), h.map.kept k h2, k.owns h.met (fun b hb => h3 b (owns_addr h.met hb)), h.mlt⟩

def addOrd (ord : List Nat) (x : Nat) : List Nat := if x ∈ ord then ord else ord ++ [x]

/-- what asking for a place leaves -/
def PlacePost (w : World) (tb : Nat → Nat) (M mb base : Nat) (ord : List Nat) (x : Nat) (ma : Option Addr) (e : Ending) (w' : World) : Prop :=
  ∃ ma' mc', e = .returned (.int .i64 ((addOrd ord x).idxOf x : Nat)) ∧ Meet w' tb M mb base (addOrd ord x) ma' mc' ∧ (ma' = ma ∨ ∃ b, ma' = some ⟨b, 0, none⟩ ∧ w.heap.size ≤ b) ∧ Kept (fun k => k = M ∨ k = mb ∨ ma = some ⟨k, 0, none⟩) w w'

set_option maxRecDepth 100000 in
theorem idxOf_map {tb : Nat → Nat} {n : Nat} (hinj : ∀ i j, i < n → j < n → tb i = tb j → i = j) : ∀ (ord : List Nat) (x : Nat), (∀ y, y ∈ ord → y < n) → x < n → (ord.map tb).idxOf (tb x) = ord.idxOf x
  | [], _, _, _ => rfl
  | y :: r, x, h, hx => by
    have hy := h y (List.mem_cons_self ..)
    have ih := idxOf_map hinj r x (fun z hz => h z (List.mem_cons_of_mem _ hz)) hx
    rw [List.map_cons, List.idxOf_cons, List.idxOf_cons, ih]
    by_cases e : y = x
    · subst e; simp
    · have e2 : ¬ tb y = tb x := fun e2 => e (hinj y x hy hx e2)
      rw [beq_false_of_ne e, beq_false_of_ne e2]
set_option maxRecDepth 100000 in
theorem mem_map_tb {tb : Nat → Nat} {n : Nat} (hinj : ∀ i j, i < n → j < n → tb i = tb j → i = j) {ord : List Nat} {x : Nat} (h : ∀ y, y ∈ ord → y < n) (hx : x < n) : tb x ∈ ord.map tb ↔ x ∈ ord := by
  constructor
  · intro hm
    obtain ⟨y, hy, e⟩ := List.mem_map.1 hm
    exact hinj y x (h y hy) hx e ▸ hy
  · intro hm; exact List.mem_map.2 ⟨x, hm, rfl⟩
set_option maxRecDepth 100000 in
theorem nodup_map_tb {tb : Nat → Nat} {n : Nat} (hinj : ∀ i j, i < n → j < n → tb i = tb j → i = j) : ∀ {ord : List Nat}, ord.Nodup → (∀ y, y ∈ ord → y < n) → (ord.map tb).Nodup
  | [], _, _ => List.nodup_nil
  | y :: r, hd, h => by
    rw [List.map_cons, List.nodup_cons]
    rw [List.nodup_cons] at hd
    exact ⟨fun hm => hd.1 ((mem_map_tb hinj (fun z hz => h z (List.mem_cons_of_mem _ hz)) (h y (List.mem_cons_self ..))).1 hm), nodup_map_tb hinj hd.2 (fun z hz => h z (List.mem_cons_of_mem _ hz))⟩

set_option maxRecDepth 100000 in
theorem placeOf_old (n : Nat) (tb : Nat → Nat) (M mb base : Nat) (ord : List Nat) (x : Nat) (ma : Option Addr) (mc : Nat) (w : World) (hinv : InvO n ord) (hx : x < n) (_hn : n ≤ 300) (hinj : ∀ i j, i < n → j < n → tb i = tb j → i = j)
    (hcells : ∀ i, i < n → CellsAt w (tb i)) (hM : Meet w tb M mb base ord ma mc) (hm : x ∈ ord) :
    Calls Try.prog 146 #[ptr M, ptr (tb x)] w (PlacePost w tb M mb base ord x ma) := by
  obtain ⟨i0, hi0, hi1⟩ := Option.map_eq_some_iff.1 info_struct_thing
  have hlk := run_lookup_some (P := Try.prog) (tm := 133) (ti := 3) hM.map Try.underlying133 Try.underlying139 hi0 (by omega) (hcells x hx) (fun c hc => by obtain ⟨y, hy, rfl⟩ := List.mem_map.1 hc; exact hcells y (hinv.2 y hy)) (nodup_map_tb hinj hinv.1 hinv.2) ((mem_map_tb hinj hinv.2 hx).2 hm)
  rw [idxOf_map hinj ord x hinv.2 hx] at hlk
  have c0 := hM.c0
  have hml := hM.lt
  have e1 : Hid (addOrd ord x = ord) := if_pos hm
  go_enter Try.func146, Try.ntmps146
  go_wp2
  go_ret
  exact ⟨ma, mc, by rw [e1.out]; rfl, by rw [e1.out]; exact hM, Or.inl rfl, Kept.refl _ _⟩

set_option maxRecDepth 100000 in
theorem placeOf_new (n : Nat) (tb : Nat → Nat) (M mb base : Nat) (ord : List Nat) (x : Nat) (ma : Option Addr) (mc : Nat) (w : World) (hinv : InvO n ord) (hx : x < n) (hn : n ≤ 300) (hinj : ∀ i j, i < n → j < n → tb i = tb j → i = j)
    (hcells : ∀ i, i < n → CellsAt w (tb i)) (hM : Meet w tb M mb base ord ma mc) (hbase : base ≤ w.heap.size) (hm : x ∉ ord) :
    Calls Try.prog 146 #[ptr M, ptr (tb x)] w (PlacePost w tb M mb base ord x ma) := by
  obtain ⟨i0, hi0, hi1⟩ := Option.map_eq_some_iff.1 info_struct_thing
  obtain ⟨t0, ht, hz0, hz1, hz2⟩ := info_parts info_thing
  have hol := hinv.le
  have hks : ∀ c, c ∈ ord.map tb → CellsAt w c := fun c hc => by obtain ⟨y, hy, rfl⟩ := List.mem_map.1 hc; exact hcells y (hinv.2 y hy)
  have hnm : tb x ∉ ord.map tb := fun h => hm ((mem_map_tb hinj hinv.2 hx).1 h)
  have hlk := run_lookup_none (P := Try.prog) (tm := 133) (ti := 3) hM.map Try.underlying133 Try.underlying139 hi0 (by omega) (zero_int w) (hcells x hx) hks hnm
  obtain ⟨w1, hup, hP1, hK1, hsz1⟩ := run_update_new (P := Try.prog) (tm := 133) (ti := 3) hM.map Try.underlying133 Try.underlying139 hi0 (by omega) (hcells x hx) hks hnm
  rw [List.length_map] at hup
  have c0 := hM.c0
  have c1 := hM.c1
  have hml := hM.lt
  obtain ⟨m1, m2, m3⟩ := hM.mlt
  have hmb : ∀ b, ma = some ⟨b, 0, none⟩ → base ≤ b ∧ b < w.heap.size := fun b hb => hM.met.lt b (by rw [hb]; rfl)
  have d0 := hK1.cell c0 m3
  have d1 := hK1.cell c1 m3
  have hown : w1.ownsRow base 139 1 (.slice ma ord.length mc) ord.length (ord.map fun x => ptr (tb x)) := hK1.owns hM.met (fun b hb => by have := hmb b (owns_addr hM.met hb); omega)
  have hml1 : M < w1.heap.size := by omega
  have hbw1 : base ≤ w1.heap.size := by omega
  have hown' : Hid _ := hown
  have hsz' : Hid _ := hsz1
  have hf1 : ∀ o, w1.frozen? ⟨M, o, none⟩ = false := fun o => (World.frozen?_of_block (w := w) (hK1.block M hml m3)).trans (hM.f o)
  have e1 : Hid (addOrd ord x = ord ++ [x]) := if_neg hm
  have hP1' : Hid _ := hP1
  clear hown hsz1 hks hnm hP1
  go_enter Try.func146, Try.ntmps146
  go_wp2_with (at_builtin; go_must (refine wpList_append_lies _ rfl (.tmp 33) (.tmp 35) 134 rfl base 139 t0 (.pointer none) 1 8 Try.underlying134 ht hz0 hz1 hz2 rfl (by decide) (.slice ma ord.length mc) ord.length _ rfl (World.ownsRow.alloc hown'.out _) ⟨w1.heap.size, 0, none⟩ 1 1 [ptr (tb x)] rfl rfl (World.news_of_block (cs := #[ptr (tb x)]) (t := 139) (fr := (0, 0)) (blk_new_at _ _ _ rfl)) (by simp [Value.oneCell']) (by decide) (by unfold maxLen; omega) (by omega) (by simp; omega) (w1.heap.size + 1) (by simp) ?_); intro gg cc w3 hown3 hgrow3 hat3 hlt3; have hq := ((Kept.refl (fun b => (Value.slice ma ord.length mc).ownBlock = some b) w1).alloc (.cells #[ptr (tb x)] 139)).trans (Kept.of_grown hgrow3) (fun _ _ e => e); have g1 := hq.cell d1 (fun hp => by have := hmb M (owns_addr hM.met hp); omega); have gf := fun o => (World.frozen?_of_block (w := w1) (hq.block M hml1 (fun hp => by have := hmb M (owns_addr hM.met hp); omega))).trans (hf1 o))
  have hix : Hid ((ord ++ [x]).idxOf x = ord.length) := by show (ord ++ [x]).idxOf x = ord.length; rw [List.idxOf_append, if_neg hm]; simp
  have hC := (Kept.refl (fun b => b = M) w3).set (a := ⟨M, 1, none⟩) (fun _ => rfl) (.slice (some ⟨gg, 0, none⟩) (ord.length + 1) cc)
  have hgg : base ≤ gg := (hown3.lt gg rfl).1
  have hsz := hsz'.out
  have hgor : (some ⟨gg, 0, none⟩ : Option Addr) = ma ∨ w.heap.size ≤ gg := by
    rcases hat3 with e | e
    · exact Or.inl (owns_addr hM.met e).symm
    · exact Or.inr (by omega)
  go_ret
  refine ⟨some ⟨gg, 0, none⟩, cc, by rw [e1.out, hix.out]; rfl, ?_, hgor.imp id (fun h => ⟨gg, rfl, h⟩), ?_⟩
  · rw [e1.out]
    refine ⟨by have h1 := hq.size; have h2 := hC.size; omega, ?_, ?_, fun o => ?_, ?_, ?_, m1, m2, m3⟩
    · rw [World.cell?_setCell_other _ _ _ _ (by simp)]; exact hq.cell d0 (fun hp => by have := hmb M (owns_addr hM.met hp); omega)
    · rw [World.cell?_setCell_same _ _ _ g1]; simp
    · rw [World.frozen?_setCell]; exact gf o
    · have h1 := (PMap.kept hP1'.out hq (fun hp => by have := hmb mb (owns_addr hM.met hp); omega)).kept hC (fun e => m3 e.symm)
      simpa using h1
    · have h1 := hC.owns hown3 (fun b hb hp => by have := (hown3.lt b hb).1; omega)
      simpa using h1
  · refine ((hK1.mono (q := fun k => k = M ∨ k = mb ∨ ma = some ⟨k, 0, none⟩) (fun k _ e => Or.inr (Or.inl e))).trans hq (fun k hk hp => Or.inr (Or.inr (owns_addr hM.met hp)))).trans hC (fun k hk hp => Or.inl hp)

set_option maxRecDepth 100000 in
theorem placeOf_any (n : Nat) (tb : Nat → Nat) (M mb base : Nat) (ord : List Nat) (x : Nat) (ma : Option Addr) (mc : Nat) (w : World) (hinv : InvO n ord) (hx : x < n) (hn : n ≤ 300) (hinj : ∀ i j, i < n → j < n → tb i = tb j → i = j)
    (hcells : ∀ i, i < n → CellsAt w (tb i)) (hM : Meet w tb M mb base ord ma mc) (hbase : base ≤ w.heap.size) :
    Calls Try.prog 146 #[ptr M, ptr (tb x)] w (PlacePost w tb M mb base ord x ma) := by
  by_cases hm : x ∈ ord
  · exact placeOf_old n tb M mb base ord x ma mc w hinv hx hn hinj hcells hM hm
  · exact placeOf_new n tb M mb base ord x ma mc w hinv hx hn hinj hcells hM hbase hm

end Go.Proofs.Ythjddpkegooobaa
