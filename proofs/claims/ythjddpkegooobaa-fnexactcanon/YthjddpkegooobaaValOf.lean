/-
  VALOF: a value taken back from behind its interface. Own work.
-/
import Derived.Test.YthjddpkegooobaaPlace
import Derived.Test.YthjddpkegooobaaClone
namespace Go.Proofs.Ythjddpkegooobaa
open Go.RowKit

set_option maxRecDepth 100000 in
theorem method_num (m : Int) (w : World) : (method 316 177 (.int .i64 m) "loop.example/chest/impl.kind").run Try.prog w = .ok (186, .int .i64 m) w := by kernel_rfl
theorem method_bits (m : Int) (w : World) : (method 316 178 (.int .i64 m) "loop.example/chest/impl.kind").run Try.prog w = .ok (187, .int .i64 m) w := by kernel_rfl
theorem method_text (s : ByteArray) (w : World) : (method 316 179 (.string s) "loop.example/chest/impl.kind").run Try.prog w = .ok (188, .string s) w := by kernel_rfl
set_option maxRecDepth 100000 in
theorem method_thing (b : Nat) (w : World) : (method 316 139 (ptr b) "loop.example/chest/impl.kind").run Try.prog w = .ok (185, ptr b) w := by kernel_rfl
theorem method_nothing (w : World) : (method 316 182 (.agg #[]) "loop.example/chest/impl.kind").run Try.prog w = .ok (189, .agg #[]) w := by kernel_rfl

set_option maxRecDepth 100000 in
theorem ta_num_num (x : Value) (w : World) : (Instr.typeAssert (.iface 177 x) 80 177 true).run Try.prog w = .ok (.tuple #[x, .bool true]) w := by kernel_rfl
theorem ta_bits_num (x : Value) (w : World) : (Instr.typeAssert (.iface 178 x) 80 177 true).run Try.prog w = .ok (.tuple #[.int .i64 0, .bool false]) w := by kernel_rfl
theorem ta_bits_bits (x : Value) (w : World) : (Instr.typeAssert (.iface 178 x) 80 178 true).run Try.prog w = .ok (.tuple #[x, .bool true]) w := by kernel_rfl
set_option maxRecDepth 100000 in
theorem ta_text_num (x : Value) (w : World) : (Instr.typeAssert (.iface 179 x) 80 177 true).run Try.prog w = .ok (.tuple #[.int .i64 0, .bool false]) w := by kernel_rfl
theorem ta_text_bits (x : Value) (w : World) : (Instr.typeAssert (.iface 179 x) 80 178 true).run Try.prog w = .ok (.tuple #[.int .i64 0, .bool false]) w := by kernel_rfl
theorem ta_text_text (x : Value) (w : World) : (Instr.typeAssert (.iface 179 x) 80 179 true).run Try.prog w = .ok (.tuple #[x, .bool true]) w := by kernel_rfl
set_option maxRecDepth 100000 in
theorem ta_thing_num (x : Value) (w : World) : (Instr.typeAssert (.iface 139 x) 80 177 true).run Try.prog w = .ok (.tuple #[.int .i64 0, .bool false]) w := by kernel_rfl
theorem ta_thing_bits (x : Value) (w : World) : (Instr.typeAssert (.iface 139 x) 80 178 true).run Try.prog w = .ok (.tuple #[.int .i64 0, .bool false]) w := by kernel_rfl
theorem ta_thing_text (x : Value) (w : World) : (Instr.typeAssert (.iface 139 x) 80 179 true).run Try.prog w = .ok (.tuple #[.string .empty, .bool false]) w := by kernel_rfl
set_option maxRecDepth 100000 in
theorem ta_thing_thing (x : Value) (w : World) : (Instr.typeAssert (.iface 139 x) 80 139 true).run Try.prog w = .ok (.tuple #[x, .bool true]) w := by kernel_rfl
theorem ta_nothing_num (x : Value) (w : World) : (Instr.typeAssert (.iface 182 x) 80 177 true).run Try.prog w = .ok (.tuple #[.int .i64 0, .bool false]) w := by kernel_rfl
theorem ta_nothing_bits (x : Value) (w : World) : (Instr.typeAssert (.iface 182 x) 80 178 true).run Try.prog w = .ok (.tuple #[.int .i64 0, .bool false]) w := by kernel_rfl
set_option maxRecDepth 100000 in
theorem ta_nothing_text (x : Value) (w : World) : (Instr.typeAssert (.iface 182 x) 80 179 true).run Try.prog w = .ok (.tuple #[.string .empty, .bool false]) w := by kernel_rfl
theorem ta_nothing_thing (x : Value) (w : World) : (Instr.typeAssert (.iface 182 x) 80 139 true).run Try.prog w = .ok (.tuple #[.pointer none, .bool false]) w := by kernel_rfl

set_option maxRecDepth 100000 in
theorem valOf_num (M : Nat) (m : Int) (w : World) :
    Calls Try.prog 111 #[ptr M, .iface 177 (.int .i64 m)] w fun e w' => e = .returned (GV.mk 1 m ⟨#[]⟩ 0).val ∧ Below w.heap.size w w' := by
  have hme := method_num m
  have h1 := ta_num_num (.int .i64 m)
  go_enter Try.func111, Try.ntmps111
  go_wp2
  exact bodyPost_ret (v := (GV.mk 1 m ⟨#[]⟩ 0).val) (by simp [results, Try.results111, go_sem]) rfl ⟨rfl, gal (gal (gre _) _) _⟩

set_option maxRecDepth 100000 in
theorem valOf_bits (M : Nat) (m : Int) (w : World) :
    Calls Try.prog 111 #[ptr M, .iface 178 (.int .i64 m)] w fun e w' => e = .returned (GV.mk 2 m ⟨#[]⟩ 0).val ∧ Below w.heap.size w w' := by
  have hme := method_bits m
  have h1 := ta_bits_num (.int .i64 m)
  have h2 := ta_bits_bits (.int .i64 m)
  go_enter Try.func111, Try.ntmps111
  go_wp2
  exact bodyPost_ret (v := (GV.mk 2 m ⟨#[]⟩ 0).val) (by simp [results, Try.results111, go_sem]) rfl ⟨rfl, gal (gal (gre _) _) _⟩

set_option maxRecDepth 100000 in
theorem valOf_nothing (M : Nat) (w : World) :
    Calls Try.prog 111 #[ptr M, .iface 182 (.agg #[])] w fun e w' => e = .returned (GV.mk 0 0 ⟨#[]⟩ 0).val ∧ Below w.heap.size w w' := by
  have hme := method_nothing
  have h1 := ta_nothing_num (.agg #[])
  have h2 := ta_nothing_bits (.agg #[])
  have h3 := ta_nothing_text (.agg #[])
  have h4 := ta_nothing_thing (.agg #[])
  go_enter Try.func111, Try.ntmps111
  go_wp2
  exact bodyPost_ret (v := (GV.mk 0 0 ⟨#[]⟩ 0).val) (by simp [results, Try.results111, go_sem]) rfl ⟨rfl, gal (gal (gal (gre _) _) _) _⟩

set_option maxRecDepth 100000 in
theorem valOf_text (M : Nat) (s : ByteArray) (w : World) (hs : s.size ≤ 1000) :
    Calls Try.prog 111 #[ptr M, .iface 179 (.string s)] w fun e w' => e = .returned (GV.mk 3 0 s 0).val ∧ Below w.heap.size w w' := by
  have hme := method_text s
  have h1 := ta_text_num (.string s)
  have h2 := ta_text_bits (.string s)
  have h3 := ta_text_text (.string s)
  go_enter Try.func111, Try.ntmps111
  go_wp2_with (first | (go_at_call 145; refine (clone_any s _ hs).mono ?_; rintro e w' ⟨rfl, hb⟩; obtain ⟨z0, a0, a1, a2, a3, af⟩ := ((Four.new_at w ⟨0, 0, ⟨#[]⟩, 0⟩ 24 w.heap.size rfl).alloc _).kept (Kept.of_below hb (fun _ => False)) (fun e => e); obtain ⟨z1, b0, b1, b2, b3, bf⟩ := (Four.new_at _ ⟨3, 0, ⟨#[]⟩, 0⟩ 24 (w.heap.size + 1) (by simp)).kept (Kept.of_below hb (fun _ => False)) (fun e => e)) | go_in)
  refine bodyPost_ret (v := (GV.mk 3 0 s 0).val) (by simp [results, Try.results111, go_sem, a0, a1, a2, a3]) rfl ⟨rfl, ?_⟩
  exact gse (gse (gse (gse (gse (gca (gal (gal (gre _) _) _) hb) (by simp) _) (by simp) _) (by simp) _) (by simp) _) (by simp) _

/-- what taking a value back leaves -/
def ValPost (w : World) (tb : Nat → Nat) (M mb base : Nat) (ord : List Nat) (v : GV) (ma : Option Addr) (e : Ending) (w' : World) : Prop :=
  ∃ ma' mc', e = .returned (renVal ord v).val ∧ Meet w' tb M mb base (renOrd ord v) ma' mc' ∧ (ma' = ma ∨ ∃ b, ma' = some ⟨b, 0, none⟩ ∧ w.heap.size ≤ b) ∧ Kept (fun k => k = M ∨ k = mb ∨ ma = some ⟨k, 0, none⟩) w w'

set_option maxRecDepth 100000 in
theorem renOrd_add {ord : List Nat} {v : GV} (hk : v.kind = 4) : renOrd ord v = addOrd ord v.node.toNat := by
  unfold renOrd addOrd
  by_cases h : v.node.toNat ∈ ord
  · rw [if_neg (fun c => c.2 h), if_pos h]
  · rw [if_pos ⟨hk, h⟩, if_neg h]

set_option maxRecDepth 100000 in
theorem valOf_thing (n : Nat) (tb : Nat → Nat) (M mb base : Nat) (ord : List Nat) (x : Nat) (ma : Option Addr) (mc : Nat) (w : World) (hinv : InvO n ord) (hx : x < n) (hn : n ≤ 300) (hinj : ∀ i j, i < n → j < n → tb i = tb j → i = j)
    (hcells : ∀ i, i < n → CellsAt w (tb i)) (hM : Meet w tb M mb base ord ma mc) (hbase : base ≤ w.heap.size) :
    Calls Try.prog 111 #[ptr M, .iface 139 (ptr (tb x))] w (ValPost w tb M mb base ord ⟨4, 0, ⟨#[]⟩, x⟩ ma) := by
  have hme := method_thing (tb x)
  have h1 := ta_thing_num (ptr (tb x))
  have h2 := ta_thing_bits (ptr (tb x))
  have h3 := ta_thing_text (ptr (tb x))
  have h4 := ta_thing_thing (ptr (tb x))
  have hA : Kept (fun _ => False) w ((w.alloc (.cells #[.int .i64 0, .int .i64 0, .string ⟨#[]⟩, .int .i64 0] 24)).alloc (.cells #[.int .i64 4, .int .i64 0, .string ⟨#[]⟩, .int .i64 0] 24)) := ((Kept.refl _ w).alloc _).alloc _
  have hM1 := hM.kept hA (fun e => e) (fun e => e) (fun _ _ e => e)
  have hcells1 : ∀ i, i < n → CellsAt ((w.alloc (.cells #[.int .i64 0, .int .i64 0, .string ⟨#[]⟩, .int .i64 0] 24)).alloc (.cells #[.int .i64 4, .int .i64 0, .string ⟨#[]⟩, .int .i64 0] 24)) (tb i) := fun i hi => by
    obtain ⟨c, t, hc⟩ := hcells i hi
    exact ⟨c, t, (hA.block _ (Array.getElem?_eq_some_iff.1 hc).1 (fun e => e)).trans hc⟩
  have hnew0 : ¬ (w.heap.size = M ∨ w.heap.size = mb ∨ ma = some ⟨w.heap.size, 0, none⟩) := fun hp => by
    have hm := hM.mlt
    rcases hp with hp | hp | hp
    · omega
    · omega
    · have := (hM.met.lt w.heap.size (by rw [hp]; rfl)).2; omega
  have hnew1 : ¬ (w.heap.size + 1 = M ∨ w.heap.size + 1 = mb ∨ ma = some ⟨w.heap.size + 1, 0, none⟩) := fun hp => by
    have hm := hM.mlt
    rcases hp with hp | hp | hp
    · omega
    · omega
    · have := (hM.met.lt (w.heap.size + 1) (by rw [hp]; rfl)).2; omega
  go_enter Try.func111, Try.ntmps111
  go_wp2_with (first | (go_at_call 146; refine (placeOf_any n tb M mb base ord x ma mc _ hinv hx hn hinj hcells1 hM1 (by simp; omega)).mono ?_; rintro e w' ⟨ma', mc', rfl, hM', hor, hK'⟩; obtain ⟨z0, a0, a1, a2, a3, af⟩ := ((Four.new_at w ⟨0, 0, ⟨#[]⟩, 0⟩ 24 w.heap.size rfl).alloc _).kept hK' hnew0; obtain ⟨z1, b0, b1, b2, b3, bf⟩ := (Four.new_at _ ⟨4, 0, ⟨#[]⟩, 0⟩ 24 (w.heap.size + 1) (by simp)).kept hK' hnew1) | go_in)
  have hx4 : Hid (renVal ord ⟨4, 0, ⟨#[]⟩, x⟩ = ⟨4, 0, ⟨#[]⟩, ((addOrd ord x).idxOf x : Nat)⟩) := by
    show renVal ord ⟨4, 0, ⟨#[]⟩, x⟩ = _
    unfold renVal
    rw [if_pos rfl, renOrd_add rfl]
    rfl
  have hx5 : Hid (renOrd ord ⟨4, 0, ⟨#[]⟩, x⟩ = addOrd ord x) := renOrd_add rfl
  have hC : Kept (fun k => k = w.heap.size ∨ k = w.heap.size + 1) w' (((((w'.setCell ⟨w.heap.size + 1, 3, none⟩ (.int .i64 ((addOrd ord x).idxOf x : Nat))).setCell ⟨w.heap.size, 0, none⟩ (.int .i64 4)).setCell ⟨w.heap.size, 1, none⟩ (.int .i64 0)).setCell ⟨w.heap.size, 2, none⟩ (.string ⟨#[]⟩)).setCell ⟨w.heap.size, 3, none⟩ (.int .i64 ((addOrd ord x).idxOf x : Nat))) :=
    (((((Kept.refl (fun k => k = w.heap.size ∨ k = w.heap.size + 1) w').set (fun _ => Or.inr rfl) _).set (fun _ => Or.inl rfl) _).set (fun _ => Or.inl rfl) _).set (fun _ => Or.inl rfl) _).set (fun _ => Or.inl rfl) _
  obtain ⟨m1, m2, m3⟩ := hM.mlt
  refine bodyPost_ret (v := (GV.mk 4 0 ⟨#[]⟩ ((addOrd ord x).idxOf x : Nat)).val) (by simp [results, Try.results111, go_sem, a0, a1, a2, a3]) rfl ⟨ma', mc', by rw [hx4.out], ?_, ?_, ?_⟩
  · rw [hx5.out]
    refine hM'.kept hC (by omega) (by omega) (fun b hb => ?_)
    rcases hor with e | ⟨c, e, hc⟩
    · have := hM.met.lt b (by rw [← e, hb]; rfl); omega
    · rw [hb] at e
      have e2 := some_addr e
      have h7 := hM'.met.lt b (by rw [hb]; rfl)
      simp at hc
      omega
  · rcases hor with e | ⟨c, e, hc⟩
    · exact Or.inl e
    · simp at hc; exact Or.inr ⟨c, e, by omega⟩
  · exact ((hA.mono (q := fun k => k = M ∨ k = mb ∨ ma = some ⟨k, 0, none⟩) (fun _ _ e => e.elim)).trans hK' (fun _ _ e => e)).trans hC (fun k hk hp => by omega)

set_option maxRecDepth 100000 in
theorem text_empty {s : ByteArray} (h : s.toList = []) : s = ⟨#[]⟩ := by
  apply ByteArray.ext
  have h2 : s.data.toList = [] := by rw [← ByteArray.toList_eq]; exact h
  simpa using h2

set_option maxRecDepth 100000 in
theorem ValPost.of_below {w : World} {tb : Nat → Nat} {M mb base : Nat} {ord : List Nat} {v : GV} {ma : Option Addr} {mc : Nat} (hM : Meet w tb M mb base ord ma mc) (hk : v.kind ≠ 4) {e : Ending} {w' : World} (he : e = .returned v.val) (hb : Below w.heap.size w w') : ValPost w tb M mb base ord v ma e w' := by
  obtain ⟨e1, e2⟩ := ren_not (ord := ord) hk
  have hK : Kept (fun _ => False) w w' := Kept.of_below hb _
  exact ⟨ma, mc, by rw [e2]; exact he, by rw [e1]; exact hM.kept hK (fun e => e) (fun e => e) (fun _ _ e => e), Or.inl rfl, hK.mono (fun _ _ e => e.elim)⟩

set_option maxRecDepth 100000 in
theorem valOf_any (n : Nat) (tb : Nat → Nat) (M mb base : Nat) (ord : List Nat) (v : GV) (ma : Option Addr) (mc : Nat) (w : World) (hv : okV n v = true) (hinv : InvO n ord) (hn : n ≤ 300) (hinj : ∀ i j, i < n → j < n → tb i = tb j → i = j)
    (hcells : ∀ i, i < n → CellsAt w (tb i)) (hM : Meet w tb M mb base ord ma mc) (hbase : base ≤ w.heap.size) :
    Calls Try.prog 111 #[ptr M, encV tb v] w (ValPost w tb M mb base ord v ma) := by
  obtain ⟨k, m, t, x⟩ := v
  have hv' := hv
  unfold okV at hv'
  dsimp only at hv'
  by_cases h1 : k = 1
  · subst h1
    rw [if_neg (by decide), if_pos (Or.inl rfl)] at hv'
    obtain ⟨ht, hx⟩ := of_decide_eq_true hv'
    obtain rfl := text_empty ht
    subst hx
    rw [enc1 rfl]
    exact (valOf_num M m w).mono fun e w' h => ValPost.of_below hM (by simp) h.1 h.2
  by_cases h2 : k = 2
  · subst h2
    rw [if_neg (by decide), if_pos (Or.inr rfl)] at hv'
    obtain ⟨ht, hx⟩ := of_decide_eq_true hv'
    obtain rfl := text_empty ht
    subst hx
    rw [enc2 rfl]
    exact (valOf_bits M m w).mono fun e w' h => ValPost.of_below hM (by simp) h.1 h.2
  by_cases h3 : k = 3
  · subst h3
    rw [if_neg (by decide), if_neg (by decide), if_pos rfl] at hv'
    obtain ⟨hm, hx, ht⟩ := of_decide_eq_true hv'
    subst hm hx
    rw [enc3 rfl]
    exact (valOf_text M t w ht).mono fun e w' h => ValPost.of_below hM (by simp) h.1 h.2
  by_cases h4 : k = 4
  · subst h4
    rw [if_neg (by decide), if_neg (by decide), if_neg (by decide), if_pos rfl] at hv'
    obtain ⟨hm, ht, hx0, hxn⟩ := of_decide_eq_true hv'
    obtain rfl := text_empty ht
    subst hm
    obtain ⟨y, rfl⟩ := Int.eq_ofNat_of_zero_le hx0
    rw [enc4 rfl]
    exact valOf_thing n tb M mb base ord y ma mc w hinv (by omega) hn hinj hcells hM hbase
  · by_cases h0 : k = 0
    · subst h0
      rw [if_pos rfl] at hv'
      obtain ⟨hm, ht, hx⟩ := of_decide_eq_true hv'
      obtain rfl := text_empty ht
      subst hm hx
      rw [enc0 (by decide) (by decide) (by decide) (by decide)]
      exact (valOf_nothing M w).mono fun e w' h => ValPost.of_below hM (by simp) h.1 h.2
    · rw [if_neg h0, if_neg (fun h => h.elim h1 h2), if_neg h3, if_neg h4] at hv'
      cases hv'

end Go.Proofs.Ythjddpkegooobaa
