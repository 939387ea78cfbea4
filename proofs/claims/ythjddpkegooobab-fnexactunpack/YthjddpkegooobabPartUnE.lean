import Derived.Lib.AppendStr
import Derived.Laws.BitsAllLaws
import Derived.Test.YthjddpkegooobabPartUnD

/-
  VALOF: a value taken back from behind its interface. Own work.
-/
namespace Go.Proofs.Ythjddpkegooobab
open Go.RowKit

set_option maxRecDepth 100000 in
theorem method_num (m : Int) (w : World) : (method 337 214 (.int .i64 m) "loop.example/chest/impl.kind").run Try.prog w = .ok (196, .int .i64 m) w := by kernel_rfl
theorem method_bits (m : Int) (w : World) : (method 337 215 (.int .i64 m) "loop.example/chest/impl.kind").run Try.prog w = .ok (197, .int .i64 m) w := by kernel_rfl
theorem method_text (s : ByteArray) (w : World) : (method 337 216 (.string s) "loop.example/chest/impl.kind").run Try.prog w = .ok (198, .string s) w := by kernel_rfl
set_option maxRecDepth 100000 in
theorem method_thing (b : Nat) (w : World) : (method 337 206 (ptr b) "loop.example/chest/impl.kind").run Try.prog w = .ok (195, ptr b) w := by kernel_rfl
theorem method_nothing (w : World) : (method 337 219 (.agg #[]) "loop.example/chest/impl.kind").run Try.prog w = .ok (199, .agg #[]) w := by kernel_rfl

set_option maxRecDepth 100000 in
theorem ta_num_num (x : Value) (w : World) : (Instr.typeAssert (.iface 214 x) 172 214 true).run Try.prog w = .ok (.tuple #[x, .bool true]) w := by kernel_rfl
theorem ta_bits_num (x : Value) (w : World) : (Instr.typeAssert (.iface 215 x) 172 214 true).run Try.prog w = .ok (.tuple #[.int .i64 0, .bool false]) w := by kernel_rfl
theorem ta_bits_bits (x : Value) (w : World) : (Instr.typeAssert (.iface 215 x) 172 215 true).run Try.prog w = .ok (.tuple #[x, .bool true]) w := by kernel_rfl
set_option maxRecDepth 100000 in
theorem ta_text_num (x : Value) (w : World) : (Instr.typeAssert (.iface 216 x) 172 214 true).run Try.prog w = .ok (.tuple #[.int .i64 0, .bool false]) w := by kernel_rfl
theorem ta_text_bits (x : Value) (w : World) : (Instr.typeAssert (.iface 216 x) 172 215 true).run Try.prog w = .ok (.tuple #[.int .i64 0, .bool false]) w := by kernel_rfl
theorem ta_text_text (x : Value) (w : World) : (Instr.typeAssert (.iface 216 x) 172 216 true).run Try.prog w = .ok (.tuple #[x, .bool true]) w := by kernel_rfl
set_option maxRecDepth 100000 in
theorem ta_thing_num (x : Value) (w : World) : (Instr.typeAssert (.iface 206 x) 172 214 true).run Try.prog w = .ok (.tuple #[.int .i64 0, .bool false]) w := by kernel_rfl
theorem ta_thing_bits (x : Value) (w : World) : (Instr.typeAssert (.iface 206 x) 172 215 true).run Try.prog w = .ok (.tuple #[.int .i64 0, .bool false]) w := by kernel_rfl
theorem ta_thing_text (x : Value) (w : World) : (Instr.typeAssert (.iface 206 x) 172 216 true).run Try.prog w = .ok (.tuple #[.string .empty, .bool false]) w := by kernel_rfl
set_option maxRecDepth 100000 in
theorem ta_thing_thing (x : Value) (w : World) : (Instr.typeAssert (.iface 206 x) 172 206 true).run Try.prog w = .ok (.tuple #[x, .bool true]) w := by kernel_rfl
theorem ta_nothing_num (x : Value) (w : World) : (Instr.typeAssert (.iface 219 x) 172 214 true).run Try.prog w = .ok (.tuple #[.int .i64 0, .bool false]) w := by kernel_rfl
theorem ta_nothing_bits (x : Value) (w : World) : (Instr.typeAssert (.iface 219 x) 172 215 true).run Try.prog w = .ok (.tuple #[.int .i64 0, .bool false]) w := by kernel_rfl
set_option maxRecDepth 100000 in
theorem ta_nothing_text (x : Value) (w : World) : (Instr.typeAssert (.iface 219 x) 172 216 true).run Try.prog w = .ok (.tuple #[.string .empty, .bool false]) w := by kernel_rfl
theorem ta_nothing_thing (x : Value) (w : World) : (Instr.typeAssert (.iface 219 x) 172 206 true).run Try.prog w = .ok (.tuple #[.pointer none, .bool false]) w := by kernel_rfl

set_option maxRecDepth 100000 in
theorem valOf_num (M : Nat) (m : Int) (w : World) :
    Calls Try.prog 168 #[ptr M, .iface 214 (.int .i64 m)] w fun e w' => e = .returned (GV.mk 1 m ⟨#[]⟩ 0).val ∧ Below w.heap.size w w' := by
  have hme := method_num m
  have h1 := ta_num_num (.int .i64 m)
  go_enter Try.func168, Try.ntmps168
  go_wp2
  exact bodyPost_ret (v := (GV.mk 1 m ⟨#[]⟩ 0).val) (by simp [results, Try.results168, go_sem]) rfl ⟨rfl, gal (gal (gre _) _) _⟩

set_option maxRecDepth 100000 in
theorem valOf_bits (M : Nat) (m : Int) (w : World) :
    Calls Try.prog 168 #[ptr M, .iface 215 (.int .i64 m)] w fun e w' => e = .returned (GV.mk 2 m ⟨#[]⟩ 0).val ∧ Below w.heap.size w w' := by
  have hme := method_bits m
  have h1 := ta_bits_num (.int .i64 m)
  have h2 := ta_bits_bits (.int .i64 m)
  go_enter Try.func168, Try.ntmps168
  go_wp2
  exact bodyPost_ret (v := (GV.mk 2 m ⟨#[]⟩ 0).val) (by simp [results, Try.results168, go_sem]) rfl ⟨rfl, gal (gal (gre _) _) _⟩

set_option maxRecDepth 100000 in
theorem valOf_nothing (M : Nat) (w : World) :
    Calls Try.prog 168 #[ptr M, .iface 219 (.agg #[])] w fun e w' => e = .returned (GV.mk 0 0 ⟨#[]⟩ 0).val ∧ Below w.heap.size w w' := by
  have hme := method_nothing
  have h1 := ta_nothing_num (.agg #[])
  have h2 := ta_nothing_bits (.agg #[])
  have h3 := ta_nothing_text (.agg #[])
  have h4 := ta_nothing_thing (.agg #[])
  go_enter Try.func168, Try.ntmps168
  go_wp2
  exact bodyPost_ret (v := (GV.mk 0 0 ⟨#[]⟩ 0).val) (by simp [results, Try.results168, go_sem]) rfl ⟨rfl, gal (gal (gal (gre _) _) _) _⟩

set_option maxRecDepth 100000 in
theorem valOf_text (M : Nat) (s : ByteArray) (w : World) (hs : s.size ≤ 1000) :
    Calls Try.prog 168 #[ptr M, .iface 216 (.string s)] w fun e w' => e = .returned (GV.mk 3 0 s 0).val ∧ Below w.heap.size w w' := by
  have hme := method_text s
  have h1 := ta_text_num (.string s)
  have h2 := ta_text_bits (.string s)
  have h3 := ta_text_text (.string s)
  go_enter Try.func168, Try.ntmps168
  go_wp2_with (first | (go_at_call 177; refine (clone_any s _ hs).mono ?_; rintro e w' ⟨rfl, hb⟩; obtain ⟨z0, a0, a1, a2, a3, af⟩ := ((Four.new_at w ⟨0, 0, ⟨#[]⟩, 0⟩ 30 w.heap.size rfl).alloc _).kept (Kept.of_below hb (fun _ => False)) (fun e => e); obtain ⟨z1, b0, b1, b2, b3, bf⟩ := (Four.new_at _ ⟨3, 0, ⟨#[]⟩, 0⟩ 30 (w.heap.size + 1) (by simp)).kept (Kept.of_below hb (fun _ => False)) (fun e => e)) | go_in)
  refine bodyPost_ret (v := (GV.mk 3 0 s 0).val) (by simp [results, Try.results168, go_sem, a0, a1, a2, a3]) rfl ⟨rfl, ?_⟩
  exact gse (gse (gse (gse (gse (gca (gal (gal (gre _) _) _) hb) (by simp) _) (by simp) _) (by simp) _) (by simp) _) (by simp) _

/-- what taking a value back leaves -/
def ValPost (w : World) (tb : Nat → Nat) (M mb base : Nat) (ord : List Nat) (v : GV) (ma : Option Addr) (e : Ending) (w' : World) : Prop :=
  ∃ ma' mc', e = .returned (renVal ord v).val ∧ Meet w' tb M mb base (renOrd ord v) ma' mc' ∧ (ma' = ma ∨ ∃ b, ma' = some ⟨b, 0, none⟩ ∧ w.heap.size ≤ b) ∧ Kept (fun k => k = M ∨ k = mb ∨ ma = some ⟨k, 0, none⟩) w w'

set_option maxRecDepth 100000 in
theorem renOrd_add {ord : List Nat} {v : GV} (hk : v.kind = 4) : renOrd ord v = addOrd ord v.node.toNat := by
  unfold renOrd addOrd
  by_cases h : v.node.toNat ∈ ord
  · rw [if_neg (fun c => c.2 h), if_pos h]
  · rw [if_pos ⟨hk, h⟩, if_neg h]

set_option maxRecDepth 100000 in
theorem valOf_thing (n : Nat) (tb : Nat → Nat) (M mb base : Nat) (ord : List Nat) (x : Nat) (ma : Option Addr) (mc : Nat) (w : World) (hinv : InvO n ord) (hx : x < n) (hn : n ≤ 300) (hinj : ∀ i j, i < n → j < n → tb i = tb j → i = j)
    (hcells : ∀ i, i < n → CellsAt w (tb i)) (hM : Meet w tb M mb base ord ma mc) (hbase : base ≤ w.heap.size) :
    Calls Try.prog 168 #[ptr M, .iface 206 (ptr (tb x))] w (ValPost w tb M mb base ord ⟨4, 0, ⟨#[]⟩, x⟩ ma) := by
  have hme := method_thing (tb x)
  have h1 := ta_thing_num (ptr (tb x))
  have h2 := ta_thing_bits (ptr (tb x))
  have h3 := ta_thing_text (ptr (tb x))
  have h4 := ta_thing_thing (ptr (tb x))
  have hA : Kept (fun _ => False) w ((w.alloc (.cells #[.int .i64 0, .int .i64 0, .string ⟨#[]⟩, .int .i64 0] 30)).alloc (.cells #[.int .i64 4, .int .i64 0, .string ⟨#[]⟩, .int .i64 0] 30)) := ((Kept.refl _ w).alloc _).alloc _
  have hM1 := hM.kept hA (fun e => e) (fun e => e) (fun _ _ e => e)
  have hcells1 : ∀ i, i < n → CellsAt ((w.alloc (.cells #[.int .i64 0, .int .i64 0, .string ⟨#[]⟩, .int .i64 0] 30)).alloc (.cells #[.int .i64 4, .int .i64 0, .string ⟨#[]⟩, .int .i64 0] 30)) (tb i) := fun i hi => by
    obtain ⟨c, t, hc⟩ := hcells i hi
    exact ⟨c, t, (hA.block _ (Array.getElem?_eq_some_iff.1 hc).1 (fun e => e)).trans hc⟩
  have hnew0 : ¬ (w.heap.size = M ∨ w.heap.size = mb ∨ ma = some ⟨w.heap.size, 0, none⟩) := fun hp => by
    have hm := hM.mlt
    rcases hp with hp | hp | hp
    · omega
    · omega
    · have := (hM.met.lt w.heap.size (by rw [hp]; rfl)).2; omega
  have hnew1 : ¬ (w.heap.size + 1 = M ∨ w.heap.size + 1 = mb ∨ ma = some ⟨w.heap.size + 1, 0, none⟩) := fun hp => by
    have hm := hM.mlt
    rcases hp with hp | hp | hp
    · omega
    · omega
    · have := (hM.met.lt (w.heap.size + 1) (by rw [hp]; rfl)).2; omega
  go_enter Try.func168, Try.ntmps168
  go_wp2_with (first | (go_at_call 178; refine (placeOf_any n tb M mb base ord x ma mc _ hinv hx hn hinj hcells1 hM1 (by simp; omega)).mono ?_; rintro e w' ⟨ma', mc', rfl, hM', hor, hK'⟩; obtain ⟨z0, a0, a1, a2, a3, af⟩ := ((Four.new_at w ⟨0, 0, ⟨#[]⟩, 0⟩ 30 w.heap.size rfl).alloc _).kept hK' hnew0; obtain ⟨z1, b0, b1, b2, b3, bf⟩ := (Four.new_at _ ⟨4, 0, ⟨#[]⟩, 0⟩ 30 (w.heap.size + 1) (by simp)).kept hK' hnew1) | go_in)
  have hx4 : Hid (renVal ord ⟨4, 0, ⟨#[]⟩, x⟩ = ⟨4, 0, ⟨#[]⟩, ((addOrd ord x).idxOf x : Nat)⟩) := by
    show renVal ord ⟨4, 0, ⟨#[]⟩, x⟩ = _
    unfold renVal
    rw [if_pos rfl, renOrd_add rfl]
    rfl
  have hx5 : Hid (renOrd ord ⟨4, 0, ⟨#[]⟩, x⟩ = addOrd ord x) := renOrd_add rfl
  have hC : Kept (fun k => k = w.heap.size ∨ k = w.heap.size + 1) w' (((((w'.setCell ⟨w.heap.size + 1, 3, none⟩ (.int .i64 ((addOrd ord x).idxOf x : Nat))).setCell ⟨w.heap.size, 0, none⟩ (.int .i64 4)).setCell ⟨w.heap.size, 1, none⟩ (.int .i64 0)).setCell ⟨w.heap.size, 2, none⟩ (.string ⟨#[]⟩)).setCell ⟨w.heap.size, 3, none⟩ (.int .i64 ((addOrd ord x).idxOf x : Nat))) :=
    (((((Kept.refl (fun k => k = w.heap.size ∨ k = w.heap.size + 1) w').set (fun _ => Or.inr rfl) _).set (fun _ => Or.inl rfl) _).set (fun _ => Or.inl rfl) _).set (fun _ => Or.inl rfl) _).set (fun _ => Or.inl rfl) _
  obtain ⟨m1, m2, m3⟩ := hM.mlt
  refine bodyPost_ret (v := (GV.mk 4 0 ⟨#[]⟩ ((addOrd ord x).idxOf x : Nat)).val) (by simp [results, Try.results168, go_sem, a0, a1, a2, a3]) rfl ⟨ma', mc', by rw [hx4.out], ?_, ?_, ?_⟩
  · rw [hx5.out]
    refine hM'.kept hC (by omega) (by omega) (fun b hb => ?_)
    rcases hor with e | ⟨c, e, hc⟩
    · have := hM.met.lt b (by rw [← e, hb]; rfl); omega
    · rw [hb] at e
      have e2 := some_addr e
      have h7 := hM'.met.lt b (by rw [hb]; rfl)
      simp at hc
      omega
  · rcases hor with e | ⟨c, e, hc⟩
    · exact Or.inl e
    · simp at hc; exact Or.inr ⟨c, e, by omega⟩
  · exact ((hA.mono (q := fun k => k = M ∨ k = mb ∨ ma = some ⟨k, 0, none⟩) (fun _ _ e => e.elim)).trans hK' (fun _ _ e => e)).trans hC (fun k hk hp => by omega)

set_option maxRecDepth 100000 in
theorem text_empty {s : ByteArray} (h : s.toList = []) : s = ⟨#[]⟩ := by
  apply ByteArray.ext
  have h2 : s.data.toList = [] := by rw [← ByteArray.toList_eq]; exact h
  simpa using h2

set_option maxRecDepth 100000 in
theorem ValPost.of_below {w : World} {tb : Nat → Nat} {M mb base : Nat} {ord : List Nat} {v : GV} {ma : Option Addr} {mc : Nat} (hM : Meet w tb M mb base ord ma mc) (hk : v.kind ≠ 4) {e : Ending} {w' : World} (he : e = .returned v.val) (hb : Below w.heap.size w w') : ValPost w tb M mb base ord v ma e w' := by
  obtain ⟨e1, e2⟩ := ren_not (ord := ord) hk
  have hK : Kept (fun _ => False) w w' := Kept.of_below hb _
  exact ⟨ma, mc, by rw [e2]; exact he, by rw [e1]; exact hM.kept hK (fun e => e) (fun e => e) (fun _ _ e => e), Or.inl rfl, hK.mono (fun _ _ e => e.elim)⟩

set_option maxRecDepth 100000 in
theorem valOf_any (n : Nat) (tb : Nat → Nat) (M mb base : Nat) (ord : List Nat) (v : GV) (ma : Option Addr) (mc : Nat) (w : World) (hv : okV n v = true) (hinv : InvO n ord) (hn : n ≤ 300) (hinj : ∀ i j, i < n → j < n → tb i = tb j → i = j)
    (hcells : ∀ i, i < n → CellsAt w (tb i)) (hM : Meet w tb M mb base ord ma mc) (hbase : base ≤ w.heap.size) :
    Calls Try.prog 168 #[ptr M, encV tb v] w (ValPost w tb M mb base ord v ma) := by
  obtain ⟨k, m, t, x⟩ := v
  have hv' := hv
  unfold okV at hv'
  dsimp only at hv'
  by_cases h1 : k = 1
  · subst h1
    rw [if_neg (by decide), if_pos (Or.inl rfl)] at hv'
    obtain ⟨ht, hx⟩ := of_decide_eq_true hv'
    obtain rfl := text_empty ht
    subst hx
    rw [enc1 rfl]
    exact (valOf_num M m w).mono fun e w' h => ValPost.of_below hM (by simp) h.1 h.2
  by_cases h2 : k = 2
  · subst h2
    rw [if_neg (by decide), if_pos (Or.inr rfl)] at hv'
    obtain ⟨ht, hx⟩ := of_decide_eq_true hv'
    obtain rfl := text_empty ht
    subst hx
    rw [enc2 rfl]
    exact (valOf_bits M m w).mono fun e w' h => ValPost.of_below hM (by simp) h.1 h.2
  by_cases h3 : k = 3
  · subst h3
    rw [if_neg (by decide), if_neg (by decide), if_pos rfl] at hv'
    obtain ⟨hm, hx, ht⟩ := of_decide_eq_true hv'
    subst hm hx
    rw [enc3 rfl]
    exact (valOf_text M t w ht).mono fun e w' h => ValPost.of_below hM (by simp) h.1 h.2
  by_cases h4 : k = 4
  · subst h4
    rw [if_neg (by decide), if_neg (by decide), if_neg (by decide), if_pos rfl] at hv'
    obtain ⟨hm, ht, hx0, hxn⟩ := of_decide_eq_true hv'
    obtain rfl := text_empty ht
    subst hm
    obtain ⟨y, rfl⟩ := Int.eq_ofNat_of_zero_le hx0
    rw [enc4 rfl]
    exact valOf_thing n tb M mb base ord y ma mc w hinv (by omega) hn hinj hcells hM hbase
  · by_cases h0 : k = 0
    · subst h0
      rw [if_pos rfl] at hv'
      obtain ⟨hm, ht, hx⟩ := of_decide_eq_true hv'
      obtain rfl := text_empty ht
      subst hm hx
      rw [enc0 (by decide) (by decide) (by decide) (by decide)]
      exact (valOf_nothing M w).mono fun e w' h => ValPost.of_below hM (by simp) h.1 h.2
    · rw [if_neg h0, if_neg (fun h => h.elim h1 h2), if_neg h3, if_neg h4] at hv'
      cases hv'

end Go.Proofs.Ythjddpkegooobab

/-
  WR3: the program's writer: values. Own work.
-/
namespace Go.Proofs.Ythjddpkegooobab
open Go.RowKit

set_option maxRecDepth 100000 in
theorem WPost.ok {b a : Nat} {xs ys : List Nat} {w wk : World} (hK : Kept (fun k => k = b ∨ k = a) w wk) (hW : Wr wk b a (xs ++ ys)) : WPost b a xs ys w (.returned (.tuple #[])) wk :=
  ⟨hK, Or.inl ⟨by have := hW.le; rwa [List.length_append] at this, rfl, hW⟩⟩
theorem WPost.no {b a : Nat} {xs ys : List Nat} {w wk : World} (hK : Kept (fun k => k = b ∨ k = a) w wk) (hno : 4096 < xs.length + ys.length) : WPost b a xs ys w (.panicked [haltP]) wk :=
  ⟨hK, Or.inr ⟨hno, rfl⟩⟩
set_option maxRecDepth 100000 in
theorem kt {p : Nat → Prop} {w w' w'' : World} (h : Kept p w w') (k : Kept p w' w'') : Kept p w w'' := h.trans k (fun _ _ h => h)

theorem writeVal_nil (b a : Nat) (xs : List Nat)  (w : World) (hW : Wr w b a xs)  :
    Calls Try.prog 136 #[.pointer (some ⟨b, 0, none⟩), (GV.mk 0 0 ⟨#[]⟩ 0).val] w (WPost b a xs (0 :: []) w) := by
  have hF := Four.new w ⟨0, 0, ⟨#[]⟩, 0⟩ 30
  have hlt := hW.cur.lt
  have hla := hW.row.lt
  go_enter Try.func136, Try.ntmps136
  go_wp2_with (go_at_call 139; refine (writeByte_any b a xs 0 _ _ (hW.grow (gal (gre _) _)) ?_).mono ?_; rfl; rintro e w1 ⟨hK1, h1⟩; obtain ⟨fz, f0, f1, f2, f3, ff⟩ := hF.kept hK1 (by omega); obtain ⟨hf, rfl, hW1⟩ | ⟨hno, rfl⟩ := h1)
  · go_end0
    exact WPost.ok (kt ((Kept.refl _ w).alloc _) hK1) hW1
  · exact ⟨rfl, WPost.no (kt ((Kept.refl _ w).alloc _) hK1) hno⟩

set_option maxRecDepth 100000 in
theorem writeVal_num (b a : Nat) (xs : List Nat) (num : Int) (w : World) (hW : Wr w b a xs) (hn : I64 num) :
    Calls Try.prog 136 #[.pointer (some ⟨b, 0, none⟩), (GV.mk 1 num ⟨#[]⟩ 0).val] w (WPost b a xs (1 :: numB (zig num)) w) := by
  have hF := Four.new w ⟨1, num, ⟨#[]⟩, 0⟩ 30
  have hlt := hW.cur.lt
  have hla := hW.row.lt
  go_enter Try.func136, Try.ntmps136
  go_wp2_with (first
    | (go_at_call 139; refine (writeByte_any b a xs 1 _ _ (hW.grow (gal (gre _) _)) ?_).mono ?_; rfl; rintro e w1 ⟨hK1, h1⟩; obtain ⟨fz, f0, f1, f2, f3, ff⟩ := hF.kept hK1 (by omega); obtain ⟨hf, rfl, hW1⟩ | ⟨hno, rfl⟩ := h1)
    | (go_at_call 167; refine (unsigned_any num _ hn).mono ?_; rintro e w2 ⟨rfl, hb2⟩)
    | (go_at_call 135; refine (writeNumber_any b a (xs ++ [1]) (zig num) _ _ (hW1.grow hb2) rfl (zig_lt hn)).mono ?_; rintro e w3 ⟨hK3, ⟨hf3, rfl, hW3⟩ | ⟨hno3, rfl⟩⟩))
  · go_end0
    exact WPost.ok (kt (kt (kt ((Kept.refl _ w).alloc _) hK1) (Kept.of_below hb2 _)) hK3) (by rw [List.append_assoc] at hW3; exact hW3)
  · exact ⟨rfl, WPost.no (kt (kt (kt ((Kept.refl _ w).alloc _) hK1) (Kept.of_below hb2 _)) hK3) (by simp at hno3 ⊢; omega)⟩
  · exact ⟨rfl, WPost.no (kt ((Kept.refl _ w).alloc _) hK1) (by simp at hno ⊢; omega)⟩

set_option maxRecDepth 100000 in
theorem writeVal_bits (b a : Nat) (xs : List Nat) (num : Int) (w : World) (hW : Wr w b a xs) (hn : I64 num) :
    Calls Try.prog 136 #[.pointer (some ⟨b, 0, none⟩), (GV.mk 2 num ⟨#[]⟩ 0).val] w (WPost b a xs (2 :: lowB 8 (u64n num)) w) := by
  have hF := Four.new w ⟨2, num, ⟨#[]⟩, 0⟩ 30
  have hlt := hW.cur.lt
  have hla := hW.row.lt
  go_enter Try.func136, Try.ntmps136
  go_wp2_with (first
    | (go_at_call 139; refine (writeByte_any b a xs 2 _ _ (hW.grow (gal (gre _) _)) ?_).mono ?_; rfl; rintro e w1 ⟨hK1, h1⟩; obtain ⟨fz, f0, f1, f2, f3, ff⟩ := hF.kept hK1 (by omega); obtain ⟨hf, rfl, hW1⟩ | ⟨hno, rfl⟩ := h1)
    | (go_at_call 77; refine (writeWord_any b a (xs ++ [2]) num _ hW1 hn).mono ?_; rintro e w3 ⟨hK3, ⟨hf3, rfl, hW3⟩ | ⟨hno3, rfl⟩⟩))
  · go_end0
    exact WPost.ok (kt (kt ((Kept.refl _ w).alloc _) hK1) hK3) (by rw [List.append_assoc] at hW3; exact hW3)
  · exact ⟨rfl, WPost.no (kt (kt ((Kept.refl _ w).alloc _) hK1) hK3) (by simp at hno3 ⊢; omega)⟩
  · exact ⟨rfl, WPost.no (kt ((Kept.refl _ w).alloc _) hK1) (by simp at hno ⊢; omega)⟩

set_option maxRecDepth 100000 in
theorem writeVal_node (b a : Nat) (xs : List Nat) (node : Nat) (w : World) (hW : Wr w b a xs) (hn : node < 300) :
    Calls Try.prog 136 #[.pointer (some ⟨b, 0, none⟩), (GV.mk 4 0 ⟨#[]⟩ node).val] w (WPost b a xs (4 :: numB node) w) := by
  have hF := Four.new w ⟨4, 0, ⟨#[]⟩, node⟩ 30
  have hlt := hW.cur.lt
  have hla := hW.row.lt
  have e6 : IntKind.u64.wrap (node : Int) = (node : Int) := by rw [IntKind.wrap_u64]; omega
  go_enter Try.func136, Try.ntmps136
  go_wp2_with (first
    | (go_at_call 139; refine (writeByte_any b a xs 4 _ _ (hW.grow (gal (gre _) _)) ?_).mono ?_; rfl; rintro e w1 ⟨hK1, h1⟩; obtain ⟨fz, f0, f1, f2, f3, ff⟩ := hF.kept hK1 (by omega); obtain ⟨hf, rfl, hW1⟩ | ⟨hno, rfl⟩ := h1)
    | (go_at_call 135; refine (writeNumber_any b a (xs ++ [4]) node _ _ hW1 ?_ (by omega)).mono ?_; (first | rfl | exact e6 | trace_state); rintro e w3 ⟨hK3, ⟨hf3, rfl, hW3⟩ | ⟨hno3, rfl⟩⟩))
  · go_end0
    exact WPost.ok (kt (kt ((Kept.refl _ w).alloc _) hK1) hK3) (by rw [List.append_assoc] at hW3; exact hW3)
  · exact ⟨rfl, WPost.no (kt (kt ((Kept.refl _ w).alloc _) hK1) hK3) (by simp at hno3 ⊢; omega)⟩
  · exact ⟨rfl, WPost.no (kt ((Kept.refl _ w).alloc _) hK1) (by simp at hno ⊢; omega)⟩

set_option maxRecDepth 100000 in
theorem writeVal_text (b a : Nat) (xs : List Nat) (text : ByteArray) (w : World) (hW : Wr w b a xs) (hn : text.size ≤ 1000) :
    Calls Try.prog 136 #[.pointer (some ⟨b, 0, none⟩), (GV.mk 3 0 text 0).val] w (WPost b a xs (3 :: (numB text.size ++ bsOf text)) w) := by
  have hF := Four.new w ⟨3, 0, text, 0⟩ 30
  have hlt := hW.cur.lt
  have hla := hW.row.lt
  have e6 : IntKind.u64.wrap (text.size : Int) = (text.size : Int) := by rw [IntKind.wrap_u64]; omega
  go_enter Try.func136, Try.ntmps136
  go_wp2_with (first
    | (go_at_call 139; refine (writeByte_any b a xs 3 _ _ (hW.grow (gal (gre _) _)) ?_).mono ?_; rfl; rintro e w1 ⟨hK1, h1⟩; have hF1 := hF.kept hK1 (by omega); obtain ⟨fz, f0, f1, f2, f3, ff⟩ := id hF1; obtain ⟨hf, rfl, hW1⟩ | ⟨hno, rfl⟩ := h1)
    | (go_at_call 135; refine (writeNumber_any b a (xs ++ [3]) text.size _ _ hW1 ?_ (by omega)).mono ?_; (first | rfl | exact e6 | trace_state); rintro e w3 ⟨hK3, h3⟩; obtain ⟨gz, g0, g1, g2, g3, gf⟩ := hF1.kept hK3 (by omega); obtain ⟨hf3, rfl, hW3⟩ | ⟨hno3, rfl⟩ := h3)
    | (go_at_call 118; refine (writeText_any b a (xs ++ [3] ++ numB text.size) text _ hW3 hn).mono ?_; rintro e w4 ⟨hK4, ⟨hf4, rfl, hW4⟩ | ⟨hno4, rfl⟩⟩))
  · go_end0
    exact WPost.ok (kt (kt (kt ((Kept.refl _ w).alloc _) hK1) hK3) hK4) (by rw [List.append_assoc, List.append_assoc] at hW4; exact hW4)
  · exact ⟨rfl, WPost.no (kt (kt (kt ((Kept.refl _ w).alloc _) hK1) hK3) hK4) (by simp at hno4 ⊢; omega)⟩
  · exact ⟨rfl, WPost.no (kt (kt ((Kept.refl _ w).alloc _) hK1) hK3) (by simp at hno3 ⊢; omega)⟩
  · exact ⟨rfl, WPost.no (kt ((Kept.refl _ w).alloc _) hK1) (by simp at hno ⊢; omega)⟩

set_option maxRecDepth 100000 in
/-- a well made value is one of five -/
theorem okV_cases {n : Nat} {v : GV} (h : okV n v = true) : v = ⟨0, 0, ⟨#[]⟩, 0⟩ ∨ (∃ m, v = ⟨1, m, ⟨#[]⟩, 0⟩) ∨ (∃ m, v = ⟨2, m, ⟨#[]⟩, 0⟩) ∨ (∃ t, t.size ≤ 1000 ∧ v = ⟨3, 0, t, 0⟩) ∨ (∃ k : Nat, k < n ∧ v = ⟨4, 0, ⟨#[]⟩, k⟩) := by
  obtain ⟨k, m, t, d⟩ := v
  unfold okV at h
  dsimp only at h
  split at h
  · rename_i hk
    obtain ⟨h1, h2, h3⟩ := of_decide_eq_true h
    exact Or.inl (by rw [hk, h1, text_empty h2, h3])
  · split at h
    · rename_i hk
      obtain ⟨h2, h3⟩ := of_decide_eq_true h
      rcases hk with hk | hk
      · exact Or.inr (Or.inl ⟨m, by rw [hk, text_empty h2, h3]⟩)
      · exact Or.inr (Or.inr (Or.inl ⟨m, by rw [hk, text_empty h2, h3]⟩))
    · split at h
      · rename_i hk
        obtain ⟨h1, h2, h3⟩ := of_decide_eq_true h
        exact Or.inr (Or.inr (Or.inr (Or.inl ⟨t, h3, by rw [hk, h1, h2]⟩)))
      · split at h
        · rename_i hk
          obtain ⟨h1, h2, h3, h4⟩ := of_decide_eq_true h
          exact Or.inr (Or.inr (Or.inr (Or.inr ⟨d.toNat, by omega, by rw [hk, h1, text_empty h2, show ((d.toNat : Nat) : Int) = d by omega]⟩)))
        · cases h

set_option maxRecDepth 100000 in
theorem writeVal_any (b a n : Nat) (xs : List Nat) (v : GV) (w : World) (hW : Wr w b a xs) (hn : n ≤ 300) (ho : v.Ok) (hv : okV n v = true) :
    Calls Try.prog 136 #[.pointer (some ⟨b, 0, none⟩), v.val] w (WPost b a xs (valB v) w) := by
  rcases okV_cases hv with rfl | ⟨m, rfl⟩ | ⟨m, rfl⟩ | ⟨t, ht, rfl⟩ | ⟨k, hk, rfl⟩
  · exact writeVal_nil b a xs w hW
  · exact writeVal_num b a xs m w hW ho.num
  · exact writeVal_bits b a xs m w hW ho.num
  · exact writeVal_text b a xs t w hW ht
  · exact writeVal_node b a xs k w hW (by omega)

end Go.Proofs.Ythjddpkegooobab

/-
  OB: bytes that are appended to. Own work.
-/
namespace Go.Proofs.Ythjddpkegooobab
open Go.RowKit

/-- bytes of one's own, since a world -/
structure Ob (w0 : World) (base : Nat) (oa0 : Option Addr) (w : World) (oa : Option Addr) (cap : Nat) (zs : List Nat) : Prop where
  own : w.ownsRow base 5 1 (.slice oa zs.length cap) zs.length (bcells zs)
  loc : ∀ k, k < w0.heap.size → oa = some ⟨k, 0, none⟩ → oa0 = some ⟨k, 0, none⟩
  kept : Kept (fun k => oa0 = some ⟨k, 0, none⟩) w0 w

set_option maxRecDepth 100000 in
theorem Ob.start {base : Nat} {w : World} {oa : Option Addr} {cap : Nat} {zs : List Nat} (h : w.ownsRow base 5 1 (.slice oa zs.length cap) zs.length (bcells zs)) : Ob w base oa w oa cap zs := ⟨h, fun _ _ e => e, Kept.refl _ _⟩
theorem Ob.lt {w0 w : World} {base : Nat} {oa0 oa : Option Addr} {cap : Nat} {zs : List Nat} (h : Ob w0 base oa0 w oa cap zs) {k : Nat} (e : oa = some ⟨k, 0, none⟩) : base ≤ k ∧ k < w.heap.size := h.own.lt k (by rw [e]; rfl)
theorem Ob.grow {w0 w w' : World} {base : Nat} {oa0 oa : Option Addr} {cap : Nat} {zs : List Nat} (h : Ob w0 base oa0 w oa cap zs) (hb : Below w.heap.size w w') : Ob w0 base oa0 w' oa cap zs :=
  ⟨(Kept.of_below hb (fun _ => False)).owns h.own (fun _ _ e => e), h.loc, h.kept.trans (Kept.of_below hb _) (fun _ _ e => e)⟩
set_option maxRecDepth 100000 in
theorem Ob.call {w0 w w1 : World} {base : Nat} {oa0 oa oa1 : Option Addr} {cap cap1 : Nat} {zs ys : List Nat} (h : Ob w0 base oa0 w oa cap zs) (k : Ob w base oa w1 oa1 cap1 ys) : Ob w0 base oa0 w1 oa1 cap1 ys :=
  ⟨k.own, fun b hb e => h.loc b hb (k.loc b (Nat.lt_of_lt_of_le hb h.kept.size) e), h.kept.trans k.kept (fun b hb e => h.loc b hb e)⟩
theorem Ob.push {w0 w wa w1 : World} {base : Nat} {oa0 oa : Option Addr} {cap cap1 g : Nat} {zs ys : List Nat} (h : Ob w0 base oa0 w oa cap zs) (hb : Below w.heap.size w wa)
    (hown : w1.ownsRow base 5 1 (.slice (some ⟨g, 0, none⟩) (zs.length + ys.length) cap1) (zs.length + ys.length) (bcells zs ++ bcells ys)) (hgrow : wa.grownBy w1 (Value.slice oa zs.length cap).ownBlock)
    (hat : (Value.slice oa zs.length cap).ownBlock = some g ∨ w.heap.size ≤ g) : Ob w0 base oa0 w1 (some ⟨g, 0, none⟩) cap1 (zs ++ ys) := by
  refine ⟨?_, fun k hk e => ?_, ?_⟩
  · rw [List.length_append, show bcells (zs ++ ys) = bcells zs ++ bcells ys by simp [bcells]]; exact hown
  · have e2 := some_addr e
    subst e2
    rcases hat with hg | hg
    · exact h.loc g hk (owns_addr h.own hg)
    · have := h.kept.size; omega
  · exact (h.kept.trans (Kept.of_below hb _) (fun _ _ e => e)).trans (Kept.of_grown hgrow) (fun k hk e => h.loc k hk (owns_addr h.own e))

/-- what a call leaves that appends so much -/
def APost (base : Nat) (oa : Option Addr) (xs ys : List Nat) (w : World) (e : Ending) (w' : World) : Prop :=
  ∃ oa' cap', e = .returned (.slice oa' (xs ++ ys).length cap') ∧ Ob w base oa w' oa' cap' (xs ++ ys)

set_option maxRecDepth 100000 in
theorem numB_len : ∀ (f n : Nat), n < 128 ^ f → 0 < f → (numB n).length ≤ f
  | 0, _, _, h => absurd h (Nat.lt_irrefl _)
  | f + 1, n, hn, _ => by
    by_cases h : n < 128
    · rw [numB_small h]; simp
    · rw [numB_great h]
      have hf : 0 < f := by
        rcases Nat.eq_zero_or_pos f with rfl | h2
        · simp at hn; omega
        · exact h2
      have := numB_len f (n / 128) (by rw [Nat.div_lt_iff_lt_mul (by omega)]; rw [Nat.pow_succ] at hn; exact hn) hf
      simp only [List.length_cons]
      omega
set_option maxRecDepth 100000 in
theorem numB_ten {n : Nat} (h : n < 18446744073709551616) : (numB n).length ≤ 10 := numB_len 10 n (Nat.lt_of_lt_of_le h (by decide)) (by omega)

theorem and_or128 (m : Nat) (hm : m < 18446744073709551616) : IntKind.u8.wrap (bits .or .u64 (bits .and .u64 (m : Int) 127) 128) = ((m % 128 + 128 : Nat) : Int) := by
  have e1 : bits .and .u64 (m : Int) 127 = ((m % 128 : Nat) : Int) := by
    rw [u64_and _ _ (by omega) (by omega) (by omega) (by omega)]
    have h1 : (127 : Int).toNat = 127 := rfl
    rw [h1, Int.toNat_natCast, nat_mask7]
  have e2 : bits .or .u64 ((m % 128 : Nat) : Int) 128 = ((m % 128 + 128 : Nat) : Int) := by
    rw [u64_or _ _ (by omega) (by omega) (by omega) (by omega)]
    have h1 : (128 : Int).toNat = 128 := rfl
    rw [h1, Int.toNat_natCast, Nat.or_comm, nat_join 7 128 (m % 128) (by decide) (by omega)]
    omega
  rw [e1, e2, IntKind.wrap_u8']
  omega

set_option maxRecDepth 100000 in
theorem l2num_any (base : Nat) (oa : Option Addr) (len cap : Nat) (xs : List Nat) (n : Nat) (z : Int) (w : World) (hlen : len = xs.length) (hz : z = (n : Int)) (hn : n < 18446744073709551616) (hbase : base ≤ w.heap.size) (hl : xs.length ≤ 1099511627776)
    (hO : w.ownsRow base 5 1 (.slice oa xs.length cap) xs.length (bcells xs)) :
    Calls Try.prog 128 #[.slice oa len cap, .int .u64 z] w (APost base oa xs (numB n) w) := by
  subst hz hlen
  obtain ⟨i0, hi, hz0, hz1, hz2⟩ := info_parts info_u8
  have hten := numB_ten hn
  go_enter Try.func128, Try.ntmps128
  go_wp2
  go_loopw [0, 1] (fun o i ws => ∃ (m : Nat) (ys zs : List Nat) (oa1 : Option Addr) (cap1 : Nat), o = .slice oa1 zs.length cap1 ∧ i = .int .u64 m ∧ Hid (zs = xs ++ ys) ∧ Hid (numB n = ys ++ numB m) ∧ m < 18446744073709551616 ∧ Ob w base oa ws oa1 cap1 zs) (fun _ i _ => (intOf i).toNat)
  case atStart => exact ⟨n, [], xs, oa, cap, rfl, rfl, (List.append_nil _).symm, rfl, hn, Ob.start hO⟩
  case round =>
    obtain ⟨m, ys, zs, oa1, cap1, rfl, rfl, hzs, hm, hm64, hOb⟩ := hrel
    have hyl : zs.length ≤ xs.length + 10 := by
      have h1 := congrArg List.length hm.out
      rw [hzs.out]
      simp only [List.length_append] at h1 ⊢
      omega
    have hsz := hOb.kept.size
    by_cases hlt : m < 128
    · have hd : ¬ ((127 : Int) < (m : Int)) := by omega
      have e2 : IntKind.u8.wrap (m : Int) = (m : Int) := by rw [IntKind.wrap_u8']; omega
      go_wp2_with (at_builtin; refine wpList_append_lies _ rfl (.tmp 16) (.tmp 19) 28 rfl base 5 i0 (.int .u8 0) 1 1 Try.underlying28 hi hz0 hz1 hz2 rfl (by decide) _ _ _ rfl (hOb.own.alloc _) ⟨wr.heap.size, 0, none⟩ 1 1 [.int .u8 (m : Int)] rfl rfl (World.news_of_block (cs := #[.int .u8 (m : Int)]) (t := 5) (fr := (0, 0)) (blk_new_at _ _ _ (by simp))) (by simp [Value.oneCell']) (by decide) (by unfold maxLen; omega) (by omega) (by simp; omega) (wr.heap.size + 1) (by simp) ?_; intro g cap2 w1 hown1 hgrow hat hlt2)
      go_ret
      have hP := hOb.push (ys := [m]) (gal (gre _) _) hown1 hgrow (hat.elim Or.inl (fun h => Or.inr (by omega)))
      have e3 : zs ++ [m] = xs ++ numB n := by rw [hm.out, hzs.out, numB_small hlt, List.append_assoc]
      rw [e3] at hP
      exact ⟨_, cap2, by rw [← e3]; simp, hP⟩
    · have hd : ((127 : Int) < (m : Int)) := by omega
      obtain ⟨x, hx⟩ : ∃ x, Hid (x = m % 128 + 128) := ⟨_, rfl⟩
      have e2 : IntKind.u8.wrap (bits .or .u64 (bits .and .u64 (m : Int) 127) 128) = (x : Int) := by rw [hx.out]; exact and_or128 m hm64
      go_wp2_with (at_builtin; refine wpList_append_lies _ rfl (.tmp 7) (.tmp 12) 28 rfl base 5 i0 (.int .u8 0) 1 1 Try.underlying28 hi hz0 hz1 hz2 rfl (by decide) _ _ _ rfl (hOb.own.alloc _) ⟨wr.heap.size, 0, none⟩ 1 1 [.int .u8 (x : Int)] rfl rfl (World.news_of_block (cs := #[.int .u8 (x : Int)]) (t := 5) (fr := (0, 0)) (blk_new_at _ _ _ (by simp))) (by simp [Value.oneCell']) (by decide) (by unfold maxLen; omega) (by omega) (by simp; omega) (wr.heap.size + 1) (by simp) ?_; intro g cap2 w1 hown1 hgrow hat hlt2)
      have hP := hOb.push (ys := [x]) (gal (gre _) _) hown1 hgrow (hat.elim Or.inl (fun h => Or.inr (by omega)))
      go_roundw
      case rel =>
        refine ⟨m / 128, ys ++ [x], zs ++ [x], _, _, by simp, by go_num, by show _ = _; rw [hzs.out, List.append_assoc], ?_, by omega, hP⟩
        show _ = _
        rw [hm.out, numB_great hlt, hx.out]; simp
      case measure => simp [intOf]; omega

end Go.Proofs.Ythjddpkegooobab

/-
  CANONOK: the one form is of the sizes of what it comes from. Own work.
-/
namespace Go.Proofs.Ythjddpkegooobab
open Go.RowKit

theorem canonN_all {nodes : List GN} {ord0 : List Nat} {p : GN → Prop} (h0 : InvO nodes.length ord0) (hn : ∀ n, n ∈ nodes → okN nodes.length n = true) (hp : ∀ (ord : List Nat) (n : GN), InvO nodes.length ord → n ∈ nodes → p ⟨n.tag, renVals ord n.vals⟩) : ∀ (k : Nat) (n : GN), n ∈ canonN nodes ord0 k → p n
  | 0, n, hx => by unfold canonN at hx; cases hx
  | k + 1, n, hx => by
    rw [canonN_succ] at hx
    have hi := canonO_inv h0 hn k
    split at hx
    · rename_i hlt
      rcases List.mem_append.1 hx with h | h
      · exact canonN_all h0 hn hp k n h
      · rw [List.mem_singleton] at h
        rw [h]
        exact hp _ _ hi (mem_at (hi.2 _ (mem_at hlt)))
    · exact canonN_all h0 hn hp k n hx

theorem canonN_length (nodes : List GN) (ord0 : List Nat) : ∀ k, (canonN nodes ord0 k).length ≤ k
  | 0 => by unfold canonN; simp
  | k + 1 => by
    have := canonN_length nodes ord0 k
    rw [canonN_succ]
    split
    · simp; omega
    · omega

theorem canon_all {g : GG} {p : GN → Prop} (hok : okG g = true) (hp : ∀ (ord : List Nat) (n : GN), InvO g.nodes.length ord → n ∈ g.nodes → p ⟨n.tag, renVals ord n.vals⟩) : ∀ n, n ∈ (canon g).nodes → p n := fun n hn => by
  obtain ⟨_, h2, h3⟩ := okG_parts hok
  exact canonN_all ((InvO.nil _).ren h2) h3 hp g.nodes.length n hn

theorem canon_small {g : GG} (hok : okG g = true) : (canon g).nodes.length ≤ 300 ∧ ∀ n, n ∈ (canon g).nodes → n.vals.length ≤ 100 := by
  obtain ⟨h1, _, h3⟩ := okG_parts hok
  refine ⟨?_, canon_all hok (fun ord n _ hn => ?_)⟩
  · have := canonN_length g.nodes (renOrd [] g.root) g.nodes.length
    unfold canon
    simp only
    omega
  · simp only [renVals_length]
    exact (okN_parts (h3 n hn)).1

theorem renVal_ok {n : Nat} {ord : List Nat} {v : GV} (hv : v.Ok) (hk : okV n v = true) (hinv : InvO n ord) (hn : n ≤ 300) : (renVal ord v).Ok := by
  unfold renVal
  split
  · have h1 := (hinv.ren hk).le
    have h2 := List.idxOf_le_length (a := v.node.toNat) (l := renOrd ord v)
    exact ⟨hv.1, hv.2, hv.3, by unfold I64; simp only; omega⟩
  · exact hv

theorem renVals_ok {n : Nat} {ord : List Nat} {l : List GV} (hv : ∀ v, v ∈ l → v.Ok) (hk : ∀ v, v ∈ l → okV n v = true) (hinv : InvO n ord) (hn : n ≤ 300) : ∀ v, v ∈ renVals ord l → v.Ok := by
  induction l generalizing ord with
  | nil => intro v hx; unfold renVals at hx; cases hx
  | cons y r ih =>
    intro v hx
    unfold renVals at hx
    rcases List.mem_cons.1 hx with h | h
    · rw [h]; exact renVal_ok (hv y (List.mem_cons_self ..)) (hk y (List.mem_cons_self ..)) hinv hn
    · exact ih (fun z hz => hv z (List.mem_cons_of_mem _ hz)) (fun z hz => hk z (List.mem_cons_of_mem _ hz)) (hinv.ren (hk y (List.mem_cons_self ..))) v h

theorem canon_ok {g : GG} (hg : g.Ok) (hok : okG g = true) : (canon g).Ok := by
  obtain ⟨h1, h2, h3⟩ := okG_parts hok
  have hs := canon_small hok
  refine ⟨renVal_ok hg.root h2 (InvO.nil _) h1, by unfold maxLen; omega, canon_all hok (fun ord n hi hn => ?_)⟩
  have h4 := okN_parts (h3 n hn)
  exact ⟨(hg.nodes n hn).tag, by simp only [renVals_length]; exact (hg.nodes n hn).len, renVals_ok (hg.nodes n hn).vals h4.2 hi h1⟩

end Go.Proofs.Ythjddpkegooobab

/-
  CANONOK2: a graph's one form is well made. Own work.
-/
namespace Go.Proofs.Ythjddpkegooobab

theorem okV_mono {n m : Nat} {v : GV} (h : okV n v = true) (hm : n ≤ m) : okV m v = true := by
  rcases okV_cases h with rfl | ⟨k, rfl⟩ | ⟨k, rfl⟩ | ⟨t, ht, rfl⟩ | ⟨k, hk, rfl⟩
  · exact h
  · exact h
  · exact h
  · exact h
  · unfold okV at h ⊢
    simp only at h ⊢
    have h1 := of_decide_eq_true h
    exact decide_eq_true ⟨h1.1, h1.2.1, h1.2.2.1, by omega⟩

theorem mem_renOrd {ord : List Nat} {v : GV} (hk : v.kind = 4) : v.node.toNat ∈ renOrd ord v := by
  unfold renOrd
  split
  · simp
  · rename_i h
    by_cases hm : v.node.toNat ∈ ord
    · exact hm
    · exact absurd ⟨hk, hm⟩ h

theorem okV_ren {n m : Nat} {ord : List Nat} {v : GV} (h : okV n v = true) (hm : (renOrd ord v).length ≤ m) : okV m (renVal ord v) = true := by
  rcases okV_cases h with rfl | ⟨k, rfl⟩ | ⟨k, rfl⟩ | ⟨t, ht, rfl⟩ | ⟨k, hk, rfl⟩
  · exact h
  · exact h
  · exact h
  · exact h
  · have h1 : (renOrd ord ⟨4, 0, ⟨#[]⟩, (k : Int)⟩).idxOf k < (renOrd ord ⟨4, 0, ⟨#[]⟩, (k : Int)⟩).length := List.idxOf_lt_length_of_mem (mem_renOrd (v := ⟨4, 0, ⟨#[]⟩, (k : Int)⟩) rfl)
    unfold renVal
    rw [if_pos rfl]
    have h2 : okV n ⟨4, 0, ⟨#[]⟩, (k : Int)⟩ = true := h
    unfold okV at h2 ⊢
    simp only at h2 ⊢
    have h3 := of_decide_eq_true h2
    refine decide_eq_true ⟨h3.1, h3.2.1, by omega, ?_⟩
    simp only [Int.toNat_natCast]
    omega

theorem okVs_ren {n m : Nat} {ord : List Nat} {l : List GV} (h : ∀ v, v ∈ l → okV n v = true) (hm : (renOrds ord l).length ≤ m) : ∀ v, v ∈ renVals ord l → okV m v = true := by
  induction l generalizing ord with
  | nil => intro v hv; cases hv
  | cons x r ih =>
    intro v hv
    have h1 : (renOrd ord x).length ≤ (renOrds (renOrd ord x) r).length := renOrds_le _ _
    have h2 : (renOrds (renOrd ord x) r).length ≤ m := hm
    rcases List.mem_cons.1 hv with rfl | hv
    · exact okV_ren (h x (List.mem_cons_self ..)) (by omega)
    · exact ih (fun y hy => h y (List.mem_cons_of_mem _ hy)) h2 v hv

theorem okN_mk {m : Nat} {x : GN} (h1 : 0 ≤ x.tag ∧ x.tag ≤ 1000) (h2 : x.vals.length ≤ 100) (h3 : ∀ v, v ∈ x.vals → okV m v = true) : okN m x = true := by
  unfold okN
  simp only [Bool.and_eq_true, decide_eq_true_eq, List.all_eq_true]
  exact ⟨⟨h1.1, h1.2, h2⟩, h3⟩
theorem okN_tag' {n : Nat} {x : GN} (h : okN n x = true) : 0 ≤ x.tag ∧ x.tag ≤ 1000 := by
  unfold okN at h
  simp only [Bool.and_eq_true, decide_eq_true_eq, List.all_eq_true] at h
  exact ⟨h.1.1, h.1.2.1⟩
theorem okN_mono {n m : Nat} {x : GN} (h : okN n x = true) (hm : n ≤ m) : okN m x = true :=
  okN_mk (okN_tag' h) (okN_parts h).1 (fun v hv => okV_mono ((okN_parts h).2 v hv) hm)

theorem canonO_le (nodes : List GN) (ord0 : List Nat) (k : Nat) : (canonO nodes ord0 k).length ≤ (canonO nodes ord0 (k + 1)).length := by
  rw [canonO_succ]
  split
  · exact renOrds_le _ _
  · exact Nat.le_refl _
theorem canonO_mono (nodes : List GN) (ord0 : List Nat) {k m : Nat} (h : k ≤ m) : (canonO nodes ord0 k).length ≤ (canonO nodes ord0 m).length := by
  induction h with
  | refl => exact Nat.le_refl _
  | step _ ih => exact Nat.le_trans ih (canonO_le _ _ _)

theorem canonN_len (nodes : List GN) (ord0 : List Nat) : ∀ k, (canonN nodes ord0 k).length = min k (canonO nodes ord0 k).length
  | 0 => by unfold canonN; simp
  | k + 1 => by
    have ih := canonN_len nodes ord0 k
    have hle := canonO_le nodes ord0 k
    rw [canonN_succ]
    by_cases h : k < (canonO nodes ord0 k).length
    · rw [if_pos h, List.length_append, ih, List.length_singleton]
      omega
    · have e : canonO nodes ord0 (k + 1) = canonO nodes ord0 k := by rw [canonO_succ, if_neg h]
      rw [if_neg h, ih, e]
      omega

theorem canonN_ok {nodes : List GN} {ord0 : List Nat} (h0 : InvO nodes.length ord0) (hn : ∀ n, n ∈ nodes → okN nodes.length n = true) : ∀ k x, x ∈ canonN nodes ord0 k → okN (canonO nodes ord0 k).length x = true
  | 0, x, hx => by unfold canonN at hx; cases hx
  | k + 1, x, hx => by
    have hle := canonO_le nodes ord0 k
    have hinv := canonO_inv h0 hn k
    rw [canonN_succ] at hx
    by_cases h : k < (canonO nodes ord0 k).length
    · rw [if_pos h] at hx
      rcases List.mem_append.1 hx with hx | hx
      · exact okN_mono (canonN_ok h0 hn k x hx) hle
      · have e : canonO nodes ord0 (k + 1) = renOrds (canonO nodes ord0 k) (nodes[(canonO nodes ord0 k)[k]!]!).vals := by rw [canonO_succ, if_pos h]
        have hm := hn _ (mem_at (hinv.2 _ (mem_at h)))
        have ht := okN_tag' hm
        rw [List.mem_singleton.1 hx, e]
        exact okN_mk ht (by rw [renVals_length]; exact (okN_parts hm).1) (okVs_ren (okN_parts hm).2 (Nat.le_refl _))
    · rw [if_neg h] at hx
      exact okN_mono (canonN_ok h0 hn k x hx) hle

theorem canon_okG {g : GG} (hok : okG g = true) : okG (canon g) = true := by
  obtain ⟨hn, hroot, hnodes⟩ := okG_parts hok
  have h0 : InvO g.nodes.length (renOrd [] g.root) := (InvO.nil _).ren hroot
  have hlen : (canon g).nodes.length = (canonO g.nodes (renOrd [] g.root) g.nodes.length).length := by
    have h1 := canonN_len g.nodes (renOrd [] g.root) g.nodes.length
    have h2 := (canonO_inv h0 hnodes g.nodes.length).le
    show (canonN g.nodes (renOrd [] g.root) g.nodes.length).length = _
    omega
  have hr : okV (canon g).nodes.length (canon g).root = true := by
    rw [hlen]
    refine okV_ren hroot ?_
    have h1 := canonO_mono g.nodes (renOrd [] g.root) (Nat.zero_le g.nodes.length)
    rw [show canonO g.nodes (renOrd [] g.root) 0 = renOrd [] g.root by unfold canonO; rfl] at h1
    exact h1
  have ha : ∀ x, x ∈ (canon g).nodes → okN (canon g).nodes.length x = true := by
    rw [hlen]
    exact canonN_ok h0 hnodes _
  unfold okG
  simp only [Bool.and_eq_true, decide_eq_true_eq, List.all_eq_true]
  exact ⟨⟨(canon_small hok).1, hr⟩, ha⟩

/-! how long an image may be -/
theorem valB_len {n : Nat} {v : GV} (hn : n ≤ 300) (ho : v.Ok) (h : okV n v = true) : (valB v).length ≤ 1011 := by
  rcases okV_cases h with rfl | ⟨k, rfl⟩ | ⟨k, rfl⟩ | ⟨t, ht, rfl⟩ | ⟨k, hk, rfl⟩
  · show 1 ≤ 1011; omega
  · show (numB (zig k)).length + 1 ≤ 1011
    have := numB_len 10 (zig k) (Nat.lt_of_lt_of_le (zig_lt ho.num) (by decide)) (by omega)
    omega
  · show (lowB 8 (u64n k)).length + 1 ≤ 1011
    rw [lowB_length]; omega
  · show (numB t.size ++ bsOf t).length + 1 ≤ 1011
    have := numB_len 10 t.size (Nat.lt_of_le_of_lt ht (by decide)) (by omega)
    rw [List.length_append, bsOf_length]
    omega
  · show (numB k).length + 1 ≤ 1011
    have := numB_len 10 k (Nat.lt_of_lt_of_le (show k < 300 by omega) (by decide)) (by omega)
    omega
theorem valsB_len {n : Nat} {l : List GV} (hn : n ≤ 300) (ho : ∀ v, v ∈ l → v.Ok) (h : ∀ v, v ∈ l → okV n v = true) : (valsB l).length ≤ 1011 * l.length := by
  induction l with
  | nil => simp [valsB]
  | cons x r ih =>
    have h1 := valB_len hn (ho x (List.mem_cons_self ..)) (h x (List.mem_cons_self ..))
    have h2 := ih (fun v hv => ho v (List.mem_cons_of_mem _ hv)) (fun v hv => h v (List.mem_cons_of_mem _ hv))
    simp only [valsB, List.length_append, List.length_cons]
    omega
theorem nodeB_len {n : Nat} {x : GN} (hn : n ≤ 300) (ho : x.Ok) (h : okN n x = true) : (nodeB x).length ≤ 102000 := by
  have h1 := valsB_len hn ho.vals (okN_parts h).2
  have h2 := (okN_parts h).1
  have h3 := okN_tag' h
  have h4 := numB_len 10 x.tag.toNat (Nat.lt_of_le_of_lt (show x.tag.toNat ≤ 1000 by omega) (by decide)) (by omega)
  have h5 := numB_len 10 x.vals.length (Nat.lt_of_le_of_lt h2 (by decide)) (by omega)
  simp only [nodeB, List.length_append]
  omega
theorem nodesB_len {n : Nat} {l : List GN} (hn : n ≤ 300) (ho : ∀ v, v ∈ l → v.Ok) (h : ∀ v, v ∈ l → okN n v = true) : (nodesB l).length ≤ 102000 * l.length := by
  induction l with
  | nil => simp [nodesB]
  | cons x r ih =>
    have h1 := nodeB_len hn (ho x (List.mem_cons_self ..)) (h x (List.mem_cons_self ..))
    have h2 := ih (fun v hv => ho v (List.mem_cons_of_mem _ hv)) (fun v hv => h v (List.mem_cons_of_mem _ hv))
    simp only [nodesB, List.length_append, List.length_cons]
    omega
theorem graphB_len {g : GG} (ho : g.Ok) (hok : okG g = true) : (graphB g).length ≤ 40000000 := by
  obtain ⟨hn, hroot, hnodes⟩ := okG_parts hok
  have h1 := nodesB_len hn ho.nodes hnodes
  have h2 := valB_len hn ho.root hroot
  have h3 := numB_len 10 g.nodes.length (Nat.lt_of_le_of_lt hn (by decide)) (by omega)
  simp only [graphB, List.length_append, List.length_cons, List.length_nil]
  omega

end Go.Proofs.Ythjddpkegooobab

/-
  RDOK: what is read fits; images are read back. Own work.
-/
namespace Go.Proofs.Ythjddpkegooobab

theorem zag_i64 {n : Nat} (h : n < 18446744073709551616) : I64 (zag n) := by unfold I64 zag; split <;> omega
theorem wrap_i64_ok (n : Int) : I64 (IntKind.i64.wrap n) := by rw [IntKind.wrap_i64]; unfold I64; omega
theorem orI_i64 (n : Int) (b i : Nat) : I64 (orI n b i) := wrap_i64_ok _
theorem rdLow_i64 : ∀ (k i : Nat) (n : Int) (r : List Nat) (x : Int) (q : List Nat), I64 n → rdLow k i n r = some (x, q) → I64 x
  | 0, _, n, r, x, q, hn, h => by
    have e : n = x ∧ r = q := by simpa [rdLow] using h
    rw [← e.1]; exact hn
  | k + 1, _, _, [], _, _, _, h => by cases h
  | k + 1, i, n, b :: r, x, q, _, h => rdLow_i64 k (i + 1) (orI n b i) r x q (orI_i64 n b i) h
theorem strB_sizeR (xs : List Nat) : (strB xs).size = xs.length := by unfold strB; rw [Go.strOfNums_size, List.length_map]
theorem small_i64 {n : Int} (h : 0 ≤ n ∧ n ≤ 1000000) : I64 n := by unfold I64; omega
theorem zero_ok {n : Nat} (h : n ≤ 4) (m : Int) (hm : I64 m) (t : ByteArray) (ht : t.size ≤ 1000) (d : Int) (hd : I64 d) : (GV.mk (n : Int) m t d).Ok := ⟨small_i64 (by show 0 ≤ (n : Int) ∧ (n : Int) ≤ 1000000; omega), hm, by show t.size ≤ maxLen; unfold maxLen; omega, hd⟩

theorem rdVal_ok {r q : List Nat} {v : GV} (h : rdVal r = some (v, q)) : v.Ok := by
  have h0 : I64 0 := small_i64 (by omega)
  have hz : (⟨#[]⟩ : ByteArray).size ≤ 1000 := Nat.zero_le _
  cases r with
  | nil => cases h
  | cons k t =>
    unfold rdVal at h
    dsimp only at h
    split at h
    · simp only [Option.some.injEq, Prod.mk.injEq] at h
      rw [← h.1]; exact zero_ok (n := 0) (by omega) 0 h0 _ hz 0 h0
    · split at h
      · cases hq : rdNum 0 0 t with
        | none => rw [hq] at h; cases h
        | some y =>
          rw [hq] at h
          simp only [Option.map_some, Option.some.injEq, Prod.mk.injEq] at h
          rw [← h.1]; exact zero_ok (n := 1) (by omega) _ (zag_i64 (rdNum_lt 0 0 t y.1 y.2 (by omega) hq)) _ hz 0 h0
      · split at h
        · cases hq : rdLow 8 0 0 t with
          | none => rw [hq] at h; cases h
          | some y =>
            rw [hq] at h
            simp only [Option.map_some, Option.some.injEq, Prod.mk.injEq] at h
            rw [← h.1]; exact zero_ok (n := 2) (by omega) _ (rdLow_i64 8 0 0 t y.1 y.2 h0 hq) _ hz 0 h0
        · split at h
          · cases hq : rdCount 1000 t with
            | none => rw [hq] at h; cases h
            | some y =>
              rw [hq, Option.bind_some] at h
              cases hq2 : rdText y.1 y.2 with
              | none => rw [hq2] at h; cases h
              | some z =>
                rw [hq2] at h
                simp only [Option.map_some, Option.some.injEq, Prod.mk.injEq] at h
                have hz1 : z.1.size ≤ 1000 := by
                  have h1 := rdCount_le (n := y.1) (q := y.2) hq
                  unfold rdText at hq2
                  split at hq2
                  · have e2 : strB (y.2.take y.1) = z.1 := by simpa using congrArg (fun o => o.map Prod.fst) hq2
                    rw [← e2, strB_sizeR, List.length_take]; omega
                  · cases hq2
                rw [← h.1]; exact zero_ok (n := 3) (by omega) 0 h0 _ hz1 0 h0
          · split at h
            · cases hq : rdCount 300 t with
              | none => rw [hq] at h; cases h
              | some y =>
                rw [hq] at h
                simp only [Option.map_some, Option.some.injEq, Prod.mk.injEq] at h
                have h1 := rdCount_le (n := y.1) (q := y.2) hq
                rw [← h.1]; exact zero_ok (n := 4) (by omega) 0 h0 _ hz _ (small_i64 (by omega))
            · cases h

theorem rdVals_ok : ∀ (m : Nat) (r q : List Nat) (vs : List GV), rdVals m r = some (vs, q) → vs.length = m ∧ ∀ v, v ∈ vs → v.Ok
  | 0, r, q, vs, h => by
    have e : [] = vs := by simpa [rdVals] using congrArg (fun o => o.map Prod.fst) h
    rw [← e]; exact ⟨rfl, fun v hv => by cases hv⟩
  | m + 1, r, q, vs, h => by
    rw [rdVals] at h
    cases hv : rdVal r with
    | none => rw [hv] at h; cases h
    | some x =>
      rw [hv, Option.bind_some] at h
      cases hw : rdVals m x.2 with
      | none => rw [hw] at h; cases h
      | some y =>
        rw [hw] at h
        have e : x.1 :: y.1 = vs := by simpa using congrArg (fun o => o.map Prod.fst) h
        obtain ⟨h1, h2⟩ := rdVals_ok m x.2 y.2 y.1 hw
        rw [← e]
        refine ⟨by rw [List.length_cons, h1], fun v hm => ?_⟩
        rcases List.mem_cons.1 hm with rfl | hm
        · exact rdVal_ok (q := x.2) hv
        · exact h2 v hm
theorem rdNode_ok {r q : List Nat} {n : GN} (h : rdNode r = some (n, q)) : n.Ok := by
  unfold rdNode at h
  cases ht : rdCount 1000 r with
  | none => rw [ht] at h; cases h
  | some t =>
    rw [ht, Option.bind_some] at h
    cases hm : rdCount 100 t.2 with
    | none => rw [hm] at h; cases h
    | some m =>
      rw [hm, Option.bind_some] at h
      cases hv : rdVals m.1 m.2 with
      | none => rw [hv] at h; cases h
      | some y =>
        rw [hv] at h
        have e : (⟨(t.1 : Int), y.1⟩ : GN) = n := by simpa using congrArg (fun o => o.map Prod.fst) h
        obtain ⟨h1, h2⟩ := rdVals_ok m.1 m.2 y.2 y.1 hv
        have h3 := rdCount_le (n := t.1) (q := t.2) ht
        have h4 := rdCount_le (n := m.1) (q := m.2) hm
        rw [← e]
        exact ⟨small_i64 (by show 0 ≤ (t.1 : Int) ∧ (t.1 : Int) ≤ 1000000; omega), by show y.1.length ≤ maxLen; unfold maxLen; omega, h2⟩
theorem rdNodes_ok : ∀ (m : Nat) (r q : List Nat) (ns : List GN), rdNodes m r = some (ns, q) → ns.length = m ∧ ∀ n, n ∈ ns → n.Ok
  | 0, r, q, vs, h => by
    have e : [] = vs := by simpa [rdNodes] using congrArg (fun o => o.map Prod.fst) h
    rw [← e]; exact ⟨rfl, fun v hv => by cases hv⟩
  | m + 1, r, q, vs, h => by
    rw [rdNodes] at h
    cases hv : rdNode r with
    | none => rw [hv] at h; cases h
    | some x =>
      rw [hv, Option.bind_some] at h
      cases hw : rdNodes m x.2 with
      | none => rw [hw] at h; cases h
      | some y =>
        rw [hw] at h
        have e : x.1 :: y.1 = vs := by simpa using congrArg (fun o => o.map Prod.fst) h
        obtain ⟨h1, h2⟩ := rdNodes_ok m x.2 y.2 y.1 hw
        rw [← e]
        refine ⟨by rw [List.length_cons, h1], fun v hm => ?_⟩
        rcases List.mem_cons.1 hm with rfl | hm
        · exact rdNode_ok (q := x.2) hv
        · exact h2 v hm
theorem rdGraph_ok {r q : List Nat} {g : GG} (h : rdGraph r = some (g, q)) : g.Ok := by
  unfold rdGraph at h
  cases ht : rdText 2 r with
  | none => rw [ht] at h; cases h
  | some t =>
    rw [ht, Option.bind_some] at h
    split at h
    · cases hm : rdCount 300 t.2 with
      | none => rw [hm] at h; cases h
      | some m =>
        rw [hm, Option.bind_some] at h
        cases hv : rdVal m.2 with
        | none => rw [hv] at h; cases h
        | some x =>
          rw [hv, Option.bind_some] at h
          cases hn : rdNodes m.1 x.2 with
          | none => rw [hn] at h; cases h
          | some y =>
            rw [hn] at h
            have e : (⟨x.1, y.1⟩ : GG) = g := by simpa using congrArg (fun o => o.map Prod.fst) h
            obtain ⟨h1, h2⟩ := rdNodes_ok m.1 x.2 y.2 y.1 hn
            have h4 := rdCount_le (n := m.1) (q := m.2) hm
            rw [← e]
            exact ⟨rdVal_ok (q := x.2) hv, by show y.1.length ≤ maxLen; unfold maxLen; omega, h2⟩
    · cases h

/-! images are read back -/
theorem rdVal_back {n : Nat} {v : GV} (hn : n ≤ 300) (ho : v.Ok) (h : okV n v = true) (r : List Nat) : rdVal (valB v ++ r) = some (v, r) := by
  rcases okV_cases h with rfl | ⟨m, rfl⟩ | ⟨m, rfl⟩ | ⟨t, ht, rfl⟩ | ⟨k, hk, rfl⟩
  · rfl
  · show rdVal (1 :: (numB (zig m) ++ r)) = _
    simp [rdVal, rdNum_num (zig_lt ho.num), zag_zig]
  · show rdVal (2 :: (lowB 8 (u64n m) ++ r)) = _
    simp [rdVal, rdLow_word ho.num]
  · show rdVal (3 :: (numB t.size ++ bsOf t ++ r)) = _
    rw [List.append_assoc]
    simp [rdVal, rdCount_num (most := 1000) ht (by omega), rdText_bs]
  · show rdVal (4 :: (numB k ++ r)) = _
    simp [rdVal, rdCount_num (m := k) (most := 300) (by omega) (by omega)]
theorem rdVals_back {n : Nat} (hn : n ≤ 300) : ∀ (l : List GV) (r : List Nat), (∀ v, v ∈ l → v.Ok) → (∀ v, v ∈ l → okV n v = true) → rdVals l.length (valsB l ++ r) = some (l, r)
  | [], r, _, _ => rfl
  | v :: l, r, ho, h => by
    show rdVals (l.length + 1) (valB v ++ valsB l ++ r) = _
    rw [rdVals, List.append_assoc, rdVal_back hn (ho v (List.mem_cons_self ..)) (h v (List.mem_cons_self ..)), Option.bind_some, rdVals_back hn l r (fun x hx => ho x (List.mem_cons_of_mem _ hx)) (fun x hx => h x (List.mem_cons_of_mem _ hx))]
    rfl
theorem rdNode_back {n : Nat} (hn : n ≤ 300) {x : GN} (ho : x.Ok) (h : okN n x = true) (r : List Nat) : rdNode (nodeB x ++ r) = some (x, r) := by
  obtain ⟨h1, h2⟩ := okN_parts h
  have h3 := okN_tag' h
  unfold rdNode nodeB
  rw [List.append_assoc, List.append_assoc, rdCount_num (m := x.tag.toNat) (most := 1000) (by omega) (by omega), Option.bind_some]
  dsimp only
  rw [rdCount_num (m := x.vals.length) (most := 100) h1 (by omega), Option.bind_some]
  dsimp only
  rw [rdVals_back hn x.vals r ho.vals h2]
  show some ((⟨((x.tag.toNat : Nat) : Int), x.vals⟩ : GN), r) = _
  rw [show ((x.tag.toNat : Nat) : Int) = x.tag by omega]
theorem rdNodes_back {n : Nat} (hn : n ≤ 300) : ∀ (l : List GN) (r : List Nat), (∀ v, v ∈ l → v.Ok) → (∀ v, v ∈ l → okN n v = true) → rdNodes l.length (nodesB l ++ r) = some (l, r)
  | [], r, _, _ => rfl
  | v :: l, r, ho, h => by
    show rdNodes (l.length + 1) (nodeB v ++ nodesB l ++ r) = _
    rw [rdNodes, List.append_assoc, rdNode_back hn (ho v (List.mem_cons_self ..)) (h v (List.mem_cons_self ..)), Option.bind_some, rdNodes_back hn l r (fun x hx => ho x (List.mem_cons_of_mem _ hx)) (fun x hx => h x (List.mem_cons_of_mem _ hx))]
    rfl
theorem rdGraph_back {g : GG} (ho : g.Ok) (hok : okG g = true) (r : List Nat) : rdGraph (graphB g ++ r) = some (g, r) := by
  obtain ⟨hn, hroot, hnodes⟩ := okG_parts hok
  have e0 : rdText 2 (graphB g ++ r) = some (⟨#[72, 49]⟩, numB g.nodes.length ++ (valB g.root ++ (nodesB g.nodes ++ r))) := by
    have h1 := rdText_bs ⟨#[72, 49]⟩ (numB g.nodes.length ++ (valB g.root ++ (nodesB g.nodes ++ r)))
    have e : graphB g ++ r = bsOf ⟨#[72, 49]⟩ ++ (numB g.nodes.length ++ (valB g.root ++ (nodesB g.nodes ++ r))) := by unfold graphB; simp only [List.append_assoc]; rfl
    rw [e]; exact h1
  unfold rdGraph
  rw [e0, Option.bind_some, if_pos rfl]
  dsimp only
  rw [rdCount_num (m := g.nodes.length) (most := 300) hn (by omega), Option.bind_some]
  dsimp only
  rw [rdVal_back hn ho.root hroot, Option.bind_some]
  dsimp only
  rw [rdNodes_back hn g.nodes r ho.nodes hnodes]
  rfl

/-- what Unpack answers -/
def zeroG : GG := ⟨⟨0, 0, ⟨#[]⟩, 0⟩, []⟩
def unB (bs : List Nat) : Bool × GG :=
  match rdGraph bs with
  | some (g, _) => if packB g = bs then (true, g) else (false, zeroG)
  | none => (false, zeroG)

end Go.Proofs.Ythjddpkegooobab
