import Derived.Laws.BitsAllLaws
import Derived.Laws.OwnMore
import Derived.Deep.Cut
import Derived.Test.YtmdpmdmilgbfiaaGreatDoorPartG

/-
  VALOF: a value taken back from behind its interface. Own work.
-/
namespace Go.Proofs.YtmdpmdmilgbfiaaGreatDoor
open Go.RowKit

set_option maxRecDepth 100000 in
theorem method_num (m : Int) (w : World) : (method 364 225 (.int .i64 m) "loop.example/chest/impl.kind").run Tryz.prog w = .ok (187, .int .i64 m) w := by kernel_rfl
theorem method_bits (m : Int) (w : World) : (method 364 226 (.int .i64 m) "loop.example/chest/impl.kind").run Tryz.prog w = .ok (188, .int .i64 m) w := by kernel_rfl
theorem method_text (s : ByteArray) (w : World) : (method 364 227 (.string s) "loop.example/chest/impl.kind").run Tryz.prog w = .ok (189, .string s) w := by kernel_rfl
set_option maxRecDepth 100000 in
theorem method_thing (b : Nat) (w : World) : (method 364 200 (ptr b) "loop.example/chest/impl.kind").run Tryz.prog w = .ok (175, ptr b) w := by kernel_rfl
theorem method_nothing (w : World) : (method 364 230 (.agg #[]) "loop.example/chest/impl.kind").run Tryz.prog w = .ok (190, .agg #[]) w := by kernel_rfl

set_option maxRecDepth 100000 in
theorem ta_num_num (x : Value) (w : World) : (Instr.typeAssert (.iface 225 x) 150 225 true).run Tryz.prog w = .ok (.tuple #[x, .bool true]) w := by kernel_rfl
theorem ta_bits_num (x : Value) (w : World) : (Instr.typeAssert (.iface 226 x) 150 225 true).run Tryz.prog w = .ok (.tuple #[.int .i64 0, .bool false]) w := by kernel_rfl
theorem ta_bits_bits (x : Value) (w : World) : (Instr.typeAssert (.iface 226 x) 150 226 true).run Tryz.prog w = .ok (.tuple #[x, .bool true]) w := by kernel_rfl
set_option maxRecDepth 100000 in
theorem ta_text_num (x : Value) (w : World) : (Instr.typeAssert (.iface 227 x) 150 225 true).run Tryz.prog w = .ok (.tuple #[.int .i64 0, .bool false]) w := by kernel_rfl
theorem ta_text_bits (x : Value) (w : World) : (Instr.typeAssert (.iface 227 x) 150 226 true).run Tryz.prog w = .ok (.tuple #[.int .i64 0, .bool false]) w := by kernel_rfl
theorem ta_text_text (x : Value) (w : World) : (Instr.typeAssert (.iface 227 x) 150 227 true).run Tryz.prog w = .ok (.tuple #[x, .bool true]) w := by kernel_rfl
set_option maxRecDepth 100000 in
theorem ta_thing_num (x : Value) (w : World) : (Instr.typeAssert (.iface 200 x) 150 225 true).run Tryz.prog w = .ok (.tuple #[.int .i64 0, .bool false]) w := by kernel_rfl
theorem ta_thing_bits (x : Value) (w : World) : (Instr.typeAssert (.iface 200 x) 150 226 true).run Tryz.prog w = .ok (.tuple #[.int .i64 0, .bool false]) w := by kernel_rfl
theorem ta_thing_text (x : Value) (w : World) : (Instr.typeAssert (.iface 200 x) 150 227 true).run Tryz.prog w = .ok (.tuple #[.string .empty, .bool false]) w := by kernel_rfl
set_option maxRecDepth 100000 in
theorem ta_thing_thing (x : Value) (w : World) : (Instr.typeAssert (.iface 200 x) 150 200 true).run Tryz.prog w = .ok (.tuple #[x, .bool true]) w := by kernel_rfl
theorem ta_nothing_num (x : Value) (w : World) : (Instr.typeAssert (.iface 230 x) 150 225 true).run Tryz.prog w = .ok (.tuple #[.int .i64 0, .bool false]) w := by kernel_rfl
theorem ta_nothing_bits (x : Value) (w : World) : (Instr.typeAssert (.iface 230 x) 150 226 true).run Tryz.prog w = .ok (.tuple #[.int .i64 0, .bool false]) w := by kernel_rfl
set_option maxRecDepth 100000 in
theorem ta_nothing_text (x : Value) (w : World) : (Instr.typeAssert (.iface 230 x) 150 227 true).run Tryz.prog w = .ok (.tuple #[.string .empty, .bool false]) w := by kernel_rfl
theorem ta_nothing_thing (x : Value) (w : World) : (Instr.typeAssert (.iface 230 x) 150 200 true).run Tryz.prog w = .ok (.tuple #[.pointer none, .bool false]) w := by kernel_rfl

set_option maxRecDepth 100000 in
theorem valOf_num (M : Nat) (m : Int) (w : World) :
    Calls Tryz.prog 126 #[ptr M, .iface 225 (.int .i64 m)] w fun e w' => e = .returned (GV.mk 1 m ⟨#[]⟩ 0).val ∧ Below w.heap.size w w' := by
  have hme := method_num m
  have h1 := ta_num_num (.int .i64 m)
  go_enter Tryz.func126, Tryz.ntmps126
  go_wp2
  exact bodyPost_ret (v := (GV.mk 1 m ⟨#[]⟩ 0).val) (by simp [results, Tryz.results126, go_sem]) rfl ⟨rfl, gal (gal (gre _) _) _⟩

set_option maxRecDepth 100000 in
theorem valOf_bits (M : Nat) (m : Int) (w : World) :
    Calls Tryz.prog 126 #[ptr M, .iface 226 (.int .i64 m)] w fun e w' => e = .returned (GV.mk 2 m ⟨#[]⟩ 0).val ∧ Below w.heap.size w w' := by
  have hme := method_bits m
  have h1 := ta_bits_num (.int .i64 m)
  have h2 := ta_bits_bits (.int .i64 m)
  go_enter Tryz.func126, Tryz.ntmps126
  go_wp2
  exact bodyPost_ret (v := (GV.mk 2 m ⟨#[]⟩ 0).val) (by simp [results, Tryz.results126, go_sem]) rfl ⟨rfl, gal (gal (gre _) _) _⟩

set_option maxRecDepth 100000 in
theorem valOf_nothing (M : Nat) (w : World) :
    Calls Tryz.prog 126 #[ptr M, .iface 230 (.agg #[])] w fun e w' => e = .returned (GV.mk 0 0 ⟨#[]⟩ 0).val ∧ Below w.heap.size w w' := by
  have hme := method_nothing
  have h1 := ta_nothing_num (.agg #[])
  have h2 := ta_nothing_bits (.agg #[])
  have h3 := ta_nothing_text (.agg #[])
  have h4 := ta_nothing_thing (.agg #[])
  go_enter Tryz.func126, Tryz.ntmps126
  go_wp2
  exact bodyPost_ret (v := (GV.mk 0 0 ⟨#[]⟩ 0).val) (by simp [results, Tryz.results126, go_sem]) rfl ⟨rfl, gal (gal (gal (gre _) _) _) _⟩

set_option maxRecDepth 100000 in
theorem valOf_text (M : Nat) (s : ByteArray) (w : World) (hs : s.size ≤ 1000) :
    Calls Tryz.prog 126 #[ptr M, .iface 227 (.string s)] w fun e w' => e = .returned (GV.mk 3 0 s 0).val ∧ Below w.heap.size w w' := by
  have hme := method_text s
  have h1 := ta_text_num (.string s)
  have h2 := ta_text_bits (.string s)
  have h3 := ta_text_text (.string s)
  go_enter Tryz.func126, Tryz.ntmps126
  go_wp2_with (first | (go_at_call 143; refine (clone_any s _ hs).mono ?_; rintro e w' ⟨rfl, hb⟩; obtain ⟨z0, a0, a1, a2, a3, af⟩ := ((Four.new_at w ⟨0, 0, ⟨#[]⟩, 0⟩ 29 w.heap.size rfl).alloc _).kept (Kept.of_below hb (fun _ => False)) (fun e => e); obtain ⟨z1, b0, b1, b2, b3, bf⟩ := (Four.new_at _ ⟨3, 0, ⟨#[]⟩, 0⟩ 29 (w.heap.size + 1) (by simp)).kept (Kept.of_below hb (fun _ => False)) (fun e => e)) | go_in)
  refine bodyPost_ret (v := (GV.mk 3 0 s 0).val) (by simp [results, Tryz.results126, go_sem, a0, a1, a2, a3]) rfl ⟨rfl, ?_⟩
  exact gse (gse (gse (gse (gse (gca (gal (gal (gre _) _) _) hb) (by simp) _) (by simp) _) (by simp) _) (by simp) _) (by simp) _

/-- what taking a value back leaves -/
def ValPost (w : World) (tb : Nat → Nat) (M mb base : Nat) (ord : List Nat) (v : GV) (ma : Option Addr) (e : Ending) (w' : World) : Prop :=
  ∃ ma' mc', e = .returned (renVal ord v).val ∧ Meet w' tb M mb base (renOrd ord v) ma' mc' ∧ (ma' = ma ∨ ∃ b, ma' = some ⟨b, 0, none⟩ ∧ w.heap.size ≤ b) ∧ Kept (fun k => k = M ∨ k = mb ∨ ma = some ⟨k, 0, none⟩) w w'

set_option maxRecDepth 100000 in
theorem renOrd_add {ord : List Nat} {v : GV} (hk : v.kind = 4) : renOrd ord v = addOrd ord v.node.toNat := by
  unfold renOrd addOrd
  by_cases h : v.node.toNat ∈ ord
  · rw [if_neg (fun c => c.2 h), if_pos h]
  · rw [if_pos ⟨hk, h⟩, if_neg h]

set_option maxRecDepth 100000 in
theorem valOf_thing (n : Nat) (tb : Nat → Nat) (M mb base : Nat) (ord : List Nat) (x : Nat) (ma : Option Addr) (mc : Nat) (w : World) (hinv : InvO n ord) (hx : x < n) (hn : n ≤ 300) (hinj : ∀ i j, i < n → j < n → tb i = tb j → i = j)
    (hcells : ∀ i, i < n → CellsAt w (tb i)) (hM : Meet w tb M mb base ord ma mc) (hbase : base ≤ w.heap.size) :
    Calls Tryz.prog 126 #[ptr M, .iface 200 (ptr (tb x))] w (ValPost w tb M mb base ord ⟨4, 0, ⟨#[]⟩, x⟩ ma) := by
  have hme := method_thing (tb x)
  have h1 := ta_thing_num (ptr (tb x))
  have h2 := ta_thing_bits (ptr (tb x))
  have h3 := ta_thing_text (ptr (tb x))
  have h4 := ta_thing_thing (ptr (tb x))
  have hA : Kept (fun _ => False) w ((w.alloc (.cells #[.int .i64 0, .int .i64 0, .string ⟨#[]⟩, .int .i64 0] 29)).alloc (.cells #[.int .i64 4, .int .i64 0, .string ⟨#[]⟩, .int .i64 0] 29)) := ((Kept.refl _ w).alloc _).alloc _
  have hM1 := hM.kept hA (fun e => e) (fun e => e) (fun _ _ e => e)
  have hcells1 : ∀ i, i < n → CellsAt ((w.alloc (.cells #[.int .i64 0, .int .i64 0, .string ⟨#[]⟩, .int .i64 0] 29)).alloc (.cells #[.int .i64 4, .int .i64 0, .string ⟨#[]⟩, .int .i64 0] 29)) (tb i) := fun i hi => by
    obtain ⟨c, t, hc⟩ := hcells i hi
    exact ⟨c, t, (hA.block _ (Array.getElem?_eq_some_iff.1 hc).1 (fun e => e)).trans hc⟩
  have hnew0 : ¬ (w.heap.size = M ∨ w.heap.size = mb ∨ ma = some ⟨w.heap.size, 0, none⟩) := fun hp => by
    have hm := hM.mlt
    rcases hp with hp | hp | hp
    · omega
    · omega
    · have := (hM.met.lt w.heap.size (by rw [hp]; rfl)).2; omega
  have hnew1 : ¬ (w.heap.size + 1 = M ∨ w.heap.size + 1 = mb ∨ ma = some ⟨w.heap.size + 1, 0, none⟩) := fun hp => by
    have hm := hM.mlt
    rcases hp with hp | hp | hp
    · omega
    · omega
    · have := (hM.met.lt (w.heap.size + 1) (by rw [hp]; rfl)).2; omega
  go_enter Tryz.func126, Tryz.ntmps126
  go_wp2_with (first | (go_at_call 144; refine (placeOf_any n tb M mb base ord x ma mc _ hinv hx hn hinj hcells1 hM1 (by simp; omega)).mono ?_; rintro e w' ⟨ma', mc', rfl, hM', hor, hK'⟩; obtain ⟨z0, a0, a1, a2, a3, af⟩ := ((Four.new_at w ⟨0, 0, ⟨#[]⟩, 0⟩ 29 w.heap.size rfl).alloc _).kept hK' hnew0; obtain ⟨z1, b0, b1, b2, b3, bf⟩ := (Four.new_at _ ⟨4, 0, ⟨#[]⟩, 0⟩ 29 (w.heap.size + 1) (by simp)).kept hK' hnew1) | go_in)
  have hx4 : Hid (renVal ord ⟨4, 0, ⟨#[]⟩, x⟩ = ⟨4, 0, ⟨#[]⟩, ((addOrd ord x).idxOf x : Nat)⟩) := by
    show renVal ord ⟨4, 0, ⟨#[]⟩, x⟩ = _
    unfold renVal
    rw [if_pos rfl, renOrd_add rfl]
    rfl
  have hx5 : Hid (renOrd ord ⟨4, 0, ⟨#[]⟩, x⟩ = addOrd ord x) := renOrd_add rfl
  have hC : Kept (fun k => k = w.heap.size ∨ k = w.heap.size + 1) w' (((((w'.setCell ⟨w.heap.size + 1, 3, none⟩ (.int .i64 ((addOrd ord x).idxOf x : Nat))).setCell ⟨w.heap.size, 0, none⟩ (.int .i64 4)).setCell ⟨w.heap.size, 1, none⟩ (.int .i64 0)).setCell ⟨w.heap.size, 2, none⟩ (.string ⟨#[]⟩)).setCell ⟨w.heap.size, 3, none⟩ (.int .i64 ((addOrd ord x).idxOf x : Nat))) :=
    (((((Kept.refl (fun k => k = w.heap.size ∨ k = w.heap.size + 1) w').set (fun _ => Or.inr rfl) _).set (fun _ => Or.inl rfl) _).set (fun _ => Or.inl rfl) _).set (fun _ => Or.inl rfl) _).set (fun _ => Or.inl rfl) _
  obtain ⟨m1, m2, m3⟩ := hM.mlt
  refine bodyPost_ret (v := (GV.mk 4 0 ⟨#[]⟩ ((addOrd ord x).idxOf x : Nat)).val) (by simp [results, Tryz.results126, go_sem, a0, a1, a2, a3]) rfl ⟨ma', mc', by rw [hx4.out], ?_, ?_, ?_⟩
  · rw [hx5.out]
    refine hM'.kept hC (by omega) (by omega) (fun b hb => ?_)
    rcases hor with e | ⟨c, e, hc⟩
    · have := hM.met.lt b (by rw [← e, hb]; rfl); omega
    · rw [hb] at e
      have e2 := some_addr e
      have h7 := hM'.met.lt b (by rw [hb]; rfl)
      simp at hc
      omega
  · rcases hor with e | ⟨c, e, hc⟩
    · exact Or.inl e
    · simp at hc; exact Or.inr ⟨c, e, by omega⟩
  · exact ((hA.mono (q := fun k => k = M ∨ k = mb ∨ ma = some ⟨k, 0, none⟩) (fun _ _ e => e.elim)).trans hK' (fun _ _ e => e)).trans hC (fun k hk hp => by omega)

set_option maxRecDepth 100000 in
theorem text_empty {s : ByteArray} (h : s.toList = []) : s = ⟨#[]⟩ := by
  apply ByteArray.ext
  have h2 : s.data.toList = [] := by rw [← ByteArray.toList_eq]; exact h
  simpa using h2

set_option maxRecDepth 100000 in
theorem ValPost.of_below {w : World} {tb : Nat → Nat} {M mb base : Nat} {ord : List Nat} {v : GV} {ma : Option Addr} {mc : Nat} (hM : Meet w tb M mb base ord ma mc) (hk : v.kind ≠ 4) {e : Ending} {w' : World} (he : e = .returned v.val) (hb : Below w.heap.size w w') : ValPost w tb M mb base ord v ma e w' := by
  obtain ⟨e1, e2⟩ := ren_not (ord := ord) hk
  have hK : Kept (fun _ => False) w w' := Kept.of_below hb _
  exact ⟨ma, mc, by rw [e2]; exact he, by rw [e1]; exact hM.kept hK (fun e => e) (fun e => e) (fun _ _ e => e), Or.inl rfl, hK.mono (fun _ _ e => e.elim)⟩

set_option maxRecDepth 100000 in
theorem valOf_any (n : Nat) (tb : Nat → Nat) (M mb base : Nat) (ord : List Nat) (v : GV) (ma : Option Addr) (mc : Nat) (w : World) (hv : okV n v = true) (hinv : InvO n ord) (hn : n ≤ 300) (hinj : ∀ i j, i < n → j < n → tb i = tb j → i = j)
    (hcells : ∀ i, i < n → CellsAt w (tb i)) (hM : Meet w tb M mb base ord ma mc) (hbase : base ≤ w.heap.size) :
    Calls Tryz.prog 126 #[ptr M, encV tb v] w (ValPost w tb M mb base ord v ma) := by
  obtain ⟨k, m, t, x⟩ := v
  have hv' := hv
  unfold okV at hv'
  dsimp only at hv'
  by_cases h1 : k = 1
  · subst h1
    rw [if_neg (by decide), if_pos (Or.inl rfl)] at hv'
    obtain ⟨ht, hx⟩ := of_decide_eq_true hv'
    obtain rfl := text_empty ht
    subst hx
    rw [enc1 rfl]
    exact (valOf_num M m w).mono fun e w' h => ValPost.of_below hM (by simp) h.1 h.2
  by_cases h2 : k = 2
  · subst h2
    rw [if_neg (by decide), if_pos (Or.inr rfl)] at hv'
    obtain ⟨ht, hx⟩ := of_decide_eq_true hv'
    obtain rfl := text_empty ht
    subst hx
    rw [enc2 rfl]
    exact (valOf_bits M m w).mono fun e w' h => ValPost.of_below hM (by simp) h.1 h.2
  by_cases h3 : k = 3
  · subst h3
    rw [if_neg (by decide), if_neg (by decide), if_pos rfl] at hv'
    obtain ⟨hm, hx, ht⟩ := of_decide_eq_true hv'
    subst hm hx
    rw [enc3 rfl]
    exact (valOf_text M t w ht).mono fun e w' h => ValPost.of_below hM (by simp) h.1 h.2
  by_cases h4 : k = 4
  · subst h4
    rw [if_neg (by decide), if_neg (by decide), if_neg (by decide), if_pos rfl] at hv'
    obtain ⟨hm, ht, hx0, hxn⟩ := of_decide_eq_true hv'
    obtain rfl := text_empty ht
    subst hm
    obtain ⟨y, rfl⟩ := Int.eq_ofNat_of_zero_le hx0
    rw [enc4 rfl]
    exact valOf_thing n tb M mb base ord y ma mc w hinv (by omega) hn hinj hcells hM hbase
  · by_cases h0 : k = 0
    · subst h0
      rw [if_pos rfl] at hv'
      obtain ⟨hm, ht, hx⟩ := of_decide_eq_true hv'
      obtain rfl := text_empty ht
      subst hm hx
      rw [enc0 (by decide) (by decide) (by decide) (by decide)]
      exact (valOf_nothing M w).mono fun e w' h => ValPost.of_below hM (by simp) h.1 h.2
    · rw [if_neg h0, if_neg (fun h => h.elim h1 h2), if_neg h3, if_neg h4] at hv'
      cases hv'

end Go.Proofs.YtmdpmdmilgbfiaaGreatDoor

/-
  OB2: the specification's values as bytes. Own work.
-/
namespace Go.Proofs.YtmdpmdmilgbfiaaGreatDoor
open Go.RowKit

set_option maxRecDepth 100000 in
theorem l2eight_any (base : Nat) (oa : Option Addr) (len cap : Nat) (xs : List Nat) (n : Nat) (z : Int) (w : World) (hlen : len = xs.length) (hz : z = (n : Int)) (hn : n < 18446744073709551616) (hbase : base ≤ w.heap.size) (hl : xs.length ≤ 1099511627776)
    (hO : w.ownsRow base 5 1 (.slice oa xs.length cap) xs.length (bcells xs)) :
    Calls Tryz.prog 90 #[.slice oa len cap, .int .u64 z] w (APost base oa xs (lowB 8 n) w) := by
  subst hz hlen
  obtain ⟨i0, hi, hz0, hz1, hz2⟩ := info_parts info_u8
  go_enter Tryz.func90, Tryz.ntmps90
  go_wp2
  go_loopw [0, 1, 5] (fun o i c ws => ∃ (k m : Nat) (zs : List Nat) (oa1 : Option Addr) (cap1 : Nat), o = .slice oa1 zs.length cap1 ∧ i = .int .u64 m ∧ c = .int .i64 k ∧ k ≤ 8 ∧ Hid (zs = xs ++ lowB k n) ∧ Hid (m = n / 256 ^ k) ∧ zs.length ≤ xs.length + k ∧ m < 18446744073709551616 ∧ Ob w base oa ws oa1 cap1 zs) (fun _ _ c _ => 8 - (intOf c).toNat)
  case atStart => exact ⟨0, n, xs, oa, cap, rfl, rfl, rfl, by omega, (List.append_nil _).symm, by show _ = _; simp, Nat.le_refl _, hn, Ob.start hO⟩
  case round =>
    obtain ⟨k, m, zs, oa1, cap1, rfl, rfl, rfl, hk, hzs, hm, hzl, hm64, hOb⟩ := hrel
    have hsz := hOb.kept.size
    by_cases hlt : k < 8
    · have hd : (k : Int) < 8 := by omega
      obtain ⟨x, hx⟩ : ∃ x, Hid (x = m % 256) := ⟨_, rfl⟩
      have e2 : IntKind.u8.wrap (m : Int) = (x : Int) := by rw [hx.out, IntKind.wrap_u8']; omega
      go_wp2_with (at_builtin; refine wpList_append_lies _ rfl (.tmp 10) (.tmp 13) 22 rfl base 5 i0 (.int .u8 0) 1 1 Tryz.underlying22 hi hz0 hz1 hz2 rfl (by decide) _ _ _ rfl (hOb.own.alloc _) ⟨wr.heap.size, 0, none⟩ 1 1 [.int .u8 (x : Int)] rfl rfl (World.news_of_block (cs := #[.int .u8 (x : Int)]) (t := 5) (fr := (0, 0)) (blk_new_at _ _ _ (by simp))) (by simp [Value.oneCell']) (by decide) (by unfold maxLen; omega) (by omega) (by simp; omega) (wr.heap.size + 1) (by simp) ?_; intro g cap2 w1 hown1 hgrow hat hlt2)
      have hP := hOb.push (ys := [x]) (gal (gre _) _) hown1 hgrow (hat.elim Or.inl (fun h => Or.inr (by omega)))
      go_roundw
      case rel =>
        refine ⟨k + 1, m / 256, zs ++ [x], _, _, by simp, by go_num, by go_num, by omega, ?_, ?_, by simp; omega, by omega, hP⟩
        · show _ = _
          rw [hzs.out, lowB_snoc, hx.out, hm.out, List.append_assoc]
        · show _ = _
          rw [hm.out, Nat.div_div_eq_div_mul, Nat.pow_succ]
      case measure => simp [intOf]; omega
    · obtain rfl : k = 8 := by omega
      go_wp2
      go_ret
      have e3 := hzs.out
      subst e3
      exact ⟨_, _, rfl, hOb⟩

set_option maxRecDepth 100000 in
theorem l2signed_any (n : Int) (w : World) (hn : I64 n) :
    Calls Tryz.prog 129 #[.int .i64 n] w fun e w' => e = .returned (.int .u64 (zig n : Int)) ∧ Below w.heap.size w w' := by
  unfold I64 at hn
  by_cases h0 : n < 0
  · have e1 : Hid (zig n = (-2 * n - 1).toNat) := if_pos h0
    go_enter Tryz.func129, Tryz.ntmps129
    go_wp2
    go_ret
    refine ⟨ret_int ?_, gre _⟩
    rw [e1.out]
    try simp only [IntKind.wrap_u64, wrap64]
    omega
  · have e1 : Hid (zig n = (2 * n).toNat) := if_neg h0
    go_enter Tryz.func129, Tryz.ntmps129
    go_wp2
    go_ret
    refine ⟨ret_int ?_, gre _⟩
    rw [e1.out]
    try simp only [IntKind.wrap_u64, wrap64]
    omega

set_option maxRecDepth 100000 in
theorem l2val_nil (base : Nat) (oa : Option Addr) (cap : Nat) (xs : List Nat)  (w : World)  (hbase : base ≤ w.heap.size) (hl : xs.length ≤ 1099511600000)
    (hO : w.ownsRow base 5 1 (.slice oa xs.length cap) xs.length (bcells xs)) :
    Calls Tryz.prog 89 #[.slice oa xs.length cap, (GV.mk 0 0 ⟨#[]⟩ 0).val] w (APost base oa xs (0 :: []) w) := by
  obtain ⟨i0, hi, hz0, hz1, hz2⟩ := info_parts info_u8
  have hF := (Four.new w ⟨0, 0, ⟨#[]⟩, 0⟩ 29).alloc (.cells #[.int .u8 0] 5)
  have hn0 : ¬ ((Value.slice oa xs.length cap).ownBlock = some w.heap.size) := fun e => by have := (hO.lt _ e).2; omega
  go_enter Tryz.func89, Tryz.ntmps89
  go_wp2_with (at_builtin; refine wpList_append_lies _ rfl (.tmp 5) (.tmp 9) 22 rfl base 5 i0 (.int .u8 0) 1 1 Tryz.underlying22 hi hz0 hz1 hz2 rfl (by decide) _ _ _ rfl ((hO.alloc _).alloc _) ⟨w.heap.size + 1, 0, none⟩ 1 1 [.int .u8 0] rfl rfl (World.news_of_block (cs := #[.int .u8 0]) (t := 5) (fr := (0, 0)) (blk_new_at _ _ _ (by simp))) (by simp [Value.oneCell']) (by decide) (by unfold maxLen; omega) (by omega) (by simp; omega) (w.heap.size + 2) (by simp) ?_; intro g cap2 w1 hown1 hgrow hat hlt2; have hF1 := hF.kept (Kept.of_grown hgrow) hn0; obtain ⟨fz, f0, f1, f2, f3, ff⟩ := id hF1; have hP := (Ob.start hO).push (ys := [0]) (gal (gal (gre _) _) _) hown1 hgrow (hat.elim Or.inl (fun h => Or.inr (by omega))); have hs1 := hP.kept.size)
  go_ret
  exact ⟨_, _, by simp, hP⟩

set_option maxRecDepth 100000 in
theorem l2val_num (base : Nat) (oa : Option Addr) (cap : Nat) (xs : List Nat) (num : Int) (w : World) (hn : I64 num) (hbase : base ≤ w.heap.size) (hl : xs.length ≤ 1099511600000)
    (hO : w.ownsRow base 5 1 (.slice oa xs.length cap) xs.length (bcells xs)) :
    Calls Tryz.prog 89 #[.slice oa xs.length cap, (GV.mk 1 num ⟨#[]⟩ 0).val] w (APost base oa xs (1 :: numB (zig num)) w) := by
  obtain ⟨i0, hi, hz0, hz1, hz2⟩ := info_parts info_u8
  have hF := (Four.new w ⟨1, num, ⟨#[]⟩, 0⟩ 29).alloc (.cells #[.int .u8 1] 5)
  have hn0 : ¬ ((Value.slice oa xs.length cap).ownBlock = some w.heap.size) := fun e => by have := (hO.lt _ e).2; omega
  go_enter Tryz.func89, Tryz.ntmps89
  go_wp2_with (first
    | (at_builtin; refine wpList_append_lies _ rfl (.tmp 5) (.tmp 9) 22 rfl base 5 i0 (.int .u8 0) 1 1 Tryz.underlying22 hi hz0 hz1 hz2 rfl (by decide) _ _ _ rfl ((hO.alloc _).alloc _) ⟨w.heap.size + 1, 0, none⟩ 1 1 [.int .u8 1] rfl rfl (World.news_of_block (cs := #[.int .u8 1]) (t := 5) (fr := (0, 0)) (blk_new_at _ _ _ (by simp))) (by simp [Value.oneCell']) (by decide) (by unfold maxLen; omega) (by omega) (by simp; omega) (w.heap.size + 2) (by simp) ?_; intro g cap2 w1 hown1 hgrow hat hlt2; have hF1 := hF.kept (Kept.of_grown hgrow) hn0; obtain ⟨fz, f0, f1, f2, f3, ff⟩ := id hF1; have hP := (Ob.start hO).push (ys := [1]) (gal (gal (gre _) _) _) hown1 hgrow (hat.elim Or.inl (fun h => Or.inr (by omega))); have hs1 := hP.kept.size)
    | (go_at_call 129; refine (l2signed_any num _ hn).mono ?_; rintro e w2 ⟨rfl, hb2⟩; have hP2 := hP.grow hb2; have hs2 := hP2.kept.size)
    | (go_at_call 88; refine (l2num_any base _ _ _ (xs ++ [1]) (zig num) _ _ (by simp) rfl (zig_lt hn) (by omega) (by simp; omega) hP2.own).mono ?_; rintro e w3 ⟨oa3, cap3, rfl, hQ⟩))
  go_ret
  have hR := hP2.call hQ
  rw [List.append_assoc] at hR
  exact ⟨_, _, by simp, hR⟩

set_option maxRecDepth 100000 in
theorem l2val_bits (base : Nat) (oa : Option Addr) (cap : Nat) (xs : List Nat) (num : Int) (w : World)  (hbase : base ≤ w.heap.size) (hl : xs.length ≤ 1099511600000)
    (hO : w.ownsRow base 5 1 (.slice oa xs.length cap) xs.length (bcells xs)) :
    Calls Tryz.prog 89 #[.slice oa xs.length cap, (GV.mk 2 num ⟨#[]⟩ 0).val] w (APost base oa xs (2 :: lowB 8 (u64n num)) w) := by
  obtain ⟨i0, hi, hz0, hz1, hz2⟩ := info_parts info_u8
  have hF := (Four.new w ⟨2, num, ⟨#[]⟩, 0⟩ 29).alloc (.cells #[.int .u8 2] 5)
  have hn0 : ¬ ((Value.slice oa xs.length cap).ownBlock = some w.heap.size) := fun e => by have := (hO.lt _ e).2; omega
  have e6 : IntKind.u64.wrap num = ((u64n num : Nat) : Int) := by rw [IntKind.wrap_u64]; unfold u64n; omega
  go_enter Tryz.func89, Tryz.ntmps89
  go_wp2_with (first
    | (at_builtin; refine wpList_append_lies _ rfl (.tmp 5) (.tmp 9) 22 rfl base 5 i0 (.int .u8 0) 1 1 Tryz.underlying22 hi hz0 hz1 hz2 rfl (by decide) _ _ _ rfl ((hO.alloc _).alloc _) ⟨w.heap.size + 1, 0, none⟩ 1 1 [.int .u8 2] rfl rfl (World.news_of_block (cs := #[.int .u8 2]) (t := 5) (fr := (0, 0)) (blk_new_at _ _ _ (by simp))) (by simp [Value.oneCell']) (by decide) (by unfold maxLen; omega) (by omega) (by simp; omega) (w.heap.size + 2) (by simp) ?_; intro g cap2 w1 hown1 hgrow hat hlt2; have hF1 := hF.kept (Kept.of_grown hgrow) hn0; obtain ⟨fz, f0, f1, f2, f3, ff⟩ := id hF1; have hP := (Ob.start hO).push (ys := [2]) (gal (gal (gre _) _) _) hown1 hgrow (hat.elim Or.inl (fun h => Or.inr (by omega))); have hs1 := hP.kept.size)
    | (go_at_call 90; refine (l2eight_any base _ _ _ (xs ++ [2]) (u64n num) _ _ (by simp) ?_ (u64n_lt num) (by omega) (by simp; omega) hP.own).mono ?_; (first | rfl | exact e6); rintro e w3 ⟨oa3, cap3, rfl, hQ⟩))
  go_ret
  have hR := hP.call hQ
  rw [List.append_assoc] at hR
  exact ⟨_, _, by simp, hR⟩

set_option maxRecDepth 100000 in
theorem l2val_node (base : Nat) (oa : Option Addr) (cap : Nat) (xs : List Nat) (node : Nat) (w : World) (hn : node < 300) (hbase : base ≤ w.heap.size) (hl : xs.length ≤ 1099511600000)
    (hO : w.ownsRow base 5 1 (.slice oa xs.length cap) xs.length (bcells xs)) :
    Calls Tryz.prog 89 #[.slice oa xs.length cap, (GV.mk 4 0 ⟨#[]⟩ node).val] w (APost base oa xs (4 :: numB node) w) := by
  obtain ⟨i0, hi, hz0, hz1, hz2⟩ := info_parts info_u8
  have hF := (Four.new w ⟨4, 0, ⟨#[]⟩, node⟩ 29).alloc (.cells #[.int .u8 4] 5)
  have hn0 : ¬ ((Value.slice oa xs.length cap).ownBlock = some w.heap.size) := fun e => by have := (hO.lt _ e).2; omega
  have e6 : IntKind.u64.wrap (node : Int) = (node : Int) := by rw [IntKind.wrap_u64]; omega
  go_enter Tryz.func89, Tryz.ntmps89
  go_wp2_with (first
    | (at_builtin; refine wpList_append_lies _ rfl (.tmp 5) (.tmp 9) 22 rfl base 5 i0 (.int .u8 0) 1 1 Tryz.underlying22 hi hz0 hz1 hz2 rfl (by decide) _ _ _ rfl ((hO.alloc _).alloc _) ⟨w.heap.size + 1, 0, none⟩ 1 1 [.int .u8 4] rfl rfl (World.news_of_block (cs := #[.int .u8 4]) (t := 5) (fr := (0, 0)) (blk_new_at _ _ _ (by simp))) (by simp [Value.oneCell']) (by decide) (by unfold maxLen; omega) (by omega) (by simp; omega) (w.heap.size + 2) (by simp) ?_; intro g cap2 w1 hown1 hgrow hat hlt2; have hF1 := hF.kept (Kept.of_grown hgrow) hn0; obtain ⟨fz, f0, f1, f2, f3, ff⟩ := id hF1; have hP := (Ob.start hO).push (ys := [4]) (gal (gal (gre _) _) _) hown1 hgrow (hat.elim Or.inl (fun h => Or.inr (by omega))); have hs1 := hP.kept.size)
    | (go_at_call 88; refine (l2num_any base _ _ _ (xs ++ [4]) node _ _ (by simp) ?_ (by omega) (by omega) (by simp; omega) hP.own).mono ?_; (first | rfl | exact e6); rintro e w3 ⟨oa3, cap3, rfl, hQ⟩))
  go_ret
  have hR := hP.call hQ
  rw [List.append_assoc] at hR
  exact ⟨_, _, by simp, hR⟩


set_option maxRecDepth 100000 in
/-- a text's bytes appended: where they lie -/
theorem append_str_lies {P : Program} (w : World) (base : Nat) (t u ty e : TypeId) (i : TypeInfo) (ht : P.underlying t = some (.slice e)) (hu : P.underlying u = some .string) (hi : P.info? e = some i) (hz : i.zero = some (.int .u8 0))
    (hsize : i.size = 1) (hby : i.bytes = 1) (v : Value) (n : Nat) (xs : List Value) (hown : w.ownsRow base e 1 v n xs) (s : ByteArray)
    (h63 : n + s.size ≤ maxLen) (hbytes : n + s.size ≤ 140737488355328) (hbase : base ≤ w.heap.size) (hn : 0 < n) :
    ∃ g cap w', (Builtin.append_ #[t, u] ty #[v, .string s]).run P w = .ok (.slice (some ⟨g, 0, none⟩) (n + s.size) cap) w' ∧ w'.ownsRow base e 1 (.slice (some ⟨g, 0, none⟩) (n + s.size) cap) (n + s.size) (xs ++ Lib.strCells s) ∧ w.grownBy w' v.ownBlock ∧ (v.ownBlock = some g ∨ g = w.heap.size) := by
  obtain ⟨v', w', hr, h2, h3, _⟩ := Lib.run_append_own_string (P := P) w base t u ty e i ht hu hi hz hsize hby v n xs hown s h63 hbytes hbase
  obtain ⟨g, cap, rfl, _, hlt⟩ := h2.form (by omega)
  refine ⟨g, cap, w', hr, h2, h3, ?_⟩
  unfold maxLen at h63
  have hxl : xs.length = n := by simpa using hown.1
  rcases hown.2 with ⟨rfl, rfl⟩ | ⟨g0, cap0, cur, rfl, hbg, hg, hnc, hcm, hcs, htake⟩
  · omega
  · have hcs' : cur.size = cap0 := by simpa using hcs
    by_cases hroom : n + s.size ≤ cap0
    · have hr2 := Lib.run_append_room_string (P := P) w t u ty e i ht hu hi hsize g0 n cap0 cur hg s hroom (by omega)
      rw [hr] at hr2
      simp at hr2
      left
      rw [hr2.1.1]; rfl
    · have holds : ∀ j u, xs[j]? = some u → w.cell? ((⟨g0, 0, none⟩ : Addr).add j) = some u := hown.cells (g := g0) rfl
      have hr2 := Lib.run_append_grow_string (P := P) w t u ty e i (.int .u8 0) ht hu hi hz ⟨g0, 0, none⟩ n cap0 xs (by rw [hsize]; simpa using hxl) holds s (by omega) (by omega) (by rw [hby]; exact growslice_fits (by omega) (by omega))
      rw [hr] at hr2
      simp at hr2
      right
      exact hr2.1.1

end Go.Proofs.YtmdpmdmilgbfiaaGreatDoor

/-
  SUM: sums of bytes. Own work.
-/
namespace Go.Proofs.YtmdpmdmilgbfiaaGreatDoor
open Go.RowKit

set_option maxRecDepth 100000 in
theorem sum_bits (h x : Nat) (hh : h < 18446744073709551616) (hx : x < 256) : IntKind.u64.wrap (bits .xor .u64 (h : Int) (x : Int) * 1099511628211) = (sumStep h x : Int) := by
  rw [u64_xor_nat h x hh (by omega), IntKind.wrap_u64]
  unfold sumStep
  omega

set_option maxRecDepth 100000 in
theorem implSumOf_any (a : Option Addr) (bs : List Nat) (cap : Nat) (w : World) (ha : BytesAt w a bs) (hl : bs.length ≤ maxLen) (hx : ∀ x, x ∈ bs → x < 256) :
    Calls Tryz.prog 46 #[.slice a bs.length cap] w fun e w' => e = .returned (.int .i64 (wrap64 (sumN bs : Int))) ∧ Below w.heap.size w w' := by
  unfold maxLen at hl
  go_enter Tryz.func46, Tryz.ntmps46
  go_wp2
  go_loopw [3, 8] (fun s i ws => ∃ (k h : Nat), i = .int .i64 k ∧ s = .int .u64 h ∧ k ≤ bs.length ∧ Hid (h = sumN (bs.take k)) ∧ Below w.heap.size w ws) (fun _ i _ => bs.length - (intOf i).toNat)
  case atStart => exact ⟨0, _, rfl, rfl, Nat.zero_le _, rfl, gre _⟩
  case round =>
    obtain ⟨k, h, rfl, rfl, hk, hh, hb⟩ := hrel
    by_cases hlt : k < bs.length
    · obtain ⟨x, b, off, hxk, hxm, rfl, hc⟩ := (ha.grow hb).get hlt
      have e0 : IntKind.u64.wrap (x : Int) = (x : Int) := by have := hx x hxm; rw [IntKind.wrap_u64]; omega
      have e1 := sum_bits h x (by rw [hh.out]; exact sumN_lt _) (hx x hxm)
      have e2 : Hid (sumStep h x = sumN (bs.take (k + 1))) := by show _ = _; rw [sumN_take_succ _ _ hlt, ← hxk.out, ← hh.out]
      go_wp2
      go_roundw
      case rel => exact ⟨k + 1, sumStep h x, by go_num, rfl, by omega, e2, hb⟩
      case measure => simp [intOf]; omega
    · obtain rfl : k = bs.length := by omega
      have e1 : Hid (sumN bs = h) := by show _ = _; rw [hh.out, List.take_length]
      go_wp2
      go_ret
      exact ⟨by rw [e1.out]; rfl, hb⟩

set_option maxRecDepth 100000 in
theorem l2sum_any (a : Option Addr) (bs : List Nat) (cap : Nat) (w : World) (ha : BytesAt w a bs) (hl : bs.length ≤ maxLen) (hx : ∀ x, x ∈ bs → x < 256) :
    Calls Tryz.prog 91 #[.slice a bs.length cap] w fun e w' => e = .returned (.int .u64 (sumN bs : Int)) ∧ Below w.heap.size w w' := by
  unfold maxLen at hl
  go_enter Tryz.func91, Tryz.ntmps91
  go_wp2
  go_loopw [3, 8] (fun s i ws => ∃ (k h : Nat), i = .int .i64 k ∧ s = .int .u64 h ∧ k ≤ bs.length ∧ Hid (h = sumN (bs.take k)) ∧ Below w.heap.size w ws) (fun _ i _ => bs.length - (intOf i).toNat)
  case atStart => exact ⟨0, _, rfl, rfl, Nat.zero_le _, rfl, gre _⟩
  case round =>
    obtain ⟨k, h, rfl, rfl, hk, hh, hb⟩ := hrel
    by_cases hlt : k < bs.length
    · obtain ⟨x, b, off, hxk, hxm, rfl, hc⟩ := (ha.grow hb).get hlt
      have e0 : IntKind.u64.wrap (x : Int) = (x : Int) := by have := hx x hxm; rw [IntKind.wrap_u64]; omega
      have e1 := sum_bits h x (by rw [hh.out]; exact sumN_lt _) (hx x hxm)
      have e2 : Hid (sumStep h x = sumN (bs.take (k + 1))) := by show _ = _; rw [sumN_take_succ _ _ hlt, ← hxk.out, ← hh.out]
      go_wp2
      go_roundw
      case rel => exact ⟨k + 1, sumStep h x, by go_num, rfl, by omega, e2, hb⟩
      case measure => simp [intOf]; omega
    · obtain rfl : k = bs.length := by omega
      have e1 : Hid (sumN bs = h) := by show _ = _; rw [hh.out, List.take_length]
      go_wp2
      go_ret
      exact ⟨by rw [e1.out]; rfl, hb⟩

end Go.Proofs.YtmdpmdmilgbfiaaGreatDoor

/-
  L4B: a head's block, as the specification writes it. Own work.
-/
namespace Go.Proofs.YtmdpmdmilgbfiaaGreatDoor
open Go.RowKit

/-- a head -/
abbrev headV (ok : Bool) (gen len sum : Int) : Value := .agg #[.bool ok, .int .i64 gen, .int .i64 len, .int .i64 sum]
def headOkB (ok : Bool) (gen len : Int) : Bool := ok && decide (1 ≤ gen) && decide (gen ≤ 1000000000000) && decide (1 ≤ len) && decide (len ≤ 4096)
/-- its numbers -/
def headN (gen len sum : Int) : List Nat := [72, 69, 65, 68] ++ lowB 8 (u64n gen) ++ lowB 8 (u64n len) ++ lowB 8 (u64n sum)
/-- its block -/
def headB (gen len sum : Int) : List Nat := headN gen len sum ++ lowB 8 (sumN (headN gen len sum)) ++ List.replicate 28 0
theorem headN_length (gen len sum : Int) : (headN gen len sum).length = 28 := by simp [headN, lowB_length]
theorem headB_length (gen len sum : Int) : (headB gen len sum).length = 64 := by simp [headB, headN_length, lowB_length]

theorem owns_atH {w : World} {base n cap : Nat} {a : Option Addr} {bs : List Nat} (h : w.ownsRow base 5 1 (.slice a n cap) bs.length (bcells bs)) : BytesAt w a bs := fun i hi => by
  obtain ⟨g, ha, _, _, hc⟩ := owns_cell h (bcells_get hi)
  exact ⟨g, 0, ha, by rw [Nat.zero_add]; exact hc⟩

def sliceN : Value → Nat
  | .slice _ n _ => n
  | _ => 0

structure HBox (w : World) (p : Nat) (ok : Bool) (gen len sum : Int) : Prop where
  lt : p < w.heap.size
  c0 : w.cell? ⟨p, 0, none⟩ = some (.bool ok)
  c1 : w.cell? ⟨p, 1, none⟩ = some (.int .i64 gen)
  c2 : w.cell? ⟨p, 2, none⟩ = some (.int .i64 len)
  c3 : w.cell? ⟨p, 3, none⟩ = some (.int .i64 sum)
theorem HBox.new (w : World) (ok : Bool) (gen len sum : Int) (t : TypeId) : HBox (w.alloc (.cells #[.bool ok, .int .i64 gen, .int .i64 len, .int .i64 sum] t)) w.heap.size ok gen len sum := ⟨by simp, by simp, by simp, by simp, by simp⟩
theorem HBox.kept {p : Nat → Prop} {w w' : World} {b : Nat} {ok : Bool} {gen len sum : Int} (h : HBox w b ok gen len sum) (k : Kept p w w') (hn : ¬ p b) : HBox w' b ok gen len sum :=
  ⟨Nat.lt_of_lt_of_le h.lt k.size, k.cell h.c0 hn, k.cell h.c1 hn, k.cell h.c2 hn, k.cell h.c3 hn⟩

set_option maxRecDepth 100000 in
theorem l4headok_any (ok : Bool) (gen len sum : Int) (w : World) :
    Calls Tryz.prog 149 #[headV ok gen len sum] w fun e w' => e = .returned (.bool (headOkB ok gen len)) ∧ Below w.heap.size w w' := by
  go_enter Tryz.func149, Tryz.ntmps149
  go_wp2
  all_goals
    go_ret
    refine ⟨?_, gal (gre _) _⟩
    simp_all [headOkB]
    try omega

set_option maxHeartbeats 2000000 in
set_option maxRecDepth 100000 in
theorem l4block_any (ok : Bool) (gen len sum : Int) (w : World) :
    Calls Tryz.prog 112 #[headV ok gen len sum] w fun e w' => ∃ oa c, e = .returned (.slice oa (headB gen len sum).length c) ∧ w'.ownsRow w.heap.size 5 1 (.slice oa (headB gen len sum).length c) (headB gen len sum).length (bcells (headB gen len sum)) ∧ Below w.heap.size w w' := by
  obtain ⟨i0, hi, hz0, hz1, hz2⟩ := info_parts info_u8
  have g6 : IntKind.u64.wrap gen = ((u64n gen : Nat) : Int) := by rw [IntKind.wrap_u64]; unfold u64n; omega
  have l6 : IntKind.u64.wrap len = ((u64n len : Nat) : Int) := by rw [IntKind.wrap_u64]; unfold u64n; omega
  have s6 : IntKind.u64.wrap sum = ((u64n sum : Nat) : Int) := by rw [IntKind.wrap_u64]; unfold u64n; omega
  have hb1 : ∀ x, x ∈ headN gen len sum → x < 256 := fun x hx => by
    unfold headN at hx
    rcases List.mem_append.1 hx with hx | hx
    · rcases List.mem_append.1 hx with hx | hx
      · rcases List.mem_append.1 hx with hx | hx
        · simp at hx; omega
        · exact lowB_byte _ _ _ hx
      · exact lowB_byte _ _ _ hx
    · exact lowB_byte _ _ _ hx
  obtain ⟨wA, hwA⟩ : ∃ wA, Hid (wA = w.alloc (.cells #[.bool ok, .int .i64 gen, .int .i64 len, .int .i64 sum] 65)) := ⟨_, rfl⟩
  have hsA : wA.heap.size = w.heap.size + 1 := by rw [hwA.out]; simp
  have hHA : HBox wA w.heap.size ok gen len sum := by rw [hwA.out]; exact HBox.new w ok gen len sum _
  have hKA : Kept (fun _ => False) w wA := by rw [hwA.out]; exact (Kept.refl _ w).alloc _
  have hO0 := World.ownsRow_lit (base := w.heap.size + 1) (e := 5) (size := 1) wA #[.int .u8 72, .int .u8 69, .int .u8 65, .int .u8 68] 4 (by omega) (by decide) rfl
  have hK0 : Kept (fun _ => False) wA (wA.alloc (.cells #[.int .u8 72, .int .u8 69, .int .u8 65, .int .u8 68] 5)) := (Kept.refl _ wA).alloc _
  have hH0 := hHA.kept hK0 (fun e => e)
  have hKw := hKA.trans hK0 (fun _ _ e => e)
  have hs0 : (wA.alloc (.cells #[.int .u8 72, .int .u8 69, .int .u8 65, .int .u8 68] 5)).heap.size = w.heap.size + 1 + 1 := by simp [hsA]
  rw [hsA] at hO0
  go_enter Tryz.func112, Tryz.ntmps112
  go_upto_region 2 with fail
  rw [← hwA.out]
  generalize wA.alloc (.cells #[.int .u8 72, .int .u8 69, .int .u8 65, .int .u8 68] 5) = wB at hO0 hH0 hKw hs0 ⊢
  clear hK0 hHA hKA
  obtain ⟨zs, hzs⟩ := hid_ex ([72, 69, 65, 68] : List Nat)
  replace hO0 : wB.ownsRow (w.heap.size + 1) 5 1 (.slice (some ⟨w.heap.size + 1, 0, none⟩) zs.length 4) zs.length (bcells zs) := by rw [hzs.out]; exact hO0
  have hz4 : Hid (zs.length = 4) := by show _ = _; rw [hzs.out]; rfl
  have hlow : ∀ n, (lowB 8 n).length = 8 := lowB_length 8
  obtain ⟨_, _, b1, b2, b3⟩ := id hH0
  go_wp2_with (first
    | (go_at_call 90; refine (l2eight_any (w.heap.size + 1) oa3 z3.length c3 z3 (sumN z3) _ w5 rfl rfl (sumN_lt z3) (by have := hb5.size; have := hQ3.kept.size; have := hQ2.kept.size; have := hQ1.kept.size; omega) (by have := hl3.out; omega) ((Kept.of_below hb5 (fun _ => False)).owns hQ3.own (fun _ _ e => e))).mono ?_; rintro e w6 ⟨oa4, c4, rfl, hQ4⟩; obtain ⟨z4, hz4'⟩ := hid_ex (z3 ++ lowB 8 (sumN z3)); rw [← hz4'.out] at hQ4 ⊢)
    | (go_at_call 91; refine (l2sum_any oa3 z3 c3 w4 (owns_atH hQ3.own) (by have := hl3.out; unfold maxLen; omega) hb3).mono ?_; rintro e w5 ⟨rfl, hb5⟩)
    | (go_at_call 90; refine (l2eight_any (w.heap.size + 1) oa2 z2.length c2 z2 (u64n sum) _ w3 rfl (by first | rfl | exact s6) (u64n_lt sum) (by have := hQ2.kept.size; have := hQ1.kept.size; omega) (by have := hl2.out; omega) hQ2.own).mono ?_; rintro e w4 ⟨oa3, c3, rfl, hQ3⟩; obtain ⟨z3, hz3'⟩ := hid_ex (z2 ++ lowB 8 (u64n sum)); rw [← hz3'.out] at hQ3 ⊢; have hl3 : Hid (z3.length = 28) := (by show _ = _; rw [hz3'.out, List.length_append, hl2.out, hlow]); have hz3n : Hid (z3 = headN gen len sum) := (by show _ = _; rw [hz3'.out, hz2'.out, hz1'.out, hzs.out]; rfl); have hb3 : ∀ x, x ∈ z3 → x < 256 := (by rw [hz3n.out]; exact hb1))
    | (go_at_call 90; refine (l2eight_any (w.heap.size + 1) oa1 z1.length c1 z1 (u64n len) _ w2 rfl (by first | rfl | exact l6) (u64n_lt len) (by have := hQ1.kept.size; omega) (by have := hl1.out; omega) hQ1.own).mono ?_; rintro e w3 ⟨oa2, c2, rfl, hQ2⟩; obtain ⟨z2, hz2'⟩ := hid_ex (z1 ++ lowB 8 (u64n len)); rw [← hz2'.out] at hQ2 ⊢; have hl2 : Hid (z2.length = 20) := (by show _ = _; rw [hz2'.out, List.length_append, hl1.out, hlow]); have hH3 := hH2.kept hQ2.kept (fun e => (by have := (hQ1.lt e).1; omega)); obtain ⟨_, _, d1, d2, d3⟩ := id hH3)
    | (go_at_call 90; refine (l2eight_any (w.heap.size + 1) _ 4 4 zs (u64n gen) _ wB hz4.out.symm (by first | rfl | exact g6) (u64n_lt gen) (by omega) (by have := hz4.out; omega) hO0).mono ?_; rintro e w2 ⟨oa1, c1, rfl, hQ1⟩; obtain ⟨z1, hz1'⟩ := hid_ex (zs ++ lowB 8 (u64n gen)); rw [← hz1'.out] at hQ1 ⊢; have hl1 : Hid (z1.length = 12) := (by show _ = _; rw [hz1'.out, List.length_append, hz4.out, hlow]); have hH2 := hH0.kept hQ1.kept (fun e => (by have := some_addr e; omega)); obtain ⟨_, _, e1, e2, e3⟩ := id hH2))
  have hK6 : Kept (fun _ => False) w w6 := ((((hKw.trans hQ1.kept (fun k hk e => by have := some_addr e; omega)).trans hQ2.kept (fun k hk e => by have := (hQ1.lt e).1; omega)).trans hQ3.kept (fun k hk e => by have := (hQ2.lt e).1; omega)).trans (Kept.of_below hb5 (fun _ => False)) (fun _ _ e => e)).trans hQ4.kept (fun k hk e => by have := (hQ3.lt e).1; omega)
  have hl4 : Hid (z4.length = 36) := by show _ = _; rw [hz4'.out, List.length_append, hl3.out, hlow]
  have hfin : Hid (z4 ++ List.replicate 28 0 = headB gen len sum) := by show _ = _; rw [hz4'.out, hz3n.out]; rfl
  have hO6 := owns_le hQ4.own (show w.heap.size ≤ w.heap.size + 1 by omega)
  clear hQ1 hQ2 hQ3 hQ4 hH0 hH2 hH3 hO0 hKw b1 b2 b3 d1 d2 d3 e1 e2 e3 g6 l6 s6
  go_loopw [3] (fun v ws => ∃ (j : Nat) (ys : List Nat) (oa : Option Addr) (c : Nat), v = .slice oa ys.length c ∧ ys.length + j = 64 ∧ Hid (ys ++ List.replicate j 0 = headB gen len sum) ∧ ws.ownsRow w.heap.size 5 1 (.slice oa ys.length c) ys.length (bcells ys) ∧ Hid (Kept (fun _ => False) w ws)) (fun v _ => 64 - sliceN v)
  case atStart => exact ⟨28, z4, oa4, c4, rfl, by have := hl4.out; omega, hfin, hO6, hK6⟩
  case round =>
    obtain ⟨j, ys, oa, c, rfl, hj, hy, hO, hK⟩ := hrel
    by_cases hlt : ys.length < 64
    · have hd : (ys.length : Int) < 64 := by omega
      have hsK := hK.out.size
      go_wp2_with (at_builtin; refine wpList_append_lies _ rfl (.tmp 27) (.tmp 28) 22 rfl w.heap.size 5 i0 (.int .u8 0) 1 1 Tryz.underlying22 hi hz0 hz1 hz2 rfl (by decide) _ _ _ rfl (hO.alloc _) ⟨wr.heap.size, 0, none⟩ 1 1 [.int .u8 0] rfl rfl (World.news_of_block (cs := #[.int .u8 0]) (t := 5) (fr := (0, 0)) (blk_new_at _ _ _ (by simp))) (by simp [Value.oneCell']) (by decide) (by unfold maxLen; omega) (by omega) (by simp; omega) (wr.heap.size + 1) (by simp) ?_; intro g2 cap2 w7 hown7 hgrow7 hat7 hlt7)
      have hG := Kept.of_grown hgrow7
      have hA : Kept (fun _ => False) wr (wr.alloc (.cells #[.int .u8 0] 5)) := (Kept.refl _ wr).alloc _
      go_roundw
      case rel =>
        refine ⟨j - 1, ys ++ [0], some ⟨g2, 0, none⟩, cap2, by simp, by simp; omega, ?_, by simpa [bcells_snoc] using hown7, (hK.out.trans hA (fun _ _ e => e)).trans hG (fun k hk e => by have := (hO.lt _ e).1; omega)⟩
        show ys ++ [0] ++ List.replicate (j - 1) 0 = headB gen len sum
        rw [← hy.out, List.append_assoc]
        congr 1
        rw [show j = j - 1 + 1 by omega, List.replicate_succ]
        simp
      case measure => simp [sliceN]; omega
    · obtain rfl : j = 0 := by omega
      have hd : ¬ ((ys.length : Int) < 64) := by omega
      have e : ys = headB gen len sum := by rw [← hy.out]; simp
      go_wp2
      go_ret
      subst e
      exact ⟨oa, c, rfl, hO, hK.out.below (Nat.le_refl _) (fun k hk e => e)⟩

end Go.Proofs.YtmdpmdmilgbfiaaGreatDoor
