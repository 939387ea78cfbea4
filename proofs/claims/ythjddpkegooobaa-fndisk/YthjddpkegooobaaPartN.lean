import Derived.Laws.BitsAllLaws
import Derived.Test.YthjddpkegooobaaPartM

/-
  VALOF: a value taken back from behind its interface. Own work.
-/
namespace Go.Proofs.Ythjddpkegooobaa
open Go.RowKit

set_option maxRecDepth 100000 in
theorem method_num (m : Int) (w : World) : (method 316 177 (.int .i64 m) "loop.example/chest/impl.kind").run Try.prog w = .ok (186, .int .i64 m) w := by kernel_rfl
theorem method_bits (m : Int) (w : World) : (method 316 178 (.int .i64 m) "loop.example/chest/impl.kind").run Try.prog w = .ok (187, .int .i64 m) w := by kernel_rfl
theorem method_text (s : ByteArray) (w : World) : (method 316 179 (.string s) "loop.example/chest/impl.kind").run Try.prog w = .ok (188, .string s) w := by kernel_rfl
set_option maxRecDepth 100000 in
theorem method_thing (b : Nat) (w : World) : (method 316 139 (ptr b) "loop.example/chest/impl.kind").run Try.prog w = .ok (185, ptr b) w := by kernel_rfl
theorem method_nothing (w : World) : (method 316 182 (.agg #[]) "loop.example/chest/impl.kind").run Try.prog w = .ok (189, .agg #[]) w := by kernel_rfl

set_option maxRecDepth 100000 in
theorem ta_num_num (x : Value) (w : World) : (Instr.typeAssert (.iface 177 x) 80 177 true).run Try.prog w = .ok (.tuple #[x, .bool true]) w := by kernel_rfl
theorem ta_bits_num (x : Value) (w : World) : (Instr.typeAssert (.iface 178 x) 80 177 true).run Try.prog w = .ok (.tuple #[.int .i64 0, .bool false]) w := by kernel_rfl
theorem ta_bits_bits (x : Value) (w : World) : (Instr.typeAssert (.iface 178 x) 80 178 true).run Try.prog w = .ok (.tuple #[x, .bool true]) w := by kernel_rfl
set_option maxRecDepth 100000 in
theorem ta_text_num (x : Value) (w : World) : (Instr.typeAssert (.iface 179 x) 80 177 true).run Try.prog w = .ok (.tuple #[.int .i64 0, .bool false]) w := by kernel_rfl
theorem ta_text_bits (x : Value) (w : World) : (Instr.typeAssert (.iface 179 x) 80 178 true).run Try.prog w = .ok (.tuple #[.int .i64 0, .bool false]) w := by kernel_rfl
theorem ta_text_text (x : Value) (w : World) : (Instr.typeAssert (.iface 179 x) 80 179 true).run Try.prog w = .ok (.tuple #[x, .bool true]) w := by kernel_rfl
set_option maxRecDepth 100000 in
theorem ta_thing_num (x : Value) (w : World) : (Instr.typeAssert (.iface 139 x) 80 177 true).run Try.prog w = .ok (.tuple #[.int .i64 0, .bool false]) w := by kernel_rfl
theorem ta_thing_bits (x : Value) (w : World) : (Instr.typeAssert (.iface 139 x) 80 178 true).run Try.prog w = .ok (.tuple #[.int .i64 0, .bool false]) w := by kernel_rfl
theorem ta_thing_text (x : Value) (w : World) : (Instr.typeAssert (.iface 139 x) 80 179 true).run Try.prog w = .ok (.tuple #[.string .empty, .bool false]) w := by kernel_rfl
set_option maxRecDepth 100000 in
theorem ta_thing_thing (x : Value) (w : World) : (Instr.typeAssert (.iface 139 x) 80 139 true).run Try.prog w = .ok (.tuple #[x, .bool true]) w := by kernel_rfl
theorem ta_nothing_num (x : Value) (w : World) : (Instr.typeAssert (.iface 182 x) 80 177 true).run Try.prog w = .ok (.tuple #[.int .i64 0, .bool false]) w := by kernel_rfl
theorem ta_nothing_bits (x : Value) (w : World) : (Instr.typeAssert (.iface 182 x) 80 178 true).run Try.prog w = .ok (.tuple #[.int .i64 0, .bool false]) w := by kernel_rfl
set_option maxRecDepth 100000 in
theorem ta_nothing_text (x : Value) (w : World) : (Instr.typeAssert (.iface 182 x) 80 179 true).run Try.prog w = .ok (.tuple #[.string .empty, .bool false]) w := by kernel_rfl
theorem ta_nothing_thing (x : Value) (w : World) : (Instr.typeAssert (.iface 182 x) 80 139 true).run Try.prog w = .ok (.tuple #[.pointer none, .bool false]) w := by kernel_rfl

set_option maxRecDepth 100000 in
theorem valOf_num (M : Nat) (m : Int) (w : World) :
    Calls Try.prog 111 #[ptr M, .iface 177 (.int .i64 m)] w fun e w' => e = .returned (GV.mk 1 m ⟨#[]⟩ 0).val ∧ Below w.heap.size w w' := by
  have hme := method_num m
  have h1 := ta_num_num (.int .i64 m)
  go_enter Try.func111, Try.ntmps111
  go_wp2
  exact bodyPost_ret (v := (GV.mk 1 m ⟨#[]⟩ 0).val) (by simp [results, Try.results111, go_sem]) rfl ⟨rfl, gal (gal (gre _) _) _⟩

set_option maxRecDepth 100000 in
theorem valOf_bits (M : Nat) (m : Int) (w : World) :
    Calls Try.prog 111 #[ptr M, .iface 178 (.int .i64 m)] w fun e w' => e = .returned (GV.mk 2 m ⟨#[]⟩ 0).val ∧ Below w.heap.size w w' := by
  have hme := method_bits m
  have h1 := ta_bits_num (.int .i64 m)
  have h2 := ta_bits_bits (.int .i64 m)
  go_enter Try.func111, Try.ntmps111
  go_wp2
  exact bodyPost_ret (v := (GV.mk 2 m ⟨#[]⟩ 0).val) (by simp [results, Try.results111, go_sem]) rfl ⟨rfl, gal (gal (gre _) _) _⟩

set_option maxRecDepth 100000 in
theorem valOf_nothing (M : Nat) (w : World) :
    Calls Try.prog 111 #[ptr M, .iface 182 (.agg #[])] w fun e w' => e = .returned (GV.mk 0 0 ⟨#[]⟩ 0).val ∧ Below w.heap.size w w' := by
  have hme := method_nothing
  have h1 := ta_nothing_num (.agg #[])
  have h2 := ta_nothing_bits (.agg #[])
  have h3 := ta_nothing_text (.agg #[])
  have h4 := ta_nothing_thing (.agg #[])
  go_enter Try.func111, Try.ntmps111
  go_wp2
  exact bodyPost_ret (v := (GV.mk 0 0 ⟨#[]⟩ 0).val) (by simp [results, Try.results111, go_sem]) rfl ⟨rfl, gal (gal (gal (gre _) _) _) _⟩

set_option maxRecDepth 100000 in
theorem valOf_text (M : Nat) (s : ByteArray) (w : World) (hs : s.size ≤ 1000) :
    Calls Try.prog 111 #[ptr M, .iface 179 (.string s)] w fun e w' => e = .returned (GV.mk 3 0 s 0).val ∧ Below w.heap.size w w' := by
  have hme := method_text s
  have h1 := ta_text_num (.string s)
  have h2 := ta_text_bits (.string s)
  have h3 := ta_text_text (.string s)
  go_enter Try.func111, Try.ntmps111
  go_wp2_with (first | (go_at_call 145; refine (clone_any s _ hs).mono ?_; rintro e w' ⟨rfl, hb⟩; obtain ⟨z0, a0, a1, a2, a3, af⟩ := ((Four.new_at w ⟨0, 0, ⟨#[]⟩, 0⟩ 24 w.heap.size rfl).alloc _).kept (Kept.of_below hb (fun _ => False)) (fun e => e); obtain ⟨z1, b0, b1, b2, b3, bf⟩ := (Four.new_at _ ⟨3, 0, ⟨#[]⟩, 0⟩ 24 (w.heap.size + 1) (by simp)).kept (Kept.of_below hb (fun _ => False)) (fun e => e)) | go_in)
  refine bodyPost_ret (v := (GV.mk 3 0 s 0).val) (by simp [results, Try.results111, go_sem, a0, a1, a2, a3]) rfl ⟨rfl, ?_⟩
  exact gse (gse (gse (gse (gse (gca (gal (gal (gre _) _) _) hb) (by simp) _) (by simp) _) (by simp) _) (by simp) _) (by simp) _

/-- what taking a value back leaves -/
def ValPost (w : World) (tb : Nat → Nat) (M mb base : Nat) (ord : List Nat) (v : GV) (ma : Option Addr) (e : Ending) (w' : World) : Prop :=
  ∃ ma' mc', e = .returned (renVal ord v).val ∧ Meet w' tb M mb base (renOrd ord v) ma' mc' ∧ (ma' = ma ∨ ∃ b, ma' = some ⟨b, 0, none⟩ ∧ w.heap.size ≤ b) ∧ Kept (fun k => k = M ∨ k = mb ∨ ma = some ⟨k, 0, none⟩) w w'

set_option maxRecDepth 100000 in
theorem renOrd_add {ord : List Nat} {v : GV} (hk : v.kind = 4) : renOrd ord v = addOrd ord v.node.toNat := by
  unfold renOrd addOrd
  by_cases h : v.node.toNat ∈ ord
  · rw [if_neg (fun c => c.2 h), if_pos h]
  · rw [if_pos ⟨hk, h⟩, if_neg h]

set_option maxRecDepth 100000 in
theorem valOf_thing (n : Nat) (tb : Nat → Nat) (M mb base : Nat) (ord : List Nat) (x : Nat) (ma : Option Addr) (mc : Nat) (w : World) (hinv : InvO n ord) (hx : x < n) (hn : n ≤ 300) (hinj : ∀ i j, i < n → j < n → tb i = tb j → i = j)
    (hcells : ∀ i, i < n → CellsAt w (tb i)) (hM : Meet w tb M mb base ord ma mc) (hbase : base ≤ w.heap.size) :
    Calls Try.prog 111 #[ptr M, .iface 139 (ptr (tb x))] w (ValPost w tb M mb base ord ⟨4, 0, ⟨#[]⟩, x⟩ ma) := by
  have hme := method_thing (tb x)
  have h1 := ta_thing_num (ptr (tb x))
  have h2 := ta_thing_bits (ptr (tb x))
  have h3 := ta_thing_text (ptr (tb x))
  have h4 := ta_thing_thing (ptr (tb x))
  have hA : Kept (fun _ => False) w ((w.alloc (.cells #[.int .i64 0, .int .i64 0, .string ⟨#[]⟩, .int .i64 0] 24)).alloc (.cells #[.int .i64 4, .int .i64 0, .string ⟨#[]⟩, .int .i64 0] 24)) := ((Kept.refl _ w).alloc _).alloc _
  have hM1 := hM.kept hA (fun e => e) (fun e => e) (fun _ _ e => e)
  have hcells1 : ∀ i, i < n → CellsAt ((w.alloc (.cells #[.int .i64 0, .int .i64 0, .string ⟨#[]⟩, .int .i64 0] 24)).alloc (.cells #[.int .i64 4, .int .i64 0, .string ⟨#[]⟩, .int .i64 0] 24)) (tb i) := fun i hi => by
    obtain ⟨c, t, hc⟩ := hcells i hi
    exact ⟨c, t, (hA.block _ (Array.getElem?_eq_some_iff.1 hc).1 (fun e => e)).trans hc⟩
  have hnew0 : ¬ (w.heap.size = M ∨ w.heap.size = mb ∨ ma = some ⟨w.heap.size, 0, none⟩) := fun hp => by
    have hm := hM.mlt
    rcases hp with hp | hp | hp
    · omega
    · omega
    · have := (hM.met.lt w.heap.size (by rw [hp]; rfl)).2; omega
  have hnew1 : ¬ (w.heap.size + 1 = M ∨ w.heap.size + 1 = mb ∨ ma = some ⟨w.heap.size + 1, 0, none⟩) := fun hp => by
    have hm := hM.mlt
    rcases hp with hp | hp | hp
    · omega
    · omega
    · have := (hM.met.lt (w.heap.size + 1) (by rw [hp]; rfl)).2; omega
  go_enter Try.func111, Try.ntmps111
  go_wp2_with (first | (go_at_call 146; refine (placeOf_any n tb M mb base ord x ma mc _ hinv hx hn hinj hcells1 hM1 (by simp; omega)).mono ?_; rintro e w' ⟨ma', mc', rfl, hM', hor, hK'⟩; obtain ⟨z0, a0, a1, a2, a3, af⟩ := ((Four.new_at w ⟨0, 0, ⟨#[]⟩, 0⟩ 24 w.heap.size rfl).alloc _).kept hK' hnew0; obtain ⟨z1, b0, b1, b2, b3, bf⟩ := (Four.new_at _ ⟨4, 0, ⟨#[]⟩, 0⟩ 24 (w.heap.size + 1) (by simp)).kept hK' hnew1) | go_in)
  have hx4 : Hid (renVal ord ⟨4, 0, ⟨#[]⟩, x⟩ = ⟨4, 0, ⟨#[]⟩, ((addOrd ord x).idxOf x : Nat)⟩) := by
    show renVal ord ⟨4, 0, ⟨#[]⟩, x⟩ = _
    unfold renVal
    rw [if_pos rfl, renOrd_add rfl]
    rfl
  have hx5 : Hid (renOrd ord ⟨4, 0, ⟨#[]⟩, x⟩ = addOrd ord x) := renOrd_add rfl
  have hC : Kept (fun k => k = w.heap.size ∨ k = w.heap.size + 1) w' (((((w'.setCell ⟨w.heap.size + 1, 3, none⟩ (.int .i64 ((addOrd ord x).idxOf x : Nat))).setCell ⟨w.heap.size, 0, none⟩ (.int .i64 4)).setCell ⟨w.heap.size, 1, none⟩ (.int .i64 0)).setCell ⟨w.heap.size, 2, none⟩ (.string ⟨#[]⟩)).setCell ⟨w.heap.size, 3, none⟩ (.int .i64 ((addOrd ord x).idxOf x : Nat))) :=
    (((((Kept.refl (fun k => k = w.heap.size ∨ k = w.heap.size + 1) w').set (fun _ => Or.inr rfl) _).set (fun _ => Or.inl rfl) _).set (fun _ => Or.inl rfl) _).set (fun _ => Or.inl rfl) _).set (fun _ => Or.inl rfl) _
  obtain ⟨m1, m2, m3⟩ := hM.mlt
  refine bodyPost_ret (v := (GV.mk 4 0 ⟨#[]⟩ ((addOrd ord x).idxOf x : Nat)).val) (by simp [results, Try.results111, go_sem, a0, a1, a2, a3]) rfl ⟨ma', mc', by rw [hx4.out], ?_, ?_, ?_⟩
  · rw [hx5.out]
    refine hM'.kept hC (by omega) (by omega) (fun b hb => ?_)
    rcases hor with e | ⟨c, e, hc⟩
    · have := hM.met.lt b (by rw [← e, hb]; rfl); omega
    · rw [hb] at e
      have e2 := some_addr e
      have h7 := hM'.met.lt b (by rw [hb]; rfl)
      simp at hc
      omega
  · rcases hor with e | ⟨c, e, hc⟩
    · exact Or.inl e
    · simp at hc; exact Or.inr ⟨c, e, by omega⟩
  · exact ((hA.mono (q := fun k => k = M ∨ k = mb ∨ ma = some ⟨k, 0, none⟩) (fun _ _ e => e.elim)).trans hK' (fun _ _ e => e)).trans hC (fun k hk hp => by omega)

set_option maxRecDepth 100000 in
theorem text_empty {s : ByteArray} (h : s.toList = []) : s = ⟨#[]⟩ := by
  apply ByteArray.ext
  have h2 : s.data.toList = [] := by rw [← ByteArray.toList_eq]; exact h
  simpa using h2

set_option maxRecDepth 100000 in
theorem ValPost.of_below {w : World} {tb : Nat → Nat} {M mb base : Nat} {ord : List Nat} {v : GV} {ma : Option Addr} {mc : Nat} (hM : Meet w tb M mb base ord ma mc) (hk : v.kind ≠ 4) {e : Ending} {w' : World} (he : e = .returned v.val) (hb : Below w.heap.size w w') : ValPost w tb M mb base ord v ma e w' := by
  obtain ⟨e1, e2⟩ := ren_not (ord := ord) hk
  have hK : Kept (fun _ => False) w w' := Kept.of_below hb _
  exact ⟨ma, mc, by rw [e2]; exact he, by rw [e1]; exact hM.kept hK (fun e => e) (fun e => e) (fun _ _ e => e), Or.inl rfl, hK.mono (fun _ _ e => e.elim)⟩

set_option maxRecDepth 100000 in
theorem valOf_any (n : Nat) (tb : Nat → Nat) (M mb base : Nat) (ord : List Nat) (v : GV) (ma : Option Addr) (mc : Nat) (w : World) (hv : okV n v = true) (hinv : InvO n ord) (hn : n ≤ 300) (hinj : ∀ i j, i < n → j < n → tb i = tb j → i = j)
    (hcells : ∀ i, i < n → CellsAt w (tb i)) (hM : Meet w tb M mb base ord ma mc) (hbase : base ≤ w.heap.size) :
    Calls Try.prog 111 #[ptr M, encV tb v] w (ValPost w tb M mb base ord v ma) := by
  obtain ⟨k, m, t, x⟩ := v
  have hv' := hv
  unfold okV at hv'
  dsimp only at hv'
  by_cases h1 : k = 1
  · subst h1
    rw [if_neg (by decide), if_pos (Or.inl rfl)] at hv'
    obtain ⟨ht, hx⟩ := of_decide_eq_true hv'
    obtain rfl := text_empty ht
    subst hx
    rw [enc1 rfl]
    exact (valOf_num M m w).mono fun e w' h => ValPost.of_below hM (by simp) h.1 h.2
  by_cases h2 : k = 2
  · subst h2
    rw [if_neg (by decide), if_pos (Or.inr rfl)] at hv'
    obtain ⟨ht, hx⟩ := of_decide_eq_true hv'
    obtain rfl := text_empty ht
    subst hx
    rw [enc2 rfl]
    exact (valOf_bits M m w).mono fun e w' h => ValPost.of_below hM (by simp) h.1 h.2
  by_cases h3 : k = 3
  · subst h3
    rw [if_neg (by decide), if_neg (by decide), if_pos rfl] at hv'
    obtain ⟨hm, hx, ht⟩ := of_decide_eq_true hv'
    subst hm hx
    rw [enc3 rfl]
    exact (valOf_text M t w ht).mono fun e w' h => ValPost.of_below hM (by simp) h.1 h.2
  by_cases h4 : k = 4
  · subst h4
    rw [if_neg (by decide), if_neg (by decide), if_neg (by decide), if_pos rfl] at hv'
    obtain ⟨hm, ht, hx0, hxn⟩ := of_decide_eq_true hv'
    obtain rfl := text_empty ht
    subst hm
    obtain ⟨y, rfl⟩ := Int.eq_ofNat_of_zero_le hx0
    rw [enc4 rfl]
    exact valOf_thing n tb M mb base ord y ma mc w hinv (by omega) hn hinj hcells hM hbase
  · by_cases h0 : k = 0
    · subst h0
      rw [if_pos rfl] at hv'
      obtain ⟨hm, ht, hx⟩ := of_decide_eq_true hv'
      obtain rfl := text_empty ht
      subst hm hx
      rw [enc0 (by decide) (by decide) (by decide) (by decide)]
      exact (valOf_nothing M w).mono fun e w' h => ValPost.of_below hM (by simp) h.1 h.2
    · rw [if_neg h0, if_neg (fun h => h.elim h1 h2), if_neg h3, if_neg h4] at hv'
      cases hv'

end Go.Proofs.Ythjddpkegooobaa

/-
  OB2: the specification's values as bytes. Own work.
-/
namespace Go.Proofs.Ythjddpkegooobaa
open Go.RowKit

set_option maxRecDepth 100000 in
theorem l2eight_any (base : Nat) (oa : Option Addr) (len cap : Nat) (xs : List Nat) (n : Nat) (z : Int) (w : World) (hlen : len = xs.length) (hz : z = (n : Int)) (hn : n < 18446744073709551616) (hbase : base ≤ w.heap.size) (hl : xs.length ≤ 1099511627776)
    (hO : w.ownsRow base 5 1 (.slice oa xs.length cap) xs.length (bcells xs)) :
    Calls Try.prog 123 #[.slice oa len cap, .int .u64 z] w (APost base oa xs (lowB 8 n) w) := by
  subst hz hlen
  obtain ⟨i0, hi, hz0, hz1, hz2⟩ := info_parts info_u8
  go_enter Try.func123, Try.ntmps123
  go_wp2
  go_loopw [0, 1, 5] (fun o i c ws => ∃ (k m : Nat) (zs : List Nat) (oa1 : Option Addr) (cap1 : Nat), o = .slice oa1 zs.length cap1 ∧ i = .int .u64 m ∧ c = .int .i64 k ∧ k ≤ 8 ∧ Hid (zs = xs ++ lowB k n) ∧ Hid (m = n / 256 ^ k) ∧ zs.length ≤ xs.length + k ∧ m < 18446744073709551616 ∧ Ob w base oa ws oa1 cap1 zs) (fun _ _ c _ => 8 - (intOf c).toNat)
  case atStart => exact ⟨0, n, xs, oa, cap, rfl, rfl, rfl, by omega, (List.append_nil _).symm, by show _ = _; simp, Nat.le_refl _, hn, Ob.start hO⟩
  case round =>
    obtain ⟨k, m, zs, oa1, cap1, rfl, rfl, rfl, hk, hzs, hm, hzl, hm64, hOb⟩ := hrel
    have hsz := hOb.kept.size
    by_cases hlt : k < 8
    · have hd : (k : Int) < 8 := by omega
      obtain ⟨x, hx⟩ : ∃ x, Hid (x = m % 256) := ⟨_, rfl⟩
      have e2 : IntKind.u8.wrap (m : Int) = (x : Int) := by rw [hx.out, IntKind.wrap_u8']; omega
      go_wp2_with (at_builtin; refine wpList_append_lies _ rfl (.tmp 10) (.tmp 13) 22 rfl base 5 i0 (.int .u8 0) 1 1 Try.underlying22 hi hz0 hz1 hz2 rfl (by decide) _ _ _ rfl (hOb.own.alloc _) ⟨wr.heap.size, 0, none⟩ 1 1 [.int .u8 (x : Int)] rfl rfl (World.news_of_block (cs := #[.int .u8 (x : Int)]) (t := 5) (fr := (0, 0)) (blk_new_at _ _ _ (by simp))) (by simp [Value.oneCell']) (by decide) (by unfold maxLen; omega) (by omega) (by simp; omega) (wr.heap.size + 1) (by simp) ?_; intro g cap2 w1 hown1 hgrow hat hlt2)
      have hP := hOb.push (ys := [x]) (gal (gre _) _) hown1 hgrow (hat.elim Or.inl (fun h => Or.inr (by omega)))
      go_roundw
      case rel =>
        refine ⟨k + 1, m / 256, zs ++ [x], _, _, by simp, by go_num, by go_num, by omega, ?_, ?_, by simp; omega, by omega, hP⟩
        · show _ = _
          rw [hzs.out, lowB_snoc, hx.out, hm.out, List.append_assoc]
        · show _ = _
          rw [hm.out, Nat.div_div_eq_div_mul, Nat.pow_succ]
      case measure => simp [intOf]; omega
    · obtain rfl : k = 8 := by omega
      go_wp2
      go_ret
      have e3 := hzs.out
      subst e3
      exact ⟨_, _, rfl, hOb⟩

set_option maxRecDepth 100000 in
theorem l2signed_any (n : Int) (w : World) (hn : I64 n) :
    Calls Try.prog 151 #[.int .i64 n] w fun e w' => e = .returned (.int .u64 (zig n : Int)) ∧ Below w.heap.size w w' := by
  unfold I64 at hn
  by_cases h0 : n < 0
  · have e1 : Hid (zig n = (-2 * n - 1).toNat) := if_pos h0
    go_enter Try.func151, Try.ntmps151
    go_wp2
    go_ret
    refine ⟨ret_int ?_, gre _⟩
    rw [e1.out]
    try simp only [IntKind.wrap_u64, wrap64]
    omega
  · have e1 : Hid (zig n = (2 * n).toNat) := if_neg h0
    go_enter Try.func151, Try.ntmps151
    go_wp2
    go_ret
    refine ⟨ret_int ?_, gre _⟩
    rw [e1.out]
    try simp only [IntKind.wrap_u64, wrap64]
    omega

set_option maxRecDepth 100000 in
theorem l2val_nil (base : Nat) (oa : Option Addr) (cap : Nat) (xs : List Nat)  (w : World)  (hbase : base ≤ w.heap.size) (hl : xs.length ≤ 1099511600000)
    (hO : w.ownsRow base 5 1 (.slice oa xs.length cap) xs.length (bcells xs)) :
    Calls Try.prog 128 #[.slice oa xs.length cap, (GV.mk 0 0 ⟨#[]⟩ 0).val] w (APost base oa xs (0 :: []) w) := by
  obtain ⟨i0, hi, hz0, hz1, hz2⟩ := info_parts info_u8
  have hF := (Four.new w ⟨0, 0, ⟨#[]⟩, 0⟩ 24).alloc (.cells #[.int .u8 0] 5)
  have hn0 : ¬ ((Value.slice oa xs.length cap).ownBlock = some w.heap.size) := fun e => by have := (hO.lt _ e).2; omega
  go_enter Try.func128, Try.ntmps128
  go_wp2_with (at_builtin; refine wpList_append_lies _ rfl (.tmp 5) (.tmp 9) 22 rfl base 5 i0 (.int .u8 0) 1 1 Try.underlying22 hi hz0 hz1 hz2 rfl (by decide) _ _ _ rfl ((hO.alloc _).alloc _) ⟨w.heap.size + 1, 0, none⟩ 1 1 [.int .u8 0] rfl rfl (World.news_of_block (cs := #[.int .u8 0]) (t := 5) (fr := (0, 0)) (blk_new_at _ _ _ (by simp))) (by simp [Value.oneCell']) (by decide) (by unfold maxLen; omega) (by omega) (by simp; omega) (w.heap.size + 2) (by simp) ?_; intro g cap2 w1 hown1 hgrow hat hlt2; have hF1 := hF.kept (Kept.of_grown hgrow) hn0; obtain ⟨fz, f0, f1, f2, f3, ff⟩ := id hF1; have hP := (Ob.start hO).push (ys := [0]) (gal (gal (gre _) _) _) hown1 hgrow (hat.elim Or.inl (fun h => Or.inr (by omega))); have hs1 := hP.kept.size)
  go_ret
  exact ⟨_, _, by simp, hP⟩

set_option maxRecDepth 100000 in
theorem l2val_num (base : Nat) (oa : Option Addr) (cap : Nat) (xs : List Nat) (num : Int) (w : World) (hn : I64 num) (hbase : base ≤ w.heap.size) (hl : xs.length ≤ 1099511600000)
    (hO : w.ownsRow base 5 1 (.slice oa xs.length cap) xs.length (bcells xs)) :
    Calls Try.prog 128 #[.slice oa xs.length cap, (GV.mk 1 num ⟨#[]⟩ 0).val] w (APost base oa xs (1 :: numB (zig num)) w) := by
  obtain ⟨i0, hi, hz0, hz1, hz2⟩ := info_parts info_u8
  have hF := (Four.new w ⟨1, num, ⟨#[]⟩, 0⟩ 24).alloc (.cells #[.int .u8 1] 5)
  have hn0 : ¬ ((Value.slice oa xs.length cap).ownBlock = some w.heap.size) := fun e => by have := (hO.lt _ e).2; omega
  go_enter Try.func128, Try.ntmps128
  go_wp2_with (first
    | (at_builtin; refine wpList_append_lies _ rfl (.tmp 5) (.tmp 9) 22 rfl base 5 i0 (.int .u8 0) 1 1 Try.underlying22 hi hz0 hz1 hz2 rfl (by decide) _ _ _ rfl ((hO.alloc _).alloc _) ⟨w.heap.size + 1, 0, none⟩ 1 1 [.int .u8 1] rfl rfl (World.news_of_block (cs := #[.int .u8 1]) (t := 5) (fr := (0, 0)) (blk_new_at _ _ _ (by simp))) (by simp [Value.oneCell']) (by decide) (by unfold maxLen; omega) (by omega) (by simp; omega) (w.heap.size + 2) (by simp) ?_; intro g cap2 w1 hown1 hgrow hat hlt2; have hF1 := hF.kept (Kept.of_grown hgrow) hn0; obtain ⟨fz, f0, f1, f2, f3, ff⟩ := id hF1; have hP := (Ob.start hO).push (ys := [1]) (gal (gal (gre _) _) _) hown1 hgrow (hat.elim Or.inl (fun h => Or.inr (by omega))); have hs1 := hP.kept.size)
    | (go_at_call 151; refine (l2signed_any num _ hn).mono ?_; rintro e w2 ⟨rfl, hb2⟩; have hP2 := hP.grow hb2; have hs2 := hP2.kept.size)
    | (go_at_call 127; refine (l2num_any base _ _ _ (xs ++ [1]) (zig num) _ _ (by simp) rfl (zig_lt hn) (by omega) (by simp; omega) hP2.own).mono ?_; rintro e w3 ⟨oa3, cap3, rfl, hQ⟩))
  go_ret
  have hR := hP2.call hQ
  rw [List.append_assoc] at hR
  exact ⟨_, _, by simp, hR⟩

set_option maxRecDepth 100000 in
theorem l2val_bits (base : Nat) (oa : Option Addr) (cap : Nat) (xs : List Nat) (num : Int) (w : World)  (hbase : base ≤ w.heap.size) (hl : xs.length ≤ 1099511600000)
    (hO : w.ownsRow base 5 1 (.slice oa xs.length cap) xs.length (bcells xs)) :
    Calls Try.prog 128 #[.slice oa xs.length cap, (GV.mk 2 num ⟨#[]⟩ 0).val] w (APost base oa xs (2 :: lowB 8 (u64n num)) w) := by
  obtain ⟨i0, hi, hz0, hz1, hz2⟩ := info_parts info_u8
  have hF := (Four.new w ⟨2, num, ⟨#[]⟩, 0⟩ 24).alloc (.cells #[.int .u8 2] 5)
  have hn0 : ¬ ((Value.slice oa xs.length cap).ownBlock = some w.heap.size) := fun e => by have := (hO.lt _ e).2; omega
  have e6 : IntKind.u64.wrap num = ((u64n num : Nat) : Int) := by rw [IntKind.wrap_u64]; unfold u64n; omega
  go_enter Try.func128, Try.ntmps128
  go_wp2_with (first
    | (at_builtin; refine wpList_append_lies _ rfl (.tmp 5) (.tmp 9) 22 rfl base 5 i0 (.int .u8 0) 1 1 Try.underlying22 hi hz0 hz1 hz2 rfl (by decide) _ _ _ rfl ((hO.alloc _).alloc _) ⟨w.heap.size + 1, 0, none⟩ 1 1 [.int .u8 2] rfl rfl (World.news_of_block (cs := #[.int .u8 2]) (t := 5) (fr := (0, 0)) (blk_new_at _ _ _ (by simp))) (by simp [Value.oneCell']) (by decide) (by unfold maxLen; omega) (by omega) (by simp; omega) (w.heap.size + 2) (by simp) ?_; intro g cap2 w1 hown1 hgrow hat hlt2; have hF1 := hF.kept (Kept.of_grown hgrow) hn0; obtain ⟨fz, f0, f1, f2, f3, ff⟩ := id hF1; have hP := (Ob.start hO).push (ys := [2]) (gal (gal (gre _) _) _) hown1 hgrow (hat.elim Or.inl (fun h => Or.inr (by omega))); have hs1 := hP.kept.size)
    | (go_at_call 123; refine (l2eight_any base _ _ _ (xs ++ [2]) (u64n num) _ _ (by simp) ?_ (u64n_lt num) (by omega) (by simp; omega) hP.own).mono ?_; (first | rfl | exact e6); rintro e w3 ⟨oa3, cap3, rfl, hQ⟩))
  go_ret
  have hR := hP.call hQ
  rw [List.append_assoc] at hR
  exact ⟨_, _, by simp, hR⟩

set_option maxRecDepth 100000 in
theorem l2val_node (base : Nat) (oa : Option Addr) (cap : Nat) (xs : List Nat) (node : Nat) (w : World) (hn : node < 300) (hbase : base ≤ w.heap.size) (hl : xs.length ≤ 1099511600000)
    (hO : w.ownsRow base 5 1 (.slice oa xs.length cap) xs.length (bcells xs)) :
    Calls Try.prog 128 #[.slice oa xs.length cap, (GV.mk 4 0 ⟨#[]⟩ node).val] w (APost base oa xs (4 :: numB node) w) := by
  obtain ⟨i0, hi, hz0, hz1, hz2⟩ := info_parts info_u8
  have hF := (Four.new w ⟨4, 0, ⟨#[]⟩, node⟩ 24).alloc (.cells #[.int .u8 4] 5)
  have hn0 : ¬ ((Value.slice oa xs.length cap).ownBlock = some w.heap.size) := fun e => by have := (hO.lt _ e).2; omega
  have e6 : IntKind.u64.wrap (node : Int) = (node : Int) := by rw [IntKind.wrap_u64]; omega
  go_enter Try.func128, Try.ntmps128
  go_wp2_with (first
    | (at_builtin; refine wpList_append_lies _ rfl (.tmp 5) (.tmp 9) 22 rfl base 5 i0 (.int .u8 0) 1 1 Try.underlying22 hi hz0 hz1 hz2 rfl (by decide) _ _ _ rfl ((hO.alloc _).alloc _) ⟨w.heap.size + 1, 0, none⟩ 1 1 [.int .u8 4] rfl rfl (World.news_of_block (cs := #[.int .u8 4]) (t := 5) (fr := (0, 0)) (blk_new_at _ _ _ (by simp))) (by simp [Value.oneCell']) (by decide) (by unfold maxLen; omega) (by omega) (by simp; omega) (w.heap.size + 2) (by simp) ?_; intro g cap2 w1 hown1 hgrow hat hlt2; have hF1 := hF.kept (Kept.of_grown hgrow) hn0; obtain ⟨fz, f0, f1, f2, f3, ff⟩ := id hF1; have hP := (Ob.start hO).push (ys := [4]) (gal (gal (gre _) _) _) hown1 hgrow (hat.elim Or.inl (fun h => Or.inr (by omega))); have hs1 := hP.kept.size)
    | (go_at_call 127; refine (l2num_any base _ _ _ (xs ++ [4]) node _ _ (by simp) ?_ (by omega) (by omega) (by simp; omega) hP.own).mono ?_; (first | rfl | exact e6); rintro e w3 ⟨oa3, cap3, rfl, hQ⟩))
  go_ret
  have hR := hP.call hQ
  rw [List.append_assoc] at hR
  exact ⟨_, _, by simp, hR⟩


set_option maxRecDepth 100000 in
/-- a text's bytes appended: where they lie -/
theorem append_str_lies {P : Program} (w : World) (base : Nat) (t u ty e : TypeId) (i : TypeInfo) (ht : P.underlying t = some (.slice e)) (hu : P.underlying u = some .string) (hi : P.info? e = some i) (hz : i.zero = some (.int .u8 0))
    (hsize : i.size = 1) (hby : i.bytes = 1) (v : Value) (n : Nat) (xs : List Value) (hown : w.ownsRow base e 1 v n xs) (s : ByteArray)
    (h63 : n + s.size ≤ maxLen) (hbytes : n + s.size ≤ 140737488355328) (hbase : base ≤ w.heap.size) (hn : 0 < n) :
    ∃ g cap w', (Builtin.append_ #[t, u] ty #[v, .string s]).run P w = .ok (.slice (some ⟨g, 0, none⟩) (n + s.size) cap) w' ∧ w'.ownsRow base e 1 (.slice (some ⟨g, 0, none⟩) (n + s.size) cap) (n + s.size) (xs ++ Lib.strCells s) ∧ w.grownBy w' v.ownBlock ∧ (v.ownBlock = some g ∨ g = w.heap.size) := by
  obtain ⟨v', w', hr, h2, h3, _⟩ := Lib.run_append_own_string (P := P) w base t u ty e i ht hu hi hz hsize hby v n xs hown s h63 hbytes hbase
  obtain ⟨g, cap, rfl, _, hlt⟩ := h2.form (by omega)
  refine ⟨g, cap, w', hr, h2, h3, ?_⟩
  unfold maxLen at h63
  have hxl : xs.length = n := by simpa using hown.1
  rcases hown.2 with ⟨rfl, rfl⟩ | ⟨g0, cap0, cur, rfl, hbg, hg, hnc, hcm, hcs, htake⟩
  · omega
  · have hcs' : cur.size = cap0 := by simpa using hcs
    by_cases hroom : n + s.size ≤ cap0
    · have hr2 := Lib.run_append_room_string (P := P) w t u ty e i ht hu hi hsize g0 n cap0 cur hg s hroom (by omega)
      rw [hr] at hr2
      simp at hr2
      left
      rw [hr2.1.1]; rfl
    · have holds : ∀ j u, xs[j]? = some u → w.cell? ((⟨g0, 0, none⟩ : Addr).add j) = some u := hown.cells (g := g0) rfl
      have hr2 := Lib.run_append_grow_string (P := P) w t u ty e i (.int .u8 0) ht hu hi hz ⟨g0, 0, none⟩ n cap0 xs (by rw [hsize]; simpa using hxl) holds s (by omega) (by omega) (by rw [hby]; exact growslice_fits (by omega) (by omega))
      rw [hr] at hr2
      simp at hr2
      right
      exact hr2.1.1

end Go.Proofs.Ythjddpkegooobaa

/-
  SUM: sums of bytes. Own work.
-/
namespace Go.Proofs.Ythjddpkegooobaa
open Go.RowKit

set_option maxRecDepth 100000 in
theorem sum_bits (h x : Nat) (hh : h < 18446744073709551616) (hx : x < 256) : IntKind.u64.wrap (bits .xor .u64 (h : Int) (x : Int) * 1099511628211) = (sumStep h x : Int) := by
  rw [u64_xor_nat h x hh (by omega), IntKind.wrap_u64]
  unfold sumStep
  omega

set_option maxRecDepth 100000 in
theorem implSumOf_any (a : Option Addr) (bs : List Nat) (cap : Nat) (w : World) (ha : BytesAt w a bs) (hl : bs.length ≤ maxLen) (hx : ∀ x, x ∈ bs → x < 256) :
    Calls Try.prog 50 #[.slice a bs.length cap] w fun e w' => e = .returned (.int .i64 (wrap64 (sumN bs : Int))) ∧ Below w.heap.size w w' := by
  unfold maxLen at hl
  go_enter Try.func50, Try.ntmps50
  go_wp2
  go_loopw [3, 8] (fun s i ws => ∃ (k h : Nat), i = .int .i64 k ∧ s = .int .u64 h ∧ k ≤ bs.length ∧ Hid (h = sumN (bs.take k)) ∧ Below w.heap.size w ws) (fun _ i _ => bs.length - (intOf i).toNat)
  case atStart => exact ⟨0, _, rfl, rfl, Nat.zero_le _, rfl, gre _⟩
  case round =>
    obtain ⟨k, h, rfl, rfl, hk, hh, hb⟩ := hrel
    by_cases hlt : k < bs.length
    · obtain ⟨x, b, off, hxk, hxm, rfl, hc⟩ := (ha.grow hb).get hlt
      have e0 : IntKind.u64.wrap (x : Int) = (x : Int) := by have := hx x hxm; rw [IntKind.wrap_u64]; omega
      have e1 := sum_bits h x (by rw [hh.out]; exact sumN_lt _) (hx x hxm)
      have e2 : Hid (sumStep h x = sumN (bs.take (k + 1))) := by show _ = _; rw [sumN_take_succ _ _ hlt, ← hxk.out, ← hh.out]
      go_wp2
      go_roundw
      case rel => exact ⟨k + 1, sumStep h x, by go_num, rfl, by omega, e2, hb⟩
      case measure => simp [intOf]; omega
    · obtain rfl : k = bs.length := by omega
      have e1 : Hid (sumN bs = h) := by show _ = _; rw [hh.out, List.take_length]
      go_wp2
      go_ret
      exact ⟨by rw [e1.out]; rfl, hb⟩

set_option maxRecDepth 100000 in
theorem l2sum_any (a : Option Addr) (bs : List Nat) (cap : Nat) (w : World) (ha : BytesAt w a bs) (hl : bs.length ≤ maxLen) (hx : ∀ x, x ∈ bs → x < 256) :
    Calls Try.prog 108 #[.slice a bs.length cap] w fun e w' => e = .returned (.int .u64 (sumN bs : Int)) ∧ Below w.heap.size w w' := by
  unfold maxLen at hl
  go_enter Try.func108, Try.ntmps108
  go_wp2
  go_loopw [3, 8] (fun s i ws => ∃ (k h : Nat), i = .int .i64 k ∧ s = .int .u64 h ∧ k ≤ bs.length ∧ Hid (h = sumN (bs.take k)) ∧ Below w.heap.size w ws) (fun _ i _ => bs.length - (intOf i).toNat)
  case atStart => exact ⟨0, _, rfl, rfl, Nat.zero_le _, rfl, gre _⟩
  case round =>
    obtain ⟨k, h, rfl, rfl, hk, hh, hb⟩ := hrel
    by_cases hlt : k < bs.length
    · obtain ⟨x, b, off, hxk, hxm, rfl, hc⟩ := (ha.grow hb).get hlt
      have e0 : IntKind.u64.wrap (x : Int) = (x : Int) := by have := hx x hxm; rw [IntKind.wrap_u64]; omega
      have e1 := sum_bits h x (by rw [hh.out]; exact sumN_lt _) (hx x hxm)
      have e2 : Hid (sumStep h x = sumN (bs.take (k + 1))) := by show _ = _; rw [sumN_take_succ _ _ hlt, ← hxk.out, ← hh.out]
      go_wp2
      go_roundw
      case rel => exact ⟨k + 1, sumStep h x, by go_num, rfl, by omega, e2, hb⟩
      case measure => simp [intOf]; omega
    · obtain rfl : k = bs.length := by omega
      have e1 : Hid (sumN bs = h) := by show _ = _; rw [hh.out, List.take_length]
      go_wp2
      go_ret
      exact ⟨by rw [e1.out]; rfl, hb⟩

end Go.Proofs.Ythjddpkegooobaa
