import Derived.Test.YthjddpkegooobabPartNwK

/-
  DREAD: the drive reads. Own work.
-/
namespace Go.Proofs.Ythjddpkegooobab
open Go.RowKit

theorem results_cell_mid {P : Program} {fn : Func} {p : Tmp} {ty : TypeId} (h : fn.results = #[.cell p ty]) (tmps : Array Value) (w : World) (g o : Nat) (cs : List Value) (d : TypeDesc)
    (hp : tmps.getD p undef = .pointer (some ⟨g, o, none⟩)) (hc : w.rangeAt g o cs) (hu : P.underlying ty = some d) (hd : d.isRow = true) (hi : (P.info? ty).map (·.size) = some cs.length) :
    (results fn tmps).run P w = .ok (.agg cs.toArray) w := by
  have hp' : tmps[p]?.getD undef = .pointer (some ⟨g, o, none⟩) := by simpa [Array.getD_eq_getD_getElem?] using hp
  simp [results, h, hp', asAddr, run_loadVar_mid w g o ty cs d hc hu hd hi]

/-- while it looks for the last write -/
structure RdS (w wr : World) (A B : Nat) (cur : List Nat) : Prop where
  bel : Below w.heap.size w wr
  ta : wr.there A 0 64
  rb : wr.rangeAt B 0 (bcells cur)
  tb : wr.there B 0 64
  len : cur.length = 64
theorem RdS.grow {w wr w' : World} {A B : Nat} {cur : List Nat} (h : RdS w wr A B cur) (hb : Below wr.heap.size wr w') (hA : A < wr.heap.size) (hB : B < wr.heap.size) : RdS w w' A B cur :=
  ⟨gca h.bel hb, there_same h.ta (hb.block A hA), range_same h.rb (hb.block B hB), there_same h.tb (hb.block B hB), h.len⟩
theorem there_lt {w : World} {b o n : Nat} (h : w.there b o n) (hn : 0 < n) : b < w.heap.size := by
  obtain ⟨v, hv⟩ := Option.isSome_iff_exists.1 (h 0 hn).1
  exact World.block_lt_of_cell? w ⟨b, o + 0, none⟩ hv

set_option maxHeartbeats 4000000 in
set_option maxRecDepth 100000 in
theorem read_any (p : Nat) (bl : List (List Nat)) (pa : Option Addr) (pc : Nat) (ws : List DW) (kv : Value) (b : Int) (w : World) (hb0 : 0 ≤ b) (hb1 : b < 130) (hw : ws.length ≤ 201) (h : Dr w p bl pa pc ws kv) :
    Calls Try.prog 111 #[.pointer (some ⟨p, 0, none⟩), .int .i64 b] w fun e w' => e = .returned (.agg (bcells (readN bl ws b ws.length)).toArray) ∧ Below w.heap.size w w' := by
  obtain ⟨m, rfl⟩ : ∃ m : Nat, b = (m : Int) := ⟨b.toNat, by omega⟩
  have hm : m < 130 := by omega
  have hz64 := (zero_of_info zero_content).1
  have hz65 := (zero_of_info zero_pending).1
  have hlen := h.d.len
  have h64 := h.d.all64
  obtain ⟨c0, hc0⟩ := hid_ex bl[m]!
  have hl0 : c0.length = 64 := by rw [hc0.out]; exact h64 _ (mem_at (by omega))
  have hcl : (bcells c0).length = 64 := by rw [bcells_length, hl0]
  have hr1 : (w.alloc (.cells (zeros 64).toArray 121)).rangeAt p (m * 64) (bcells c0) := by rw [hc0.out]; exact World.rangeAt_alloc (h.d.rng m hm) _
  go_enter Try.func111, Try.ntmps111
  go_upto_region 2 with (first
    | (refine wpList_load_mid rfl 121 _ rfl p (m * 64) rfl (bcells c0) _ hr1 Try.underlying121 rfl (by rw [size_content, hcl]) ?_)
    | (refine wpList_alloc_big rfl 121 rfl _ hz64 ?_)
    | (refine wpList_store_new rfl 121 _ _ rfl _ (bcells c0).toArray rfl rfl (by rw [size_content]; simp [hcl]) (by simp [zeros, hcl]) (all_oneCell_toArray cells_u8) ?_))
  have e0 : (w.alloc (.cells (zeros 64).toArray 121)).heap.size = w.heap.size + 1 := by simp
  try rw [e0]
  have hS0 : RdS w ((w.alloc (.cells (zeros 64).toArray 121)).alloc (.cells (bcells c0).toArray 121)) w.heap.size (w.heap.size + 1) c0 := by
    have e1 : (w.alloc (.cells (zeros 64).toArray 121)).heap.size = w.heap.size + 1 := by simp
    have r := range_new (w.alloc (.cells (zeros 64).toArray 121)) (bcells c0) 121
    have t := there_new (w.alloc (.cells (zeros 64).toArray 121)) (bcells c0) 121
    have t0 := there_new w (zeros 64) 121
    rw [e1] at r t
    rw [hcl] at t
    rw [show (zeros 64).length = 64 from List.length_replicate] at t0
    exact ⟨gal (gal (gre _) _) _, World.there_alloc t0 _, r, t, hl0⟩
  generalize (w.alloc (.cells (zeros 64).toArray 121)).alloc (.cells (bcells c0).toArray 121) = wA at hS0 ⊢
  obtain ⟨A, hA⟩ := hid_ex w.heap.size
  obtain ⟨B, hB⟩ := hid_ex (w.heap.size + 1)
  rw [← hB.out] at hS0 ⊢
  rw [← hA.out] at hS0 ⊢
  have hAB : A < B := by rw [hA.out, hB.out]; omega
  have hDr := h.grow hS0.bel
  have x0 := hDr.d.ws
  clear hr1 hcl hDr
  go_wp2
  go_loopw [19] (fun i wr => ∃ (k : Nat) (cur : List Nat), k ≤ ws.length ∧ i = .int .i64 k ∧ Hid (cur = readN bl ws (m : Int) k) ∧ RdS w wr A B cur) (fun i _ => ws.length - (intOf i).toNat)
  case atStart => exact ⟨0, c0, Nat.zero_le _, rfl, by show _ = _; rw [hc0.out]; rfl, hS0⟩
  case round =>
    obtain ⟨k, cur, hk, rfl, hcur, hS⟩ := hrel
    have hAl := there_lt hS.ta (by decide)
    have hBl := there_lt hS.tb (by decide)
    by_cases hlt : k < ws.length
    · have hDrk := h.grow hS.bel
      obtain ⟨g, rfl, _, hgl, hrg⟩ := owns_pend hDrk.own hDrk.w64 hlt
      obtain ⟨n, hn⟩ := hid_ex ws[k]!
      rw [← hn.out] at hrg
      have hn64 : Hid (n.bytes.length = 64) := by show _ = _; rw [hn.out]; exact h.w64 _ (mem_at hlt)
      have hpl : n.pc.length = 65 := pc_length hn64.out
      have hbl64 : (bcells n.bytes).length = 64 := by rw [bcells_length]; exact hn64.out
      have i0 : (0 : Int) ≤ (k : Int) := by omega
      have i1 : (k : Int) < (ws.length : Int) := by omega
      clear hDrk
      go_upto_region 5 with (first
        | (refine wpList_load_mid rfl 184 _ rfl g (k * 65) rfl n.pc _ hrg Try.underlying184 rfl (by rw [size_pending, hpl]) ?_)
        | (refine wpList_alloc_big rfl 184 rfl _ hz65 ?_)
        | (refine wpList_store_new rfl 184 _ _ rfl _ n.pc.toArray rfl rfl (by rw [size_pending]; simp [hpl]) (by simp [zeros, hpl]) (all_oneCell_toArray pc_one) ?_))
      have hSA := hS.grow (gal (gre wr) (.cells n.pc.toArray 184)) hAl hBl
      have hrn := range_new wr n.pc 184
      have hby : (wr.alloc (.cells n.pc.toArray 184)).rangeAt wr.heap.size 1 (bcells n.bytes) := range_drop (cs := [.int .i64 n.block]) hrn
      have hq0 : (wr.alloc (.cells n.pc.toArray 184)).cell? ⟨wr.heap.size, 0, none⟩ = some (.int .i64 n.block) := hrn 0 _ rfl
      generalize wr.alloc (.cells n.pc.toArray 184) = wC at hSA hby hq0 ⊢
      clear hrn hS
      generalize wr.heap.size = Q at hby hq0 hAl hBl ⊢
      by_cases heq : n.block = (m : Int)
      · have t1 : (n.block == (m : Int)) = true := by simp [heq]
        have hst : Hid (n.bytes = readN bl ws (m : Int) (k + 1)) := by show _ = _; simp only [readN]; rw [← hn.out, if_pos heq]
        clear heq
        go_wp2_with (first
          | (refine wpList_load_mid rfl 121 _ rfl Q 1 rfl (bcells n.bytes) _ hby Try.underlying121 rfl (by rw [size_content, hbl64]) ?_)
          | (refine wpList_store_mid rfl 121 _ _ rfl B 0 (bcells n.bytes).toArray rfl rfl (by rw [List.size_toArray, hbl64]; exact hSA.tb) (by rw [size_content, List.size_toArray, hbl64]) (all_oneCell_toArray cells_u8) ?_))
        go_roundw
        case rel =>
          refine ⟨k + 1, n.bytes, by omega, by go_num, hst, ?_⟩
          exact ⟨(Kept.setCells (p := fun z => z = B) _ _ (Kept.refl _ wC) (fun _ => rfl)).below (by have := hSA.bel.size; omega) (fun z hz e => by have := hB.out; omega) |> hSA.bel.trans, World.there_setCells hSA.ta _ _ _, World.rangeAt_setCells_same _ _ _ _ (by rw [hbl64]; exact hSA.tb), World.there_setCells hSA.tb _ _ _, hn64.out⟩
        case measure => simp [intOf]; omega
      · have t1 : (n.block == (m : Int)) = false := by simpa using heq
        have hst : Hid (cur = readN bl ws (m : Int) (k + 1)) := by show _ = _; simp only [readN]; rw [← hn.out, if_neg heq, hcur.out]
        clear heq
        go_wp2
        go_roundw
        case rel => exact ⟨k + 1, cur, by omega, by go_num, hst, hSA⟩
        case measure => simp [intOf]; omega
    · obtain rfl : k = ws.length := by omega
      have hcl : (bcells cur).length = 64 := by rw [bcells_length, hS.len]
      go_wp2_with (first
        | (refine wpList_load_mid rfl 121 _ rfl B 0 rfl (bcells cur) _ hS.rb Try.underlying121 rfl (by rw [size_content, hcl]) ?_)
        | (refine wpList_store_mid rfl 121 _ _ rfl A 0 (bcells cur).toArray rfl rfl (by rw [List.size_toArray, hcl]; exact hS.ta) (by rw [size_content, List.size_toArray, hcl]) (all_oneCell_toArray cells_u8) ?_))
      refine bodyPost_ret (results_cell_mid Try.results111 _ _ A 0 (bcells cur) _ rfl (World.rangeAt_setCells_same _ _ _ _ (by rw [hcl]; exact hS.ta)) Try.underlying121 rfl (by rw [size_content, hcl])) rfl ⟨by rw [hcur.out], ?_⟩
      exact hS.bel.trans ((Kept.setCells (p := fun z => z = A) _ _ (Kept.refl _ wr) (fun _ => rfl)).below hS.bel.size (fun z hz e => by have := hA.out; omega))

end Go.Proofs.Ythjddpkegooobab

/-
  IREAD: the program's Read. Own work.
-/
namespace Go.Proofs.Ythjddpkegooobab
open Go.RowKit

/-- bytes that open a row of any type -/
def TRow (w : World) (t a n : Nat) (xs : List Nat) : Prop := ∃ f, w.rowIs a t n f ∧ xs.length ≤ n ∧ ∀ i, i < xs.length → f i = .int .u8 ((xs[i]! : Nat) : Int)
theorem TRow.at_ {w : World} {t a n : Nat} {xs : List Nat} (h : TRow w t a n xs) : BytesAt w (some ⟨a, 0, none⟩) xs := fun i hi => by
  obtain ⟨f, hr, hl, hf⟩ := h
  exact ⟨a, 0, rfl, by rw [Nat.zero_add, ← hf i hi]; exact hr.cell (by omega)⟩
theorem TRow.lt {w : World} {t a n : Nat} {xs : List Nat} (h : TRow w t a n xs) : a < w.heap.size := by obtain ⟨f, hr, _⟩ := h; exact hr.lt
theorem TRow.kept {p : Nat → Prop} {w w' : World} {t a n : Nat} {xs : List Nat} (h : TRow w t a n xs) (k : Kept p w w') (hn : ¬ p a) : TRow w' t a n xs := by
  obtain ⟨f, hr, r⟩ := h
  exact ⟨f, k.rowIs hr hn, r⟩
/-- bytes that are handed back, in memory of their own -/
def MT (w : World) (lo hi : Nat) (oa : Option Addr) (ys : List Nat) : Prop := ys = [] ∨ ∃ q, oa = some ⟨q, 0, none⟩ ∧ lo ≤ q ∧ q < hi ∧ TRow w 121 q 64 ys
theorem MT.at_ {w : World} {lo hi : Nat} {oa : Option Addr} {ys : List Nat} (h : MT w lo hi oa ys) : BytesAt w oa ys := by
  rcases h with rfl | ⟨q, rfl, _, _, h⟩
  · exact fun i hi => absurd hi (Nat.not_lt_zero _)
  · exact h.at_
theorem MT.kept {p : Nat → Prop} {w w' : World} {lo hi : Nat} {oa : Option Addr} {ys : List Nat} (h : MT w lo hi oa ys) (k : Kept p w w') (hn : ∀ b, lo ≤ b → b < hi → ¬ p b) : MT w' lo hi oa ys := by
  rcases h with h | ⟨q, h1, h2, h3, h4⟩
  · exact Or.inl h
  · exact Or.inr ⟨q, h1, h2, h3, h4.kept k (hn q h2 h3)⟩
theorem MT.grow {w w' : World} {lo hi : Nat} {oa : Option Addr} {ys : List Nat} (h : MT w lo hi oa ys) (hb : Below w.heap.size w w') : MT w' lo hi oa ys := h.kept (Kept.of_below hb (fun _ => False)) (fun _ _ _ e => e)
def TPost (ys : List Nat) (w : World) (e : Ending) (w' : World) : Prop := ∃ oa c, e = .returned (.slice oa ys.length c) ∧ MT w' w.heap.size w'.heap.size oa ys ∧ Below w.heap.size w w'

theorem row_new (w : World) (ys : List Nat) (t : TypeId) : TRow (w.alloc (.cells (bcells ys).toArray t)) t w.heap.size ys.length ys := by
  refine ⟨fun i => .int .u8 ((ys[i]! : Nat) : Int), ⟨_, heap_alloc_last w _, by simp [bcells], fun i hi => ?_⟩, Nat.le_refl _, fun i hi => rfl⟩
  rw [List.getElem?_toArray, bcells_get hi]

end Go.Proofs.Ythjddpkegooobab

/-
  BEQUAL: the library's comparing of bytes. Own work.
-/
namespace Go.Proofs.Ythjddpkegooobab
open Go.RowKit

theorem bs_strB {xs : List Nat} (h : ∀ x, x ∈ xs → x < 256) : bsOf (strB xs) = xs := by
  unfold bsOf strB strOfNums
  show ((xs.map _).map _).map _ = xs
  rw [List.map_map, List.map_map]
  conv => rhs; rw [← List.map_id xs]
  apply List.map_congr_left
  intro x hx
  show (UInt8.ofNat ((x : Int)).toNat).toNat = x
  have := h x hx
  simp []
  omega
theorem strB_eq {xs ys : List Nat} (hx : ∀ x, x ∈ xs → x < 256) (hy : ∀ x, x ∈ ys → x < 256) : ((strB xs).toList == (strB ys).toList) = decide (xs = ys) := by
  by_cases h : xs = ys
  · subst h; simp
  · rw [decide_eq_false h, beq_eq_false_iff_ne]
    intro e
    apply h
    have e2 : strB xs = strB ys := by
      apply ByteArray.ext
      apply Array.ext'
      rw [← ByteArray.toList_eq, ← ByteArray.toList_eq]; exact e
    rw [← bs_strB hx, e2, bs_strB hy]

set_option maxRecDepth 100000 in
theorem bytesEqual_any (a a' : Option Addr) (xs ys : List Nat) (c c' : Nat) (w : World) (hx : ∀ x, x ∈ xs → x < 256) (hy : ∀ x, x ∈ ys → x < 256) (ha : BytesAt w a xs) (ha' : BytesAt w a' ys) :
    Calls Try.prog 88 #[.slice a xs.length c, .slice a' ys.length c'] w fun e w' => e = .returned (.bool (decide (xs = ys))) ∧ Below w.heap.size w w' := by
  have h1 := conv_text (n := xs.length) (c := c) ha rfl
  have h2 := conv_text (n := ys.length) (c := c') ha' rfl
  have h3 := strB_eq hx hy
  go_enter Try.func88, Try.ntmps88
  go_wp2
  go_ret
  exact ⟨by first | rfl | rw [← h3]; rfl, gre _⟩

end Go.Proofs.Ythjddpkegooobab

/-
  IHEAD2: the program's HeadOf. Own work.
-/
namespace Go.Proofs.Ythjddpkegooobab
open Go.RowKit

theorem run_slice_tail (u : World) (b : Nat) : (Instr.sliceAt 121 (.pointer (some ⟨b, 0, none⟩)) (some (.int .i64 4)) none none).run Try.prog u = .ok (.slice (some ⟨b, 4, none⟩) 60 60) u := by
  simp [Instr.sliceAt, run_underlying Try.underlying121, Instr.sureAddr, Instr.sliceBounds, go_sem, Addr.add]
set_option maxRecDepth 100000 in
theorem method_drive (p : Nat) (w : World) : (method 337 119 (.pointer (some ⟨p, 0, none⟩)) "loop.example/chest/impl.read").run Try.prog w = .ok (111, .pointer (some ⟨p, 0, none⟩)) w := by kernel_rfl

theorem rdLow_some : ∀ (k i : Nat) (n : Int) (r : List Nat), k ≤ r.length → ∃ x, rdLow k i n r = some (x, r.drop k)
  | 0, _, n, r, _ => ⟨n, rfl⟩
  | k + 1, i, n, x :: r, h => by
    obtain ⟨y, hy⟩ := rdLow_some k (i + 1) (orI n x i) r (by simpa using h)
    exact ⟨y, hy⟩

/-- what heads' bytes read as to the program -/
structure IRd (bs : List Nat) (g l s : Int) (r1 r2 r3 : List Nat) : Prop where
  e1 : rdLow 8 0 0 (bs.drop 4) = some (g, r1)
  e2 : rdLow 8 0 0 r1 = some (l, r2)
  e3 : rdLow 8 0 0 r2 = some (s, r3)
theorem ird {bs : List Nat} (h : bs.length = 64) : ∃ g l s r1 r2 r3, IRd bs g l s r1 r2 r3 := by
  obtain ⟨g, hg⟩ := rdLow_some 8 0 0 (bs.drop 4) (by rw [List.length_drop]; omega)
  obtain ⟨l, hl⟩ := rdLow_some 8 0 0 ((bs.drop 4).drop 8) (by rw [List.length_drop, List.length_drop]; omega)
  obtain ⟨s, hs⟩ := rdLow_some 8 0 0 (((bs.drop 4).drop 8).drop 8) (by rw [List.length_drop, List.length_drop, List.length_drop]; omega)
  exact ⟨g, l, s, _, _, _, hg, hl, hs⟩
theorem ird_is {bs : List Nat} {g l s : Int} {r1 r2 r3 : List Nat} (h : IRd bs g l s r1 r2 r3) {x : HH} (hx : x.Is bs) : g = x.gen ∧ l = x.len ∧ s = x.sum := by
  have hr := rng_i64 hx.rng
  obtain ⟨h1, h2, h3⟩ := h
  rw [hx.eq, headB_drop, rdLow_word (by unfold I64; omega)] at h1
  injection h1 with h1
  injection h1 with e1 e1'
  rw [← e1', rdLow_word (by unfold I64; omega)] at h2
  injection h2 with h2
  injection h2 with e2 e2'
  rw [← e2', rdLow_word hx.sum] at h3
  injection h3 with h3
  injection h3 with e3 e3'
  exact ⟨e1.symm, e2.symm, e3.symm⟩
theorem ird_sum {bs : List Nat} {g l s : Int} {r1 r2 r3 : List Nat} (h : IRd bs g l s r1 r2 r3) (hk : headOkB true g l = true) (he : headB g l s = bs) : I64 s := by
  have hr := rng_i64 hk
  obtain ⟨h1, h2, h3⟩ := h
  rw [← he, headB_drop, rdLow_word (by unfold I64; omega)] at h1
  injection h1 with h1
  injection h1 with e1 e1'
  rw [← e1', rdLow_word (by unfold I64; omega)] at h2
  injection h2 with h2
  injection h2 with e2 e2'
  have h4 := rdLow_back 8 0 0 (u64n s) (lowB 8 (sumN (headN g l s)) ++ List.replicate 28 0) (by omega) (by simp)
  rw [show IntKind.i64.wrap ((0 : Nat) : Int) = 0 by rw [IntKind.wrap_i64]; omega, e2', h3] at h4
  injection h4 with h4
  injection h4 with e3 e3'
  rw [e3, IntKind.wrap_i64]
  unfold I64
  omega

theorem readWord_known (b : Nat) (sa : Option Addr) (cap : Nat) (bs r : List Nat) (x : Int) (r' : List Nat) (w : World) (hR : Rd w b sa cap bs r) (hx : Hid (rdLow 8 0 0 r = some (x, r'))) :
    Calls Try.prog 157 #[.pointer (some ⟨b, 0, none⟩)] w fun e w' => e = .returned (.int .i64 x) ∧ Rd w' b sa cap bs r' ∧ Kept (fun k => k = b) w w' :=
  (readWord_any b sa cap bs r w hR).mono fun e w' ⟨hK, h⟩ => by
    rcases h with ⟨y, q, hf, he, hR'⟩ | ⟨hf, _⟩
    · have e1 := hx.out.symm.trans hf.out
      injection e1 with e1
      injection e1 with e2 e3
      subst e2
      subst e3
      exact ⟨he, hR', hK⟩
    · have e1 := hx.out.symm.trans hf.out
      cases e1

theorem Rd.new {w : World} {q : Nat} {bs : List Nat} (hb : ∀ x, x ∈ bs → x < 256) (hl : bs.length = 64) (ht : TRow w 121 q 64 bs) : Rd (w.alloc (.cells #[.slice (some ⟨q, 4, none⟩) 60 60, .int .i64 0] 117)) w.heap.size (some ⟨q, 4, none⟩) 60 (bs.drop 4) (bs.drop 4) := by
  have hd : (bs.drop 4).length = 60 := by rw [List.length_drop, hl]
  have hA := gal (gre w) (.cells #[.slice (some ⟨q, 4, none⟩) 60 60, .int .i64 0] 117)
  refine ⟨⟨0, ⟨by simp, by rw [hd]; simp, by simp, fun o => by simp⟩, Nat.zero_le _, rfl⟩, ?_, by omega, by omega, fun x hx => hb x (List.mem_of_mem_drop hx)⟩
  refine BytesLow.below (B := w.heap.size) (w := w) (fun i hi => ?_) hA
  obtain ⟨b, off, e, hc⟩ := ht.at_ (4 + i) (by omega)
  refine ⟨q, 4, rfl, ht.lt, ?_⟩
  injection e with e
  injection e with e3 e4
  subst e3
  subst e4
  rw [getElem!_pos (bs.drop 4) i hi, List.getElem_drop]
  rw [getElem!_pos bs (4 + i) (by omega), Nat.zero_add] at hc
  exact hc

theorem headBB_byte (ok : Bool) (gen len sum : Int) : ∀ x, x ∈ headBB ok gen len sum → x < 256 := by
  unfold headBB
  split
  · intro x hx
    unfold headB at hx
    rcases List.mem_append.1 hx with hx | hx
    · rcases List.mem_append.1 hx with hx | hx
      · exact headN_byte gen len sum x hx
      · exact lowB_byte _ _ _ hx
    · rw [List.eq_of_mem_replicate hx]; decide
  · intro x hx
    cases hx
theorem calls_argsH {P : Program} {f : Nat} {a b : Array Value} {w : World} {Q : Ending → World → Prop} (h : Calls P f a w Q) (e : a = b) : Calls P f b w Q := by subst e; exact h

/-- a slot of a drive -/
structure SV (w : World) (b p m : Nat) : Prop where
  lt : b < w.heap.size
  c0 : w.cell? ⟨b, 0, none⟩ = some (.pointer (some ⟨p, 0, none⟩))
  c1 : w.cell? ⟨b, 1, none⟩ = some (.int .i64 (m : Int))
theorem SV.kept {q : Nat → Prop} {w w' : World} {b p m : Nat} (h : SV w b p m) (k : Kept q w w') (hn : ¬ q b) : SV w' b p m :=
  ⟨Nat.lt_of_lt_of_le h.lt k.size, k.cell h.c0 hn, k.cell h.c1 hn⟩
theorem SV.grow {w w' : World} {b p m : Nat} (h : SV w b p m) (k : Below w.heap.size w w') : SV w' b p m := h.kept (Kept.of_below k (fun _ => False)) (fun e => e)
theorem SV.new (w : World) (p m : Nat) (t : TypeId) : SV (w.alloc (.cells #[.pointer (some ⟨p, 0, none⟩), .int .i64 (m : Int)] t)) w.heap.size p m := ⟨by simp, by simp, by simp⟩

set_option maxHeartbeats 2000000 in
set_option maxRecDepth 100000 in
theorem head_any (p m : Nat) (bl : List (List Nat)) (pa : Option Addr) (pc : Nat) (ws : List DW) (kv : Value) (bs : List Nat) (w : World) (hm : m < 130) (hw : ws.length ≤ 201) (hbs : Hid (readN bl ws (m : Int) ws.length = bs)) (hbl : Hid (bs.length = 64)) (hbb : ∀ x, x ∈ bs → x < 256) (hDr : Dr w p bl pa pc ws kv) :
    Calls Try.prog 115 #[.agg #[.pointer (some ⟨p, 0, none⟩), .int .i64 (m : Int)]] w fun e w' => e = .returned (headOf bs).val ∧ Below w.heap.size w w' := by
  have hz64 := (zero_of_info zero_content).1
  have hSl := run_slice_content
  have hSl4 := run_slice_tail
  have hMe := method_drive p
  obtain ⟨G, L, S, r1, r2, r3, hE⟩ := ird hbl.out
  have E1 : Hid _ := hE.e1
  have E2 : Hid _ := hE.e2
  have E3 : Hid _ := hE.e3
  have hyl : Hid ((bcells bs).length = 64) := by show _ = _; rw [bcells_length, hbl.out]
  have hA := gal (gal (gre w) (.cells #[.pointer (some ⟨p, 0, none⟩), .int .i64 (m : Int)] 141)) (.cells #[.bool false, .int .i64 0, .int .i64 0, .int .i64 0] 74)
  have hR0 := HV.new_at (w.alloc (.cells #[.pointer (some ⟨p, 0, none⟩), .int .i64 (m : Int)] 141)) noH 74 (w.heap.size + 1) (by simp)
  go_enter Try.func115, Try.ntmps115
  go_upto_region 2 with (first
    | (go_at_call 111; refine (read_any p bl pa pc ws kv (m : Int) _ (by omega) (by omega) hw (hDr.grow hA)).mono ?_; rw [hbs.out]; rintro e w1 ⟨rfl, hb1⟩)
    | (refine wpList_alloc_big rfl 121 rfl _ hz64 ?_)
    | (refine wpList_store_new rfl 121 _ _ rfl _ (bcells bs).toArray rfl rfl (by rw [size_content]; simp [hyl.out]) (by simp [zeros, hyl.out]) (all_oneCell_toArray cells_u8) ?_))
  have hrow := row_new w1 bs 121
  rw [hbl.out] at hrow
  have hb2 := gal hb1 (.cells (bcells bs).toArray 121)
  have hs2 : w1.heap.size + 1 = (w1.alloc (.cells (bcells bs).toArray 121)).heap.size := by simp
  have hRl := (hR0.grow hb1).box.lt
  generalize w1.alloc (.cells (bcells bs).toArray 121) = w2 at hrow hb2 hs2 ⊢
  generalize w1.heap.size = q at hrow hs2 hRl ⊢
  have hRd := Rd.new hbb hbl.out hrow
  have hb3 := gal hb2 (.cells #[.slice (some ⟨q, 4, none⟩) 60 60, .int .i64 0] 117)
  have hrow3 := hrow.kept (Kept.of_below (gal (gre w2) (.cells #[.slice (some ⟨q, 4, none⟩) 60 60, .int .i64 0] 117)) (fun _ => False)) (fun e => e)
  go_upto_region 3 with fail
  generalize w2.alloc (.cells #[.slice (some ⟨q, 4, none⟩) 60 60, .int .i64 0] 117) = w3 at hRd hb3 hrow3 ⊢
  rw [← hs2] at hRd ⊢
  clear hrow hb2 hs2
  have hR3 := hR0.grow hb3
  have hA3 := gca hA hb3
  go_upto_region 4 with (first
    | (go_at_call 157; refine (readWord_known _ _ _ _ r2 S r3 w5 hRd2 E3).mono ?_; rintro e w6 ⟨rfl, hRd3, hK3⟩)
    | (go_at_call 157; refine (readWord_known _ _ _ _ r1 L r2 w4 hRd1 E2).mono ?_; rintro e w5 ⟨rfl, hRd2, hK2⟩)
    | (go_at_call 157; refine (readWord_known _ _ _ _ _ G r1 w3 hRd E1).mono ?_; rintro e w4 ⟨rfl, hRd1, hK1⟩))
  have hK := (hK1.trans hK2 (fun _ _ h => h)).trans hK3 (fun _ _ h => h)
  have hR6 := hR3.kept hK (by omega)
  have hrow6 := hrow3.kept hK (by omega)
  have hA6 := hA3.trans (hK.below (B := w.heap.size) hA3.size (fun k hk e => by omega))
  have hb7 := gal (gre w6) (.cells #[.bool true, .int .i64 G, .int .i64 L, .int .i64 S] 74)
  have hHv := HV.new_at w6 ⟨true, G, L, S⟩ 74 w6.heap.size rfl
  have hR7 := hR6.grow hb7
  have hrow7 := hrow6.kept (Kept.of_below hb7 (fun _ => False)) (fun e => e)
  have hA7 := gca hA6 hb7
  have hHl := hRd3.lt
  generalize w6.alloc (.cells #[.bool true, .int .i64 G, .int .i64 L, .int .i64 S] 74) = w7 at hb7 hHv hR7 hrow7 hA7 ⊢
  generalize w6.heap.size = H at hb7 hHv ⊢
  clear hRd hRd1 hRd2 hRd3 hK1 hK2 hK3 hK hR3 hR6 hrow3 hrow6 hA3 hA6
  have hB : Below w7.heap.size w7 w7.drew := gdr (gre _)
  by_cases t : headBB true G L S = bs
  · have t' : Hid (decide (headBB true G L S = bs) = true) := decide_eq_true t
    have hk : headOkB true G L = true := by
      cases hk : headOkB true G L with
      | true => rfl
      | false =>
        rw [show headBB true G L S = [] from if_neg (by rw [hk]; simp)] at t
        have := hbl.out
        rw [← t] at this
        simp at this
    have hhe : headB G L S = bs := by rw [← t]; exact (if_pos hk).symm
    have hans : Hid (headOf bs = ⟨true, G, L, S⟩) := headOf_yes (x := ⟨true, G, L, S⟩) ⟨rfl, hk, ird_sum hE hk hhe, hhe.symm⟩
    clear t hk hhe hE
    refine wp_regionU (fun u => HBox u H true G L S) 99 (by kernel_rfl) (hHv.grow hB).box (fun _ => ?_)
    refine anyU_take (i := 0) (v := ?_) rfl (by kernel_rfl) (by kernel_rfl) (by kernel_rfl) (by kernel_rfl) (fun _ _ _ h => h) (Or.inl ⟨by rfl, ?_⟩) (hHv.grow hB).box ?_
    rotate_left
    · intro u hSu; obtain ⟨_, s0, s1, s2, s3⟩ := hSu; go_simp <;> with_reducible rfl
    simp only [Act.put, List.getElem_toArray, List.getElem_cons_zero, List.setIfInBounds_toArray, List.set_cons_zero, List.set_cons_succ]
    refine anyU_take (i := 2) (v := ?_) rfl (by kernel_rfl) (by kernel_rfl) (by kernel_rfl) (by kernel_rfl) (fun _ _ _ h => h) (Or.inl ⟨by rfl, ?_⟩) (hHv.grow hB).box ?_
    rotate_left
    · intro u hSu; go_simp <;> with_reducible rfl
    simp only [Act.put, List.getElem_toArray, List.getElem_cons_zero, List.getElem_cons_succ, List.setIfInBounds_toArray, List.set_cons_zero, List.set_cons_succ]
    refine anyU_one (i := 1) (by kernel_rfl) rfl (fun K hK => ?_)
    go_simp
    refine (implHeadBlock_any true G L S _).mono ?_
    rintro e w8 ⟨oa8, c8, rfl, hM8, hb8⟩
    have hB := gca hB hb8
    refine hK.out _ _ (hHv.grow hB).box ?_
    clear hK
    refine anyU_one (i := 3) (by kernel_rfl) rfl (fun K hK => ?_)
    go_simp
    refine (calls_argsH (bytesEqual_any oa8 (some ⟨q, 0, none⟩) (headBB true G L S) bs c8 64 w8 (headBB_byte true G L S) hbb hM8.atH (hrow7.at_.grow hB)) (by rw [hbl.out])).mono ?_
    rintro e w9 ⟨rfl, hb9⟩
    rw [t'.out]
    have hB := gca hB hb9
    refine hK.out _ _ (hHv.grow hB).box ?_
    clear hK
    refine anyU_one (i := 4) (by kernel_rfl) rfl (fun K hK => ?_)
    go_simp
    refine hK.out _ _ (hHv.grow hB).box ?_
    clear hK
    refine anyU_done (by kernel_rfl) ?_
    have hR9 := hR7.grow hB
    have hH9 := hHv.grow hB
    have hA9 := gca hA7 hB
    clear hB hb8 hb9 hM8
    obtain ⟨⟨_, z0, z1, z2, z3⟩, zf⟩ := id hR9
    obtain ⟨⟨_, y0, y1, y2, y3⟩, yf⟩ := id hH9
    go_upto_region 99 with fail
    obtain ⟨c0, c1, c2, c3, K⟩ := ret4 hR9 (.bool true) (.int .i64 G) (.int .i64 L) (.int .i64 S)
    exact bodyPost_ret (v := headV true G L S) (by simp [results, Try.results115, go_sem, c0, c1, c2, c3]) rfl ⟨by rw [hans.out], hA9.trans (K.below (B := w.heap.size) hA9.size (fun k hk e => by omega))⟩
  · have t' : Hid (decide (headBB true G L S = bs) = false) := decide_eq_false t
    have hans : Hid (headOf bs = noH) := headOf_no (bs := bs) (fun x hx => by
      obtain ⟨e1, e2, e3⟩ := ird_is hE hx
      refine t ?_
      rw [e1, e2, e3]
      exact (if_pos hx.rng).trans hx.eq.symm)
    clear t hE
    refine wp_regionU (fun u => HBox u H true G L S) 99 (by kernel_rfl) (hHv.grow hB).box (fun _ => ?_)
    refine anyU_take (i := 0) (v := ?_) rfl (by kernel_rfl) (by kernel_rfl) (by kernel_rfl) (by kernel_rfl) (fun _ _ _ h => h) (Or.inl ⟨by rfl, ?_⟩) (hHv.grow hB).box ?_
    rotate_left
    · intro u hSu; obtain ⟨_, s0, s1, s2, s3⟩ := hSu; go_simp <;> with_reducible rfl
    simp only [Act.put, List.getElem_toArray, List.getElem_cons_zero, List.setIfInBounds_toArray, List.set_cons_zero, List.set_cons_succ]
    refine anyU_take (i := 2) (v := ?_) rfl (by kernel_rfl) (by kernel_rfl) (by kernel_rfl) (by kernel_rfl) (fun _ _ _ h => h) (Or.inl ⟨by rfl, ?_⟩) (hHv.grow hB).box ?_
    rotate_left
    · intro u hSu; go_simp <;> with_reducible rfl
    simp only [Act.put, List.getElem_toArray, List.getElem_cons_zero, List.getElem_cons_succ, List.setIfInBounds_toArray, List.set_cons_zero, List.set_cons_succ]
    refine anyU_one (i := 1) (by kernel_rfl) rfl (fun K hK => ?_)
    go_simp
    refine (implHeadBlock_any true G L S _).mono ?_
    rintro e w8 ⟨oa8, c8, rfl, hM8, hb8⟩
    have hB := gca hB hb8
    refine hK.out _ _ (hHv.grow hB).box ?_
    clear hK
    refine anyU_one (i := 3) (by kernel_rfl) rfl (fun K hK => ?_)
    go_simp
    refine (calls_argsH (bytesEqual_any oa8 (some ⟨q, 0, none⟩) (headBB true G L S) bs c8 64 w8 (headBB_byte true G L S) hbb hM8.atH (hrow7.at_.grow hB)) (by rw [hbl.out])).mono ?_
    rintro e w9 ⟨rfl, hb9⟩
    rw [t'.out]
    have hB := gca hB hb9
    refine hK.out _ _ (hHv.grow hB).box ?_
    clear hK
    refine anyU_one (i := 4) (by kernel_rfl) rfl (fun K hK => ?_)
    go_simp
    refine hK.out _ _ (hHv.grow hB).box ?_
    clear hK
    refine anyU_done (by kernel_rfl) ?_
    have hR9 := hR7.grow hB
    have hH9 := hHv.grow hB
    have hA9 := gca hA7 hB
    clear hB hb8 hb9 hM8
    obtain ⟨⟨_, z0, z1, z2, z3⟩, zf⟩ := id hR9
    obtain ⟨⟨_, y0, y1, y2, y3⟩, yf⟩ := id hH9
    go_upto_region 99 with fail
    obtain ⟨c0, c1, c2, c3, K⟩ := ret4 hR9 (.bool false) (.int .i64 0) (.int .i64 0) (.int .i64 0)
    exact bodyPost_ret (v := noH.val) (by simp [results, Try.results115, go_sem, c0, c1, c2, c3]) rfl ⟨by rw [hans.out], hA9.trans (K.below (B := w.heap.size) hA9.size (fun k hk e => by omega))⟩

end Go.Proofs.Ythjddpkegooobab

/-
  IIMAGE: the program's slots. Own work.
-/
namespace Go.Proofs.Ythjddpkegooobab
open Go.RowKit

set_option maxRecDepth 100000 in
theorem imageBegin_any (m : Nat) (w : World) (hm : m < 2) : Calls Try.prog 123 #[.int .i64 (m : Int)] w fun e w' => e = .returned (.int .i64 (firstOf m : Nat)) ∧ Below w.heap.size w w' := by
  go_enter Try.func123, Try.ntmps123
  go_wp2
  go_ret
  exact ⟨congrArg (fun z => Ending.returned (.int .i64 z)) (by simp only [firstOf]; first | omega | (unfold wrap64; omega)), gre _⟩

theorem run_slice_upto (u : World) (b k : Nat) (z : Int) (hz : z = (k : Int)) (hk : k ≤ 64) : (Instr.sliceAt 121 (.pointer (some ⟨b, 0, none⟩)) none (some (.int .i64 z)) none).run Try.prog u = .ok (.slice (some ⟨b, 0, none⟩) k 64) u := by
  subst hz
  have h1 : (k : Int) ≤ 64 := by omega
  simp [Instr.sliceAt, run_underlying Try.underlying121, Instr.sureAddr, Instr.sliceBounds, go_sem, Addr.add, h1]
/-- an image that is handed back -/
def ImgPost (n : Nat) (ys : List Nat) (w : World) (e : Ending) (w' : World) : Prop := ∃ oa c, e = .returned (.slice oa n c) ∧ Hid (n ≤ c) ∧ MB w' w.heap.size oa ys ∧ Below w.heap.size w w'
theorem Dr.keptH {q : Nat → Prop} {w w' : World} {p : Nat} {bl : List (List Nat)} {pa : Option Addr} {pc : Nat} {ws : List DW} {k : Value} (h : Dr w p bl pa pc ws k) (K : Kept q w w') (hp : ¬ q p) (ho : ∀ b, (Value.slice pa ws.length pc).ownBlock = some b → ¬ q b) : Dr w' p bl pa pc ws k :=
  ⟨h.d.kept K hp, K.owns h.own (fun z hz e => ho z hz e), h.w64⟩
theorem MB.leH {w : World} {lo lo' : Nat} {oa : Option Addr} {ys : List Nat} (h : MB w lo oa ys) (hl : lo' ≤ lo) : MB w lo' oa ys := by
  rcases h with h | ⟨G, n, h1, h2, h3⟩
  · exact Or.inl h
  · exact Or.inr ⟨G, n, h1, by omega, h3⟩
theorem owns_madeH (u : World) (n : Nat) (h : n ≤ 4096) : (u.alloc (.cells (madeCells #[.int .u8 0] n) 5)).ownsRow u.heap.size 5 1 (.slice (some ⟨u.heap.size, 0, none⟩) 0 n) 0 (bcells []) :=
  ⟨rfl, Or.inr ⟨u.heap.size, n, _, rfl, Nat.le_refl _, heap_alloc_last u _, Nat.zero_le _, by unfold maxLen; omega, by rw [size_madeCells, Nat.mul_one], by simp [bcells]⟩⟩
theorem owns_mb {w : World} {base n c : Nat} {oa : Option Addr} {bs : List Nat} (h : w.ownsRow base 5 1 (.slice oa n c) n (bcells bs)) (hl : bs.length = n) : MB w base oa bs := by
  rcases h.2 with ⟨e, e2⟩ | ⟨g, cap, cur, hv, hb, hg, h1, h2, h3, h4⟩
  · exact Or.inl (List.eq_nil_of_length_eq_zero (by omega))
  · injection hv with e1 _ e3
    subst e1
    refine Or.inr ⟨g, cap, rfl, hb, cur, hg, by omega, by omega, fun i hi => ?_⟩
    have h5 : (cur.toList.take (n * 1))[i]? = (bcells bs)[i]? := by rw [h4]
    rw [List.getElem?_take_of_lt (by omega), Array.getElem?_toList, bcells_get hi] at h5
    exact h5

set_option maxHeartbeats 1000000 in
set_option maxRecDepth 100000 in
theorem image_any (p m n : Nat) (d : DD) (pa : Option Addr) (pc : Nat) (kv : Value) (w : World) (hm : m < 2) (hn : n ≤ 4096) (hf : d.Fit) (_ho : d.Ok) (hDr : Dr w p d.blocks pa pc d.waiting kv) :
    Calls Try.prog 160 #[.agg #[.pointer (some ⟨p, 0, none⟩), .int .i64 (m : Int)], .int .i64 (n : Int)] w (ImgPost n (d.img m n) w) := by
  have hz64 := (zero_of_info zero_content).1
  have hMe := method_drive p
  obtain ⟨i0, hi0, hz0, hz1, hz2⟩ := info_parts info_u8
  have hmk : ∀ u : World, (Instr.makeSlice 28 (.int .i64 0) (.int .i64 (n : Int))).run Try.prog u = .ok (.slice (some ⟨u.heap.size, 0, none⟩) 0 n) (u.alloc (.cells (madeCells #[.int .u8 0] n) 5)) := fun u => by
    have h := run_make (P := Try.prog) u 28 5 i0 _ Try.underlying28 hi0 hz0 .i64 .i64 0 (n : Int) (by omega) (by omega) (by rw [hz2]; omega) (by omega)
    simpa [hz1, Value.cells] using h
  have hS0 := SV.new w p m 141
  have hA := gal (gre w) (.cells #[.pointer (some ⟨p, 0, none⟩), .int .i64 (m : Int)] 141)
  go_enter Try.func160, Try.ntmps160
  go_wp2_with (go_at_call 123; refine (imageBegin_any m _ hm).mono ?_; rintro e w1 ⟨rfl, hb1⟩)
  have hS1 := (hS0.grow (gal (gre _) (.cells (madeCells #[.int .u8 0] n) 5))).grow hb1
  have hA1 := gca (gal hA (.cells (madeCells #[.int .u8 0] n) 5)) hb1
  have hD1 := hDr.grow hA1
  have hO1 : w1.ownsRow (w.heap.size + 1) 5 1 (.slice (some ⟨w.heap.size + 1, 0, none⟩) 0 n) 0 (bcells []) := by
    have hO := owns_madeH (w.alloc (.cells #[.pointer (some ⟨p, 0, none⟩), .int .i64 (m : Int)] 141)) n (by omega)
    rw [World.size_alloc] at hO
    exact (Kept.of_below hb1 (fun _ => False)).owns hO (fun _ _ e => e)
  have hSl1 := hS1.lt
  have hfo : firstOf m ≤ 66 := by unfold firstOf; omega
  clear hb1 hS0 hA hmk
  go_loopw [5, 6] (fun a k wr => ∃ (j g c : Nat), a = .slice (some ⟨g, 0, none⟩) (min (64 * j) n) c ∧ k = .int .i64 ((firstOf m + j : Nat) : Int) ∧ j ≤ 64 ∧ 64 * j < n + 64 ∧ wr.ownsRow (w.heap.size + 1) 5 1 (.slice (some ⟨g, 0, none⟩) (min (64 * j) n) c) (min (64 * j) n) (bcells ((d.cat (firstOf m) j).take n)) ∧ Dr wr p d.blocks pa pc d.waiting kv ∧ SV wr w.heap.size p m ∧ Below w.heap.size w wr) (fun _ k _ => 200 - (intOf k).toNat)
  case atStart => exact ⟨0, w.heap.size + 1, n, by simp, rfl, by omega, by omega, by simpa [DD.cat] using hO1, hD1, hS1, hA1⟩
  case round =>
    obtain ⟨j, g, c, rfl, rfl, hj, hjn, hO, hD, hS, hb⟩ := hrel
    obtain ⟨_, s0, s1⟩ := id hS
    by_cases hlt : 64 * j < n
    · obtain ⟨cu, hcu⟩ := hid_ex (min (64 * j) n)
      have hcj : Hid (cu = 64 * j) := by show _ = _; rw [hcu.out]; omega
      rw [← hcu.out] at hO ⊢
      have hd : (cu : Int) < (n : Int) := by have := hcj.out; omega
      obtain ⟨bs, hbs⟩ := hid_ex (d.rd (firstOf m + j))
      have hbl : Hid (bs.length = 64) := by show _ = _; rw [hbs.out]; exact DD.rd_len hf (m := firstOf m + j) (by unfold firstOf; omega)
      have hyl : Hid ((bcells bs).length = 64) := by show _ = _; rw [bcells_length, hbl.out]
      by_cases hm1 : (n : Int) - (cu : Int) < 64
      · obtain ⟨k, hk0'⟩ := hid_ex (n - cu)
        have hk : Hid (k = min 64 (n - cu)) := by show _ = _; rw [hk0'.out]; have := hcj.out; omega
        have hk64 : k ≤ 64 := by rw [hk.out]; omega
        have hSl := fun (u : World) (b : Nat) => run_slice_upto u b k ((n : Int) - (cu : Int)) (by rw [hk0'.out]; have := hcj.out; omega) hk64
        go_upto_region 6 with (first
          | (go_at_call 111; refine (read_any p d.blocks pa pc d.waiting kv ((firstOf m + j : Nat) : Int) _ (by omega) (by unfold firstOf; omega) (by have := hf.wl; omega) hD).mono ?_; rw [show readN d.blocks d.waiting ((firstOf m + j : Nat) : Int) d.waiting.length = bs from hbs.out.symm]; rintro e w3 ⟨rfl, hb3⟩)
          | (refine wpList_alloc_big rfl 121 rfl _ hz64 ?_)
          | (refine wpList_store_new rfl 121 _ _ rfl _ (bcells bs).toArray rfl rfl (by rw [size_content]; simp [hyl.out]) (by simp [zeros, hyl.out]) (all_oneCell_toArray cells_u8) ?_))
        have hrow := row_new w3 bs 121
        rw [hbl.out] at hrow
        have hb4 := gal hb3 (.cells (bcells bs).toArray 121)
        have hs4 : (w3.alloc (.cells (bcells bs).toArray 121)).heap.size = w3.heap.size + 1 := by simp
        generalize w3.alloc (.cells (bcells bs).toArray 121) = w4 at hrow hb4 hs4 ⊢
        have hO4 := (Kept.of_below hb4 (fun _ => False)).owns hO (fun _ _ e => e)
        have hS4 := hS.grow hb4
        have hD4 := hD.grow hb4
        have hB4 := gca hb hb4
        have hk0 : 0 < k := by rw [hk.out]; have := hcj.out; omega
        have htk : (bs.take k).length = k := by rw [List.length_take, hbl.out]; omega
        have hn4 := bytes_news (hrow.at_.takeH k)
        have hsB := hB4.size
        have hsS := hS4.lt
        generalize w3.heap.size = q at hrow hs4 hn4 ⊢
        have hs4' : Hid _ := hs4
        clear hs4 s0 s1
        go_wp2_with (at_builtin; refine wpList_append_lies _ rfl (.tmp 24) (.tmp 30) 28 rfl (w.heap.size + 1) 5 i0 (.int .u8 0) 1 1 Try.underlying28 hi0 hz0 hz1 hz2 rfl (by decide) _ _ _ rfl hO4 ⟨q, 0, none⟩ k 64 (bcells (bs.take k)) rfl (by rw [bcells_length, htk, Nat.mul_one]) hn4 cells_u8 hk0 (by have := hcj.out; unfold maxLen; omega) (by have := hcj.out; omega) (by omega) w4.heap.size rfl ?_; intro g5 c5 w5 hown5 hgrow5 hat5 hlt5)
        have K5 := Kept.of_grown hgrow5
        have hcat : (d.cat (firstOf m) j).take n ++ bs.take k = (d.cat (firstOf m) (j + 1)).take n := by
          have hcl := DD.cat_len hf (f := firstOf m) (j := j) (by unfold firstOf; omega)
          have h1 : (d.cat (firstOf m) j).take n = d.cat (firstOf m) j := List.take_of_length_le (by omega)
          have h2 : bs.take k = bs.take (n - 64 * j) := by
            have h3 := hcj.out
            by_cases h4 : 64 ≤ n - 64 * j
            · rw [List.take_of_length_le (by rw [hbl.out, hk.out]; omega), List.take_of_length_le (by rw [hbl.out]; omega)]
            · congr 1
              rw [hk.out]; omega
          rw [h1, h2]
          show _ = (d.cat (firstOf m) j ++ d.rd (firstOf m + j)).take n
          rw [List.take_append, ← hbs.out, hcl, h1]
        have hcu5 : cu + k = min (64 * (j + 1)) n := by have := hcj.out; rw [hk.out]; omega
        rw [← bcells_append, hcat, hcu5] at hown5
        have hown5' : Hid _ := hown5
        have hcu5' : Hid _ := hcu5
        clear hown5 hcu5
        go_roundw
        case rel =>
          refine ⟨j + 1, g5, c5, by rw [← hcu5'.out], congrArg (Value.int .i64) (by omega), by have := hcj.out; omega, by have := hcj.out; omega, hown5'.out, ?_, hS4.kept K5 (fun e => by have := (hO4.lt _ e).1; omega), hB4.trans (K5.below (B := w.heap.size) hB4.size (fun z hz e => by have := (hO4.lt _ e).1; omega))⟩
          exact hD4.keptH K5 (fun e => by have := (hO4.lt _ e).1; have := hDr.d.lt; omega) (fun b hb' e => by have := (hO4.lt _ e).1; have := (hDr.own.lt b hb').2; omega)
        case measure => simp [intOf]; omega
      · have hk : Hid (64 = min 64 (n - cu)) := by show _ = _; have := hcj.out; omega
        have hSl := fun (u : World) (b : Nat) => run_slice_upto u b 64 64 rfl (Nat.le_refl _)
        go_upto_region 6 with (first
          | (go_at_call 111; refine (read_any p d.blocks pa pc d.waiting kv ((firstOf m + j : Nat) : Int) _ (by omega) (by unfold firstOf; omega) (by have := hf.wl; omega) hD).mono ?_; rw [show readN d.blocks d.waiting ((firstOf m + j : Nat) : Int) d.waiting.length = bs from hbs.out.symm]; rintro e w3 ⟨rfl, hb3⟩)
          | (refine wpList_alloc_big rfl 121 rfl _ hz64 ?_)
          | (refine wpList_store_new rfl 121 _ _ rfl _ (bcells bs).toArray rfl rfl (by rw [size_content]; simp [hyl.out]) (by simp [zeros, hyl.out]) (all_oneCell_toArray cells_u8) ?_))
        have hrow := row_new w3 bs 121
        rw [hbl.out] at hrow
        have hb4 := gal hb3 (.cells (bcells bs).toArray 121)
        have hs4 : (w3.alloc (.cells (bcells bs).toArray 121)).heap.size = w3.heap.size + 1 := by simp
        generalize w3.alloc (.cells (bcells bs).toArray 121) = w4 at hrow hb4 hs4 ⊢
        have hO4 := (Kept.of_below hb4 (fun _ => False)).owns hO (fun _ _ e => e)
        have hS4 := hS.grow hb4
        have hD4 := hD.grow hb4
        have hB4 := gca hb hb4
        have hk0 : 0 < 64 := by decide
        have htk : (bs.take 64).length = 64 := by rw [List.length_take, hbl.out]; rfl
        have hn4 := bytes_news (hrow.at_.takeH 64)
        have hsB := hB4.size
        have hsS := hS4.lt
        generalize w3.heap.size = q at hrow hs4 hn4 ⊢
        have hs4' : Hid _ := hs4
        clear hs4 s0 s1
        go_wp2_with (at_builtin; refine wpList_append_lies _ rfl (.tmp 24) (.tmp 30) 28 rfl (w.heap.size + 1) 5 i0 (.int .u8 0) 1 1 Try.underlying28 hi0 hz0 hz1 hz2 rfl (by decide) _ _ _ rfl hO4 ⟨q, 0, none⟩ 64 64 (bcells (bs.take 64)) rfl (by rw [bcells_length, htk, Nat.mul_one]) hn4 cells_u8 hk0 (by have := hcj.out; unfold maxLen; omega) (by have := hcj.out; omega) (by omega) w4.heap.size rfl ?_; intro g5 c5 w5 hown5 hgrow5 hat5 hlt5)
        have K5 := Kept.of_grown hgrow5
        have hcat : (d.cat (firstOf m) j).take n ++ bs.take 64 = (d.cat (firstOf m) (j + 1)).take n := by
          have hcl := DD.cat_len hf (f := firstOf m) (j := j) (by unfold firstOf; omega)
          have h1 : (d.cat (firstOf m) j).take n = d.cat (firstOf m) j := List.take_of_length_le (by omega)
          have h2 : bs.take 64 = bs.take (n - 64 * j) := by
            have h3 := hcj.out
            by_cases h4 : 64 ≤ n - 64 * j
            · rw [List.take_of_length_le (by rw [hbl.out]; exact Nat.le_refl _), List.take_of_length_le (by rw [hbl.out]; omega)]
            · congr 1
              have := hk.out; omega
          rw [h1, h2]
          show _ = (d.cat (firstOf m) j ++ d.rd (firstOf m + j)).take n
          rw [List.take_append, ← hbs.out, hcl, h1]
        have hcu5 : cu + 64 = min (64 * (j + 1)) n := by have := hcj.out; have := hk.out; omega
        rw [← bcells_append, hcat, hcu5] at hown5
        have hown5' : Hid _ := hown5
        have hcu5' : Hid _ := hcu5
        clear hown5 hcu5
        go_roundw
        case rel =>
          refine ⟨j + 1, g5, c5, by rw [← hcu5'.out], congrArg (Value.int .i64) (by omega), by have := hcj.out; omega, by have := hcj.out; omega, hown5'.out, ?_, hS4.kept K5 (fun e => by have := (hO4.lt _ e).1; omega), hB4.trans (K5.below (B := w.heap.size) hB4.size (fun z hz e => by have := (hO4.lt _ e).1; omega))⟩
          exact hD4.keptH K5 (fun e => by have := (hO4.lt _ e).1; have := hDr.d.lt; omega) (fun b hb' e => by have := (hO4.lt _ e).1; have := (hDr.own.lt b hb').2; omega)
        case measure => simp [intOf]; omega
    · have hd : ¬ (((min (64 * j) n : Nat) : Int) < (n : Int)) := by omega
      have hmin : min (64 * j) n = n := by omega
      rw [hmin] at hO hd ⊢
      go_wp2
      go_ret
      have hil := DD.img_len hf hm hn
      have himg : (d.cat (firstOf m) j).take n = d.img m n := DD.img_part hf hm hj (by omega)
      rw [himg] at hO
      exact ⟨some ⟨g, 0, none⟩, c, rfl, owns_capH hO, (owns_mb hO hil).leH (by omega), hb⟩

end Go.Proofs.Ythjddpkegooobab
