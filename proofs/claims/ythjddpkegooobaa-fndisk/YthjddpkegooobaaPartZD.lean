import Derived.ProofKit
import Derived.OpenShut
import Derived.Deep.Slices
import Derived.ChangeSlices
import Derived.Test.YthjddpkegooobaaPartT

/-
  DREAD: the drive reads. Own work.
-/
namespace Go.Proofs.Ythjddpkegooobaa
open Go.RowKit

theorem results_cell_mid {P : Program} {fn : Func} {p : Tmp} {ty : TypeId} (h : fn.results = #[.cell p ty]) (tmps : Array Value) (w : World) (g o : Nat) (cs : List Value) (d : TypeDesc)
    (hp : tmps.getD p undef = .pointer (some ⟨g, o, none⟩)) (hc : w.rangeAt g o cs) (hu : P.underlying ty = some d) (hd : d.isRow = true) (hi : (P.info? ty).map (·.size) = some cs.length) :
    (results fn tmps).run P w = .ok (.agg cs.toArray) w := by
  have hp' : tmps[p]?.getD undef = .pointer (some ⟨g, o, none⟩) := by simpa [Array.getD_eq_getD_getElem?] using hp
  simp [results, h, hp', asAddr, run_loadVar_mid w g o ty cs d hc hu hd hi]

/-- while it looks for the last write -/
structure RdS (w wr : World) (A B : Nat) (cur : List Nat) : Prop where
  bel : Below w.heap.size w wr
  ta : wr.there A 0 64
  rb : wr.rangeAt B 0 (bcells cur)
  tb : wr.there B 0 64
  len : cur.length = 64
theorem RdS.grow {w wr w' : World} {A B : Nat} {cur : List Nat} (h : RdS w wr A B cur) (hb : Below wr.heap.size wr w') (hA : A < wr.heap.size) (hB : B < wr.heap.size) : RdS w w' A B cur :=
  ⟨gca h.bel hb, there_same h.ta (hb.block A hA), range_same h.rb (hb.block B hB), there_same h.tb (hb.block B hB), h.len⟩
theorem there_lt {w : World} {b o n : Nat} (h : w.there b o n) (hn : 0 < n) : b < w.heap.size := by
  obtain ⟨v, hv⟩ := Option.isSome_iff_exists.1 (h 0 hn).1
  exact World.block_lt_of_cell? w ⟨b, o + 0, none⟩ hv

set_option maxHeartbeats 4000000 in
set_option maxRecDepth 100000 in
theorem read_any (p : Nat) (bl : List (List Nat)) (pa : Option Addr) (pc : Nat) (ws : List DW) (kv : Value) (b : Int) (w : World) (hb0 : 0 ≤ b) (hb1 : b < 130) (hw : ws.length ≤ 201) (h : Dr w p bl pa pc ws kv) :
    Calls Try.prog 88 #[.pointer (some ⟨p, 0, none⟩), .int .i64 b] w fun e w' => e = .returned (.agg (bcells (readN bl ws b ws.length)).toArray) ∧ Below w.heap.size w w' := by
  obtain ⟨m, rfl⟩ : ∃ m : Nat, b = (m : Int) := ⟨b.toNat, by omega⟩
  have hm : m < 130 := by omega
  have hz64 := (zero_of_info zero_content).1
  have hz65 := (zero_of_info zero_pending).1
  have hlen := h.d.len
  have h64 := h.d.all64
  obtain ⟨c0, hc0⟩ := hid_ex bl[m]!
  have hl0 : c0.length = 64 := by rw [hc0.out]; exact h64 _ (mem_at (by omega))
  have hcl : (bcells c0).length = 64 := by rw [bcells_length, hl0]
  have hr1 : (w.alloc (.cells (zeros 64).toArray 110)).rangeAt p (m * 64) (bcells c0) := by rw [hc0.out]; exact World.rangeAt_alloc (h.d.rng m hm) _
  go_enter Try.func88, Try.ntmps88
  go_upto_region 2 with (first
    | (refine wpList_load_mid rfl 110 _ rfl p (m * 64) rfl (bcells c0) _ hr1 Try.underlying110 rfl (by rw [size_content, hcl]) ?_)
    | (refine wpList_alloc_big rfl 110 rfl _ hz64 ?_)
    | (refine wpList_store_new rfl 110 _ _ rfl _ (bcells c0).toArray rfl rfl (by rw [size_content]; simp [hcl]) (by simp [zeros, hcl]) (all_oneCell_toArray cells_u8) ?_))
  have e0 : (w.alloc (.cells (zeros 64).toArray 110)).heap.size = w.heap.size + 1 := by simp
  try rw [e0]
  have hS0 : RdS w ((w.alloc (.cells (zeros 64).toArray 110)).alloc (.cells (bcells c0).toArray 110)) w.heap.size (w.heap.size + 1) c0 := by
    have e1 : (w.alloc (.cells (zeros 64).toArray 110)).heap.size = w.heap.size + 1 := by simp
    have r := range_new (w.alloc (.cells (zeros 64).toArray 110)) (bcells c0) 110
    have t := there_new (w.alloc (.cells (zeros 64).toArray 110)) (bcells c0) 110
    have t0 := there_new w (zeros 64) 110
    rw [e1] at r t
    rw [hcl] at t
    rw [show (zeros 64).length = 64 from List.length_replicate] at t0
    exact ⟨gal (gal (gre _) _) _, World.there_alloc t0 _, r, t, hl0⟩
  generalize (w.alloc (.cells (zeros 64).toArray 110)).alloc (.cells (bcells c0).toArray 110) = wA at hS0 ⊢
  obtain ⟨A, hA⟩ := hid_ex w.heap.size
  obtain ⟨B, hB⟩ := hid_ex (w.heap.size + 1)
  rw [← hB.out] at hS0 ⊢
  rw [← hA.out] at hS0 ⊢
  have hAB : A < B := by rw [hA.out, hB.out]; omega
  have hDr := h.grow hS0.bel
  have x0 := hDr.d.ws
  clear hr1 hcl hDr
  go_wp2
  go_loopw [19] (fun i wr => ∃ (k : Nat) (cur : List Nat), k ≤ ws.length ∧ i = .int .i64 k ∧ Hid (cur = readN bl ws (m : Int) k) ∧ RdS w wr A B cur) (fun i _ => ws.length - (intOf i).toNat)
  case atStart => exact ⟨0, c0, Nat.zero_le _, rfl, by show _ = _; rw [hc0.out]; rfl, hS0⟩
  case round =>
    obtain ⟨k, cur, hk, rfl, hcur, hS⟩ := hrel
    have hAl := there_lt hS.ta (by decide)
    have hBl := there_lt hS.tb (by decide)
    by_cases hlt : k < ws.length
    · have hDrk := h.grow hS.bel
      obtain ⟨g, rfl, _, hgl, hrg⟩ := owns_pend hDrk.own hDrk.w64 hlt
      obtain ⟨n, hn⟩ := hid_ex ws[k]!
      rw [← hn.out] at hrg
      have hn64 : Hid (n.bytes.length = 64) := by show _ = _; rw [hn.out]; exact h.w64 _ (mem_at hlt)
      have hpl : n.pc.length = 65 := pc_length hn64.out
      have hbl64 : (bcells n.bytes).length = 64 := by rw [bcells_length]; exact hn64.out
      have i0 : (0 : Int) ≤ (k : Int) := by omega
      have i1 : (k : Int) < (ws.length : Int) := by omega
      clear hDrk
      go_upto_region 5 with (first
        | (refine wpList_load_mid rfl 166 _ rfl g (k * 65) rfl n.pc _ hrg Try.underlying166 rfl (by rw [size_pending, hpl]) ?_)
        | (refine wpList_alloc_big rfl 166 rfl _ hz65 ?_)
        | (refine wpList_store_new rfl 166 _ _ rfl _ n.pc.toArray rfl rfl (by rw [size_pending]; simp [hpl]) (by simp [zeros, hpl]) (all_oneCell_toArray pc_one) ?_))
      have hSA := hS.grow (gal (gre wr) (.cells n.pc.toArray 166)) hAl hBl
      have hrn := range_new wr n.pc 166
      have hby : (wr.alloc (.cells n.pc.toArray 166)).rangeAt wr.heap.size 1 (bcells n.bytes) := range_drop (cs := [.int .i64 n.block]) hrn
      have hq0 : (wr.alloc (.cells n.pc.toArray 166)).cell? ⟨wr.heap.size, 0, none⟩ = some (.int .i64 n.block) := hrn 0 _ rfl
      generalize wr.alloc (.cells n.pc.toArray 166) = wC at hSA hby hq0 ⊢
      clear hrn hS
      generalize wr.heap.size = Q at hby hq0 hAl hBl ⊢
      by_cases heq : n.block = (m : Int)
      · have t1 : (n.block == (m : Int)) = true := by simp [heq]
        have hst : Hid (n.bytes = readN bl ws (m : Int) (k + 1)) := by show _ = _; simp only [readN]; rw [← hn.out, if_pos heq]
        clear heq
        go_wp2_with (first
          | (refine wpList_load_mid rfl 110 _ rfl Q 1 rfl (bcells n.bytes) _ hby Try.underlying110 rfl (by rw [size_content, hbl64]) ?_)
          | (refine wpList_store_mid rfl 110 _ _ rfl B 0 (bcells n.bytes).toArray rfl rfl (by rw [List.size_toArray, hbl64]; exact hSA.tb) (by rw [size_content, List.size_toArray, hbl64]) (all_oneCell_toArray cells_u8) ?_))
        go_roundw
        case rel =>
          refine ⟨k + 1, n.bytes, by omega, by go_num, hst, ?_⟩
          exact ⟨(Kept.setCells (p := fun z => z = B) _ _ (Kept.refl _ wC) (fun _ => rfl)).below (by have := hSA.bel.size; omega) (fun z hz e => by have := hB.out; omega) |> hSA.bel.trans, World.there_setCells hSA.ta _ _ _, World.rangeAt_setCells_same _ _ _ _ (by rw [hbl64]; exact hSA.tb), World.there_setCells hSA.tb _ _ _, hn64.out⟩
        case measure => simp [intOf]; omega
      · have t1 : (n.block == (m : Int)) = false := by simpa using heq
        have hst : Hid (cur = readN bl ws (m : Int) (k + 1)) := by show _ = _; simp only [readN]; rw [← hn.out, if_neg heq, hcur.out]
        clear heq
        go_wp2
        go_roundw
        case rel => exact ⟨k + 1, cur, by omega, by go_num, hst, hSA⟩
        case measure => simp [intOf]; omega
    · obtain rfl : k = ws.length := by omega
      have hcl : (bcells cur).length = 64 := by rw [bcells_length, hS.len]
      go_wp2_with (first
        | (refine wpList_load_mid rfl 110 _ rfl B 0 rfl (bcells cur) _ hS.rb Try.underlying110 rfl (by rw [size_content, hcl]) ?_)
        | (refine wpList_store_mid rfl 110 _ _ rfl A 0 (bcells cur).toArray rfl rfl (by rw [List.size_toArray, hcl]; exact hS.ta) (by rw [size_content, List.size_toArray, hcl]) (all_oneCell_toArray cells_u8) ?_))
      refine bodyPost_ret (results_cell_mid Try.results88 _ _ A 0 (bcells cur) _ rfl (World.rangeAt_setCells_same _ _ _ _ (by rw [hcl]; exact hS.ta)) Try.underlying110 rfl (by rw [size_content, hcl])) rfl ⟨by rw [hcur.out], ?_⟩
      exact hS.bel.trans ((Kept.setCells (p := fun z => z = A) _ _ (Kept.refl _ wr) (fun _ => rfl)).below hS.bel.size (fun z hz e => by have := hA.out; omega))

end Go.Proofs.Ythjddpkegooobaa

/-
  IREAD: the program's Read. Own work.
-/
namespace Go.Proofs.Ythjddpkegooobaa
open Go.RowKit

/-- bytes that open a row of any type -/
def TRow (w : World) (t a n : Nat) (xs : List Nat) : Prop := ∃ f, w.rowIs a t n f ∧ xs.length ≤ n ∧ ∀ i, i < xs.length → f i = .int .u8 ((xs[i]! : Nat) : Int)
theorem TRow.at_ {w : World} {t a n : Nat} {xs : List Nat} (h : TRow w t a n xs) : BytesAt w (some ⟨a, 0, none⟩) xs := fun i hi => by
  obtain ⟨f, hr, hl, hf⟩ := h
  exact ⟨a, 0, rfl, by rw [Nat.zero_add, ← hf i hi]; exact hr.cell (by omega)⟩
theorem TRow.lt {w : World} {t a n : Nat} {xs : List Nat} (h : TRow w t a n xs) : a < w.heap.size := by obtain ⟨f, hr, _⟩ := h; exact hr.lt
theorem TRow.kept {p : Nat → Prop} {w w' : World} {t a n : Nat} {xs : List Nat} (h : TRow w t a n xs) (k : Kept p w w') (hn : ¬ p a) : TRow w' t a n xs := by
  obtain ⟨f, hr, r⟩ := h
  exact ⟨f, k.rowIs hr hn, r⟩
/-- bytes that are handed back, in memory of their own -/
def MT (w : World) (lo hi : Nat) (oa : Option Addr) (ys : List Nat) : Prop := ys = [] ∨ ∃ q, oa = some ⟨q, 0, none⟩ ∧ lo ≤ q ∧ q < hi ∧ TRow w 110 q 64 ys
theorem MT.at_ {w : World} {lo hi : Nat} {oa : Option Addr} {ys : List Nat} (h : MT w lo hi oa ys) : BytesAt w oa ys := by
  rcases h with rfl | ⟨q, rfl, _, _, h⟩
  · exact fun i hi => absurd hi (Nat.not_lt_zero _)
  · exact h.at_
theorem MT.kept {p : Nat → Prop} {w w' : World} {lo hi : Nat} {oa : Option Addr} {ys : List Nat} (h : MT w lo hi oa ys) (k : Kept p w w') (hn : ∀ b, lo ≤ b → b < hi → ¬ p b) : MT w' lo hi oa ys := by
  rcases h with h | ⟨q, h1, h2, h3, h4⟩
  · exact Or.inl h
  · exact Or.inr ⟨q, h1, h2, h3, h4.kept k (hn q h2 h3)⟩
theorem MT.grow {w w' : World} {lo hi : Nat} {oa : Option Addr} {ys : List Nat} (h : MT w lo hi oa ys) (hb : Below w.heap.size w w') : MT w' lo hi oa ys := h.kept (Kept.of_below hb (fun _ => False)) (fun _ _ _ e => e)
def TPost (ys : List Nat) (w : World) (e : Ending) (w' : World) : Prop := ∃ oa c, e = .returned (.slice oa ys.length c) ∧ MT w' w.heap.size w'.heap.size oa ys ∧ Below w.heap.size w w'

theorem row_new (w : World) (ys : List Nat) (t : TypeId) : TRow (w.alloc (.cells (bcells ys).toArray t)) t w.heap.size ys.length ys := by
  refine ⟨fun i => .int .u8 ((ys[i]! : Nat) : Int), ⟨_, heap_alloc_last w _, by simp [bcells], fun i hi => ?_⟩, Nat.le_refl _, fun i hi => rfl⟩
  rw [List.getElem?_toArray, bcells_get hi]

end Go.Proofs.Ythjddpkegooobaa

/-
  IREAD: the program's Read. Own work.
-/
namespace Go.Proofs.Ythjddpkegooobaa
open Go.RowKit

set_option maxHeartbeats 1000000 in
set_option maxRecDepth 100000 in
theorem implRead_any (d : DD) (l : DL) (b : Int) (w : World) (hd : d.Ok) (ha : DAt w l d) (hb : I64 b) : Calls Try.prog 32 #[d.val l, .int .i64 b] w (TPost (d.read b) w) := by
  have hA := gal (gre w) (.cells #[.slice l.ba d.blocks.length l.bc, .slice l.wa d.waiting.length l.wc] 44)
  have hX0 := DBox.new w d l 44
  have hz64 := (zero_of_info zero_content).1
  have hSl := run_slice_content
  cases hok : d.ok with
  | false =>
    have hok' : Hid _ := hok
    clear hok
    rw [read_no1 hok'.out]
    go_enter Try.func32, Try.ntmps32
    go_wp2_with (go_at_call 26; refine (implDiskOk_any d l _ hd (ha.grow hA)).mono ?_; rintro e w2 ⟨rfl, hb2⟩; rw [hok'.out])
    go_ret
    exact ⟨none, 0, rfl, Or.inl rfl, gca hA hb2⟩
  | true =>
    have hok' : Hid _ := hok
    clear hok
    have hfit := DD.fit hok'.out
    cases hbk : (decide (0 ≤ b) && decide (b < 130)) with
    | false =>
      have hbk' : Hid _ := hbk
      clear hbk
      rw [read_no2 hbk'.out]
      go_enter Try.func32, Try.ntmps32
      go_wp2_with (first
        | (go_at_call 26; refine (implDiskOk_any d l _ hd (ha.grow hA)).mono ?_; rintro e w2 ⟨rfl, hb2⟩; rw [hok'.out])
        | (go_at_call 87; refine (hasBlock_any b _ hb).mono ?_; rintro e w3 ⟨rfl, hb3⟩; rw [hbk'.out]))
      go_ret
      exact ⟨none, 0, rfl, Or.inl rfl, gca (gca hA hb2) hb3⟩
    | true =>
      have hbk' : Hid _ := hbk
      have hb2' : 0 ≤ b ∧ b < 130 := by simpa using hbk
      obtain ⟨m, rfl⟩ : ∃ m : Nat, b = (m : Int) := ⟨b.toNat, by omega⟩
      have hm : m < 130 := by omega
      clear hbk
      rw [read_yes hok'.out hm]
      obtain ⟨ys, hys⟩ := hid_ex (readN d.blocks d.waiting (m : Int) d.waiting.length)
      have hy64 : ys.length = 64 := by
        rw [hys.out]
        exact readN_mem (p := fun x => x.length = 64) hfit.bb (fun x hx => (hfit.wb x hx).2.2) (by rw [hfit.bl]; simpa using hm) _ (Nat.le_refl _)
      have hyl : (bcells ys).length = 64 := by rw [bcells_length, hy64]
      rw [← hys.out]
      go_enter Try.func32, Try.ntmps32
      go_upto_region 4 with (first
        | (go_at_call 26; refine (implDiskOk_any d l _ hd (ha.grow hA)).mono ?_; rintro e w2 ⟨rfl, hb2⟩; rw [hok'.out])
        | (go_at_call 87; refine (hasBlock_any _ _ hb).mono ?_; rintro e w3 ⟨rfl, hb3⟩; rw [hbk'.out]; obtain ⟨_, x0, x1⟩ := (hX0.grow hb2).grow hb3)
        | (go_at_call 81; refine (driveOf_any d l _ hfit (ha.grow (gca (gca hA hb2) hb3))).mono ?_; rintro e w4 ⟨p, pa, pc, rfl, hp4, hDr, hb4⟩)
        | (go_at_call 88; refine (read_any p d.blocks pa pc d.waiting .nilFunc (m : Int) _ (by omega) (by omega) (by have := hfit.wl; omega) hDr).mono ?_; rw [← hys.out]; rintro e w5 ⟨rfl, hb5⟩)
        | (refine wpList_alloc_big rfl 110 rfl _ hz64 ?_)
        | (refine wpList_store_new rfl 110 _ _ rfl _ (bcells ys).toArray rfl rfl (by rw [size_content]; simp [hyl]) (by simp [zeros, hyl]) (all_oneCell_toArray cells_u8) ?_))
      have hr := row_new w5 ys 110
      have hbA := gal (gca (gca (gca (gca hA hb2) hb3) hb4) hb5) (.cells (bcells ys).toArray 110)
      have hs5 := (gca (gca (gca (gca hA hb2) hb3) hb4) hb5).size
      rw [hy64] at hr
      have hy64' : Hid _ := hy64
      clear hy64
      go_wp2
      go_ret
      exact ⟨some ⟨w5.heap.size, 0, none⟩, 64, by rw [hy64'.out]; rfl, Or.inr ⟨w5.heap.size, rfl, hs5, by simp, hr⟩, hbA⟩

end Go.Proofs.Ythjddpkegooobaa

/-
  OPENB: what bytes that come in read as. Own work.
-/
namespace Go.Proofs.Ythjddpkegooobaa
open Go.RowKit Go.ChangeShapes Go.WideShapes Go.Deep

set_option maxRecDepth 100000 in
theorem cellsU8 : Try.prog.cellsOf 5 = 1 := by kernel_rfl

theorem byte_of_wf {x : Int} (h : (Lit.int .u8 x).wf = true) : 0 ≤ x ∧ x < 256 := by
  simp [Lit.wf, IntKind.min, IntKind.max, IntKind.signed, IntKind.bits] at h
  omega

section
variable {H : Type} {enc : TypeId × Value → H} {w : World} {base : Nat} {held : Bool}

set_option maxRecDepth 100000 in
theorem openBytes {v : Value} {d : DataW H} {ps : List MemPlace} {r : Reach} {bd : Nat} (hv : Value.okWide Try.prog w r bd 22 v) (h : DataW.Trod enc Try.prog w base (fun _ => true) held 22 v d ps) :
    ∃ (bs : List Nat) (a : Option Addr) (cap : Nat), v = .slice a bs.length cap ∧ bs.length ≤ cap ∧ bs.length ≤ maxLen ∧ (∀ x, x ∈ bs → x < 256) ∧ BytesAt w a bs := by
  obtain ⟨fuel, h⟩ := h
  have hcs : v.cells.toList = [v] := by
    cases v <;> first | rfl | (exfalso; simp [Value.okWide, Cell.okWide, Cell.ok, Try.underlying22] at hv)
  rw [hcs] at h
  rcases open_ints Try.underlying22 Try.underlying5 cellsU8 h with ⟨e, _⟩ | ⟨a, len, cap, zs, e, _, hlc, hcm, hzl, _, hcell, hwf⟩
  · simp at e
    subst e
    exact ⟨[], none, 0, rfl, Nat.le_refl _, Nat.zero_le _, fun x hx => (by cases hx), fun i hi => absurd hi (Nat.not_lt_zero _)⟩
  · simp at e
    subst e
    simp at hzl
    have hl : ((zs.take len).map Int.toNat).length = len := by rw [List.length_map, List.length_take]; omega
    refine ⟨(zs.take len).map Int.toNat, some a, cap, by rw [hl], by omega, by omega, fun x hx => ?_, fun i hi => ?_⟩
    · obtain ⟨z, hz, rfl⟩ := List.mem_map.1 hx
      have := byte_of_wf (hwf z (List.mem_of_mem_take hz))
      omega
    · rw [hl] at hi
      have h1 := hcell i (by omega)
      obtain ⟨b, off, sp⟩ := a
      have h0 := hcell 0 (by omega)
      have hsp : sp = none := by simpa [Addr.add] using World.cell?_spot h0
      subst hsp
      refine ⟨b, off, rfl, ?_⟩
      have e1 : (⟨b, off, none⟩ : Addr).add i = ⟨b, off + i, none⟩ := by unfold Addr.add; simp
      rw [e1] at h1
      rw [h1]
      have h2 := byte_of_wf (hwf zs[i] (List.getElem_mem (by omega)))
      rw [getElem!_pos _ i (by rw [hl]; exact hi)]
      have e2 : ((zs.take len).map Int.toNat)[i]'(by rw [hl]; exact hi) = (zs[i]'(by omega)).toNat := by simp
      rw [e2]
      have e3 : zs.getD i 0 = zs[i]'(by omega) := by simp [List.getD, List.getElem?_eq_getElem (show i < zs.length by omega)]
      rw [e3]
      congr 2
      omega
end

end Go.Proofs.Ythjddpkegooobaa

/-
  L6QM: masks, drawn. Own work.
-/
namespace Go.Proofs.Ythjddpkegooobaa
open Go.RowKit

/-- a drawn mask -/
def MaskD (w : World) (b : Nat) (sa : Option Addr) (bs : List Nat) (cap at_ : Nat) (e : Ending) (w' : World) : Prop :=
  ∃ (oa : Option Addr) (c : Nat) (ks : List Bool) (at' : Nat), ks.length ≤ 70 ∧ at' ≤ at_ + 142 ∧ e = .returned (.slice oa ks.length c) ∧ BoolsAt w' oa ks ∧ DK w w' b sa bs cap at'
def kcells (ks : List Bool) : List Value := ks.map Value.bool
theorem kcells_snoc (ks : List Bool) (k : Bool) : kcells (ks ++ [k]) = kcells ks ++ [.bool k] := by simp [kcells]
theorem kcells_at {w : World} {base t cap : Nat} {a : Option Addr} {ks : List Bool} (h : w.ownsRow base t 1 (.slice a ks.length cap) ks.length (kcells ks)) : BoolsAt w a ks := fun i hi => by
  obtain ⟨g, ha, _, _, hc⟩ := owns_cell h (show (kcells ks)[i]? = some (.bool ks[i]!) by rw [getElem!_pos ks i hi]; simp [kcells, hi])
  exact ⟨g, 0, ha, by rw [Nat.zero_add]; exact hc⟩

set_option maxHeartbeats 1000000 in
set_option maxRecDepth 100000 in
theorem l6mask_any (b : Nat) (sa : Option Addr) (bs : List Nat) (cap at_ : Nat) (w : World) (hc : DC w b sa bs cap at_) (hat : at_ + 200 < 4611686018427387904) :
    Calls Try.prog 162 #[.pointer (some ⟨b, 0, none⟩)] w (MaskD w b sa bs cap at_) := by
  obtain ⟨i0, hi, hz0, hz1, hz2⟩ := info_parts info_bool
  have hbl := hc.lt
  have hsl := hc.sl
  go_enter Try.func162, Try.ntmps162
  go_wp2_with (go_at_call_of 52 ((70 : Int)); refine (l6pick_of b sa bs cap at_ 70 70 _ rfl hc (by omega) (by omega) (by omega)).mono ?_; rintro e w1 ⟨n, at1, hn, ha1, rfl, hk1⟩)
  go_loopw [3, 4] (fun o i wr => ∃ (j at' : Nat) (oa : Option Addr) (c : Nat) (ks : List Bool), j ≤ n ∧ i = .int .i64 (j : Int) ∧ o = .slice oa ks.length c ∧ Hid (ks.length + j = n) ∧ at' ≤ at1 + 2 * (n - j) ∧ wr.ownsRow w.heap.size 4 1 (.slice oa ks.length c) ks.length (kcells ks) ∧ DK w wr b sa bs cap at') (fun _ i _ => (intOf i).toNat)
  case atStart => exact ⟨n, at1, none, 0, [], Nat.le_refl _, rfl, rfl, by show 0 + n = n; omega, by omega, owns_none _ _ _ _, hk1⟩
  case round =>
    obtain ⟨j, at2, oa, c, ks, hj, rfl, rfl, hkl, ha2, hO, hd⟩ := hrel
    by_cases hlt : 0 < j
    · have hjl : (0 : Int) < (j : Int) := by omega
      have hksl : ks.length ≤ 70 := by have := hkl.out; omega
      have hwr := hd.kept.size
      go_wp2_with (first
        | (go_at_call_of 52 ((2 : Int)); refine (l6pick_of b sa bs cap at2 2 2 _ rfl hd.dc (by omega) (by omega) (by omega)).mono ?_; rintro e w3 ⟨x, at3, hx, ha3, rfl, hk3⟩; have hO3 := hk3.kept.owns hO (fun z hz e => by have := (hO.lt z hz).1; omega); have hw3 := hk3.kept.size)
        | (at_builtin; refine wpList_append_lies _ rfl (.tmp 11) (.tmp 15) 52 rfl w.heap.size 4 i0 (.bool false) 1 1 Try.underlying52 hi hz0 hz1 hz2 rfl (by decide) _ _ _ rfl (hO3.alloc _) ⟨w3.heap.size, 0, none⟩ 1 1 [.bool ((x : Int) == 0)] rfl rfl (World.news_of_block (cs := #[.bool ((x : Int) == 0)]) (t := 4) (fr := (0, 0)) (blk_new_at _ _ _ (by simp))) (by simp [Value.oneCell']) (by decide) (by unfold maxLen; omega) (by omega) (by simp; omega) (w3.heap.size + 1) (by simp) ?_; intro g1 cc1 wa ho1 hg1 _ _))
      have hz : ∀ z, (Value.slice oa ks.length c).ownBlock = some z → w.heap.size ≤ z := fun z e => (hO3.lt z e).1
      have hd3 := hd.trans hk3
      have hBal := gal (gre w3) (.cells #[.bool ((x : Int) == 0)] 4)
      have hKg := Kept.of_grown hg1
      have hdw : DK w wa b sa bs cap at3 := ⟨(hd3.dc.kept (Kept.of_below hBal (fun _ => False)) (fun e => e) (fun _ _ _ e => e)).kept hKg (fun e => by have := hz b e; omega) (fun g off e e2 => by have := hz g e2; have := hsl g off e; omega), (hd3.kept.trans (Kept.of_below hBal (fun _ => False)) (fun _ _ e => e.elim)).trans hKg (fun z hz2 e => by have := hz z e; omega)⟩
      go_roundw
      case rel => exact ⟨j - 1, at3, some ⟨g1, 0, none⟩, cc1, ks ++ [((x : Int) == 0)], by omega, by rw [show ((j - 1 : Nat) : Int) = (j : Int) - 1 by omega], by rw [List.length_append]; rfl, by show _ = _; rw [List.length_append]; have := hkl.out; simp; omega, by omega, by rw [List.length_append, kcells_snoc]; exact ho1, hdw⟩
      case measure => simp [intOf]; omega
    · obtain rfl : j = 0 := by omega
      go_wp2
      go_ret
      exact ⟨oa, c, ks, at2, by have := hkl.out; omega, by omega, rfl, kcells_at hO, hd⟩

end Go.Proofs.Ythjddpkegooobaa
