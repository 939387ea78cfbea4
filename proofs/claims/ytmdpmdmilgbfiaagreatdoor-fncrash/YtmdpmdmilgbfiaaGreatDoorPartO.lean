import Derived.Test.YtmdpmdmilgbfiaaGreatDoorPartN

/-
  SNEWESTA: the specification's Newest. Own work.
-/
namespace Go.Proofs.YtmdpmdmilgbfiaaGreatDoor
open Go.RowKit

abbrev KV4 (w : World) (R : Nat) (k : KK) (oa : Option Addr) (c : Nat) : Prop := V4 w R (.bool k.ok) (.int .i64 k.gen) (.int .i64 k.slot) (.slice oa k.bytes.length c)

set_option maxHeartbeats 1000000 in
set_option maxRecDepth 100000 in
theorem l4newest_any (d : DD) (l : DL) (w : World) (hf : d.Fit) (ho : d.Ok) (ha : DAt w l d) :
    Calls Tryz.prog 62 #[d.val l] w (KPost d.newestOf w) := by
  have hA := gal (gal (gre w) (.cells #[.slice l.ba d.blocks.length l.bc, .slice l.wa d.waiting.length l.wc] 46)) (.cells #[.bool false, .int .i64 0, .int .i64 0, .slice none 0 0] 62)
  have hX0 := (DBox.new w d l 46).grow (gal (gre _) (.cells #[.bool false, .int .i64 0, .int .i64 0, .slice none 0 0] 62))
  have hR0 := V4.new_at (w.alloc (.cells #[.slice l.ba d.blocks.length l.bc, .slice l.wa d.waiting.length l.wc] 46)) (.bool false) (.int .i64 0) (.int .i64 0) (.slice none 0 0) 62 (w.heap.size + 1) (by simp)
  obtain ⟨a, hka⟩ := hid_ex (d.slotOf 0)
  obtain ⟨b, hkb⟩ := hid_ex (d.slotOf 1)
  have hn : Hid (d.newestOf = if b.ok = true ∧ (a.ok = false ∨ a.gen < b.gen) then b else a) := by
    show _ = _
    unfold DD.newestOf
    rw [← hka.out, ← hkb.out]
  go_enter Tryz.func62, Tryz.ntmps62
  go_upto_region 2 with (go_at_call 101; refine (l4image_any d l 0 _ hf ho (ha.grow hA) (by omega)).mono ?_; rw [← hka.out]; rintro e w1 ⟨oa1, c1, rfl, hcp1, hb1t, hlo1, hb1⟩)
  have hKa := V4.new_at w1 (.bool a.ok) (.int .i64 a.gen) (.int .i64 a.slot) (.slice oa1 a.bytes.length c1) 62 w1.heap.size rfl
  have hb2 := gal hb1 (.cells #[.bool a.ok, .int .i64 a.gen, .int .i64 a.slot, .slice oa1 a.bytes.length c1] 62)
  have hat2 := hb1t.grow (gal (gre w1) (.cells #[.bool a.ok, .int .i64 a.gen, .int .i64 a.slot, .slice oa1 a.bytes.length c1] 62))
  have hX2 := hX0.grow hb2
  have hR2 := hR0.grow hb2
  have hA2 := gca hA hb2
  have hRl := (hR0.grow hb1).lt
  generalize w1.alloc (.cells #[.bool a.ok, .int .i64 a.gen, .int .i64 a.slot, .slice oa1 a.bytes.length c1] 62) = w2 at hKa hb2 hat2 hX2 hR2 hA2 ⊢
  generalize w1.heap.size = PA at hKa hRl ⊢
  clear hb1 hb2 hX0 hR0 hA hb1t
  obtain ⟨_, x0, x1⟩ := id hX2
  go_upto_region 3 with (go_at_call 101; refine (l4image_any d l 1 _ hf ho (ha.grow hA2) (by omega)).mono ?_; rw [← hkb.out]; rintro e w3 ⟨oa3, c3, rfl, hcp3, hb3t, hlo3, hb3⟩)
  have hKb := V4.new_at w3 (.bool b.ok) (.int .i64 b.gen) (.int .i64 b.slot) (.slice oa3 b.bytes.length c3) 62 w3.heap.size rfl
  have hb4 := gal hb3 (.cells #[.bool b.ok, .int .i64 b.gen, .int .i64 b.slot, .slice oa3 b.bytes.length c3] 62)
  have hbt4 := hb3t.grow (gal (gre w3) (.cells #[.bool b.ok, .int .i64 b.gen, .int .i64 b.slot, .slice oa3 b.bytes.length c3] 62))
  have hat4 := hat2.grow hb4
  have hKa4 := hKa.grow hb4
  have hR4 := hR2.grow hb4
  have hA4 := gca hA2 hb4
  have hPl := hKa.lt
  have hPs := hb3.size
  generalize w3.alloc (.cells #[.bool b.ok, .int .i64 b.gen, .int .i64 b.slot, .slice oa3 b.bytes.length c3] 62) = w4 at hKb hb4 hbt4 hat4 hKa4 hR4 hA4 ⊢
  generalize w3.heap.size = PB at hKb hPs ⊢
  clear x0 x1 hb3 hb4 hX2 hKa hR2 hat2 hb3t
  obtain ⟨_, p0, p1, p2, p3, pf⟩ := id hKa4
  obtain ⟨_, q0, q1, q2, q3, qf⟩ := id hKb
  obtain ⟨_, z0, z1, z2, z3, zf⟩ := id hR4
  have hfin : ∀ (k : KK) (oa : Option Addr) (c : Nat) (bs : List Nat), BytesAt w4 oa bs → (∀ g off, oa = some ⟨g, off, none⟩ → w.heap.size + 1 < g) → ∀ w', Kept (fun b => b = w.heap.size + 1) w4 w' → BytesAt w' oa bs ∧ (∀ g off, oa = some ⟨g, off, none⟩ → w.heap.size ≤ g) ∧ Below w.heap.size w w' := fun k oa c bs h1 h2 w' K =>
    ⟨h1.keptH K (fun g off e hp => by have := h2 g off e; omega), fun g off e => (by have := h2 g off e; omega), hA4.trans (K.below (B := w.heap.size) hA4.size (fun k hk e => by omega))⟩
  have ga1 : ∀ g off, oa1 = some ⟨g, off, none⟩ → w.heap.size + 1 < g := fun g off e => by have := hlo1 g off e; simp at this; omega
  have ga3 : ∀ g off, oa3 = some ⟨g, off, none⟩ → w.heap.size + 1 < g := fun g off e => by have := hlo3 g off e; omega
  have hsel : Hid (d.newestOf = a) ∧ b.ok = false ∨ Hid (d.newestOf = b) ∧ b.ok = true ∧ a.ok = false ∨ Hid (d.newestOf = b) ∧ b.ok = true ∧ a.ok = true ∧ a.gen < b.gen ∨ Hid (d.newestOf = a) ∧ b.ok = true ∧ a.ok = true ∧ ¬ (a.gen < b.gen) := by
    cases hbo : b.ok with
    | false => exact Or.inl ⟨hn.out.trans (if_neg (fun e => by rw [hbo] at e; cases e.1)), rfl⟩
    | true =>
      cases hao : a.ok with
      | false => exact Or.inr (Or.inl ⟨hn.out.trans (if_pos ⟨hbo, Or.inl hao⟩), rfl, rfl⟩)
      | true =>
        by_cases hg : a.gen < b.gen
        · exact Or.inr (Or.inr (Or.inl ⟨hn.out.trans (if_pos ⟨hbo, Or.inr hg⟩), rfl, rfl, hg⟩))
        · exact Or.inr (Or.inr (Or.inr ⟨hn.out.trans (if_neg (fun e => by rcases e.2 with e | e; · rw [hao] at e; cases e
                                                                          · exact hg e)), rfl, rfl, hg⟩))
  clear hn
  rcases hsel with ⟨hs, hbo⟩ | ⟨hs, hbo, hao⟩ | ⟨hs, hbo, hao, hg⟩ | ⟨hs, hbo, hao, hg⟩
  · rw [hbo] at q0
    go_upto_region 99 with fail
    obtain ⟨r0, r1, r2, r3, K⟩ := retV4 hR4 (.bool a.ok) (.int .i64 a.gen) (.int .i64 a.slot) (.slice oa1 a.bytes.length c1)
    exact bodyPost_ret (v := .agg #[.bool a.ok, .int .i64 a.gen, .int .i64 a.slot, .slice oa1 a.bytes.length c1]) (by simp [results, Tryz.results62, go_sem, r0, r1, r2, r3]) rfl ⟨oa1, c1, by rw [hs.out], (by show _ ≤ c1; rw [hs.out]; exact hcp1.out), by rw [hs.out]; exact (hfin a oa1 c1 _ hat4 ga1 _ K).1, (hfin a oa1 c1 _ hat4 ga1 _ K).2⟩
  · rw [hbo] at q0; rw [hao] at p0
    go_upto_region 99 with fail
    obtain ⟨r0, r1, r2, r3, K⟩ := retV4 hR4 (.bool true) (.int .i64 b.gen) (.int .i64 b.slot) (.slice oa3 b.bytes.length c3)
    exact bodyPost_ret (v := .agg #[.bool true, .int .i64 b.gen, .int .i64 b.slot, .slice oa3 b.bytes.length c3]) (by simp [results, Tryz.results62, go_sem, r0, r1, r2, r3]) rfl ⟨oa3, c3, by rw [hs.out]; simp only [KK.val, hbo], (by show _ ≤ c3; rw [hs.out]; exact hcp3.out), by rw [hs.out]; exact (hfin b oa3 c3 _ hbt4 ga3 _ K).1, (hfin b oa3 c3 _ hbt4 ga3 _ K).2⟩
  · rw [hbo] at q0; rw [hao] at p0
    go_upto_region 99 with fail
    obtain ⟨r0, r1, r2, r3, K⟩ := retV4 hR4 (.bool true) (.int .i64 b.gen) (.int .i64 b.slot) (.slice oa3 b.bytes.length c3)
    exact bodyPost_ret (v := .agg #[.bool true, .int .i64 b.gen, .int .i64 b.slot, .slice oa3 b.bytes.length c3]) (by simp [results, Tryz.results62, go_sem, r0, r1, r2, r3]) rfl ⟨oa3, c3, by rw [hs.out]; simp only [KK.val, hbo], (by show _ ≤ c3; rw [hs.out]; exact hcp3.out), by rw [hs.out]; exact (hfin b oa3 c3 _ hbt4 ga3 _ K).1, (hfin b oa3 c3 _ hbt4 ga3 _ K).2⟩
  · rw [hbo] at q0; rw [hao] at p0
    go_upto_region 99 with fail
    obtain ⟨r0, r1, r2, r3, K⟩ := retV4 hR4 (.bool true) (.int .i64 a.gen) (.int .i64 a.slot) (.slice oa1 a.bytes.length c1)
    exact bodyPost_ret (v := .agg #[.bool true, .int .i64 a.gen, .int .i64 a.slot, .slice oa1 a.bytes.length c1]) (by simp [results, Tryz.results62, go_sem, r0, r1, r2, r3]) rfl ⟨oa1, c1, by rw [hs.out]; simp only [KK.val, hao], (by show _ ≤ c1; rw [hs.out]; exact hcp1.out), by rw [hs.out]; exact (hfin a oa1 c1 _ hat4 ga1 _ K).1, (hfin a oa1 c1 _ hat4 ga1 _ K).2⟩

end Go.Proofs.YtmdpmdmilgbfiaaGreatDoor

/-
  SHEAD2: the specification's HeadOf. Own work.
-/
namespace Go.Proofs.YtmdpmdmilgbfiaaGreatDoor
open Go.RowKit

def DD.headOf (d : DD) (b : Int) : HH := if d.ok = true ∧ 0 ≤ b ∧ b < 2 then Go.Proofs.YtmdpmdmilgbfiaaGreatDoor.headOf (d.rd b.toNat) else noH

end Go.Proofs.YtmdpmdmilgbfiaaGreatDoor

/-
  DREAD: the drive reads. Own work.
-/
namespace Go.Proofs.YtmdpmdmilgbfiaaGreatDoor
open Go.RowKit

theorem results_cell_mid {P : Program} {fn : Func} {p : Tmp} {ty : TypeId} (h : fn.results = #[.cell p ty]) (tmps : Array Value) (w : World) (g o : Nat) (cs : List Value) (d : TypeDesc)
    (hp : tmps.getD p undef = .pointer (some ⟨g, o, none⟩)) (hc : w.rangeAt g o cs) (hu : P.underlying ty = some d) (hd : d.isRow = true) (hi : (P.info? ty).map (·.size) = some cs.length) :
    (results fn tmps).run P w = .ok (.agg cs.toArray) w := by
  have hp' : tmps[p]?.getD undef = .pointer (some ⟨g, o, none⟩) := by simpa [Array.getD_eq_getD_getElem?] using hp
  simp [results, h, hp', asAddr, run_loadVar_mid w g o ty cs d hc hu hd hi]

/-- while it looks for the last write -/
structure RdS (w wr : World) (A B : Nat) (cur : List Nat) : Prop where
  bel : Below w.heap.size w wr
  ta : wr.there A 0 64
  rb : wr.rangeAt B 0 (bcells cur)
  tb : wr.there B 0 64
  len : cur.length = 64
theorem RdS.grow {w wr w' : World} {A B : Nat} {cur : List Nat} (h : RdS w wr A B cur) (hb : Below wr.heap.size wr w') (hA : A < wr.heap.size) (hB : B < wr.heap.size) : RdS w w' A B cur :=
  ⟨gca h.bel hb, there_same h.ta (hb.block A hA), range_same h.rb (hb.block B hB), there_same h.tb (hb.block B hB), h.len⟩
theorem there_lt {w : World} {b o n : Nat} (h : w.there b o n) (hn : 0 < n) : b < w.heap.size := by
  obtain ⟨v, hv⟩ := Option.isSome_iff_exists.1 (h 0 hn).1
  exact World.block_lt_of_cell? w ⟨b, o + 0, none⟩ hv

set_option maxHeartbeats 4000000 in
set_option maxRecDepth 100000 in
theorem read_any (p : Nat) (bl : List (List Nat)) (pa : Option Addr) (pc : Nat) (ws : List DW) (kv : Value) (b : Int) (w : World) (hb0 : 0 ≤ b) (hb1 : b < 130) (hw : ws.length ≤ 201) (h : Dr w p bl pa pc ws kv) :
    Calls Tryz.prog 170 #[.pointer (some ⟨p, 0, none⟩), .int .i64 b] w fun e w' => e = .returned (.agg (bcells (readN bl ws b ws.length)).toArray) ∧ Below w.heap.size w w' := by
  obtain ⟨m, rfl⟩ : ∃ m : Nat, b = (m : Int) := ⟨b.toNat, by omega⟩
  have hm : m < 130 := by omega
  have hz64 := (zero_of_info zero_content).1
  have hz65 := (zero_of_info zero_pending).1
  have hlen := h.d.len
  have h64 := h.d.all64
  obtain ⟨c0, hc0⟩ := hid_ex bl[m]!
  have hl0 : c0.length = 64 := by rw [hc0.out]; exact h64 _ (mem_at (by omega))
  have hcl : (bcells c0).length = 64 := by rw [bcells_length, hl0]
  have hr1 : (w.alloc (.cells (zeros 64).toArray 106)).rangeAt p (m * 64) (bcells c0) := by rw [hc0.out]; exact World.rangeAt_alloc (h.d.rng m hm) _
  go_enter Tryz.func170, Tryz.ntmps170
  go_upto_region 2 with (first
    | (refine wpList_load_mid rfl 106 _ rfl p (m * 64) rfl (bcells c0) _ hr1 Tryz.underlying106 rfl (by rw [size_content, hcl]) ?_)
    | (refine wpList_alloc_big rfl 106 rfl _ hz64 ?_)
    | (refine wpList_store_new rfl 106 _ _ rfl _ (bcells c0).toArray rfl rfl (by rw [size_content]; simp [hcl]) (by simp [zeros, hcl]) (all_oneCell_toArray cells_u8) ?_))
  have e0 : (w.alloc (.cells (zeros 64).toArray 106)).heap.size = w.heap.size + 1 := by simp
  try rw [e0]
  have hS0 : RdS w ((w.alloc (.cells (zeros 64).toArray 106)).alloc (.cells (bcells c0).toArray 106)) w.heap.size (w.heap.size + 1) c0 := by
    have e1 : (w.alloc (.cells (zeros 64).toArray 106)).heap.size = w.heap.size + 1 := by simp
    have r := range_new (w.alloc (.cells (zeros 64).toArray 106)) (bcells c0) 106
    have t := there_new (w.alloc (.cells (zeros 64).toArray 106)) (bcells c0) 106
    have t0 := there_new w (zeros 64) 106
    rw [e1] at r t
    rw [hcl] at t
    rw [show (zeros 64).length = 64 from List.length_replicate] at t0
    exact ⟨gal (gal (gre _) _) _, World.there_alloc t0 _, r, t, hl0⟩
  generalize (w.alloc (.cells (zeros 64).toArray 106)).alloc (.cells (bcells c0).toArray 106) = wA at hS0 ⊢
  obtain ⟨A, hA⟩ := hid_ex w.heap.size
  obtain ⟨B, hB⟩ := hid_ex (w.heap.size + 1)
  rw [← hB.out] at hS0 ⊢
  rw [← hA.out] at hS0 ⊢
  have hAB : A < B := by rw [hA.out, hB.out]; omega
  have hDr := h.grow hS0.bel
  have x0 := hDr.d.ws
  clear hr1 hcl hDr
  go_wp2
  go_loopw [19] (fun i wr => ∃ (k : Nat) (cur : List Nat), k ≤ ws.length ∧ i = .int .i64 k ∧ Hid (cur = readN bl ws (m : Int) k) ∧ RdS w wr A B cur) (fun i _ => ws.length - (intOf i).toNat)
  case atStart => exact ⟨0, c0, Nat.zero_le _, rfl, by show _ = _; rw [hc0.out]; rfl, hS0⟩
  case round =>
    obtain ⟨k, cur, hk, rfl, hcur, hS⟩ := hrel
    have hAl := there_lt hS.ta (by decide)
    have hBl := there_lt hS.tb (by decide)
    by_cases hlt : k < ws.length
    · have hDrk := h.grow hS.bel
      obtain ⟨g, rfl, _, hgl, hrg⟩ := owns_pend hDrk.own hDrk.w64 hlt
      obtain ⟨n, hn⟩ := hid_ex ws[k]!
      rw [← hn.out] at hrg
      have hn64 : Hid (n.bytes.length = 64) := by show _ = _; rw [hn.out]; exact h.w64 _ (mem_at hlt)
      have hpl : n.pc.length = 65 := pc_length hn64.out
      have hbl64 : (bcells n.bytes).length = 64 := by rw [bcells_length]; exact hn64.out
      have i0 : (0 : Int) ≤ (k : Int) := by omega
      have i1 : (k : Int) < (ws.length : Int) := by omega
      clear hDrk
      go_upto_region 5 with (first
        | (refine wpList_load_mid rfl 160 _ rfl g (k * 65) rfl n.pc _ hrg Tryz.underlying160 rfl (by rw [size_pending, hpl]) ?_)
        | (refine wpList_alloc_big rfl 160 rfl _ hz65 ?_)
        | (refine wpList_store_new rfl 160 _ _ rfl _ n.pc.toArray rfl rfl (by rw [size_pending]; simp [hpl]) (by simp [zeros, hpl]) (all_oneCell_toArray pc_one) ?_))
      have hSA := hS.grow (gal (gre wr) (.cells n.pc.toArray 160)) hAl hBl
      have hrn := range_new wr n.pc 160
      have hby : (wr.alloc (.cells n.pc.toArray 160)).rangeAt wr.heap.size 1 (bcells n.bytes) := range_drop (cs := [.int .i64 n.block]) hrn
      have hq0 : (wr.alloc (.cells n.pc.toArray 160)).cell? ⟨wr.heap.size, 0, none⟩ = some (.int .i64 n.block) := hrn 0 _ rfl
      generalize wr.alloc (.cells n.pc.toArray 160) = wC at hSA hby hq0 ⊢
      clear hrn hS
      generalize wr.heap.size = Q at hby hq0 hAl hBl ⊢
      by_cases heq : n.block = (m : Int)
      · have t1 : (n.block == (m : Int)) = true := by simp [heq]
        have hst : Hid (n.bytes = readN bl ws (m : Int) (k + 1)) := by show _ = _; simp only [readN]; rw [← hn.out, if_pos heq]
        clear heq
        go_wp2_with (first
          | (refine wpList_load_mid rfl 106 _ rfl Q 1 rfl (bcells n.bytes) _ hby Tryz.underlying106 rfl (by rw [size_content, hbl64]) ?_)
          | (refine wpList_store_mid rfl 106 _ _ rfl B 0 (bcells n.bytes).toArray rfl rfl (by rw [List.size_toArray, hbl64]; exact hSA.tb) (by rw [size_content, List.size_toArray, hbl64]) (all_oneCell_toArray cells_u8) ?_))
        go_roundw
        case rel =>
          refine ⟨k + 1, n.bytes, by omega, by go_num, hst, ?_⟩
          exact ⟨(Kept.setCells (p := fun z => z = B) _ _ (Kept.refl _ wC) (fun _ => rfl)).below (by have := hSA.bel.size; omega) (fun z hz e => by have := hB.out; omega) |> hSA.bel.trans, World.there_setCells hSA.ta _ _ _, World.rangeAt_setCells_same _ _ _ _ (by rw [hbl64]; exact hSA.tb), World.there_setCells hSA.tb _ _ _, hn64.out⟩
        case measure => simp [intOf]; omega
      · have t1 : (n.block == (m : Int)) = false := by simpa using heq
        have hst : Hid (cur = readN bl ws (m : Int) (k + 1)) := by show _ = _; simp only [readN]; rw [← hn.out, if_neg heq, hcur.out]
        clear heq
        go_wp2
        go_roundw
        case rel => exact ⟨k + 1, cur, by omega, by go_num, hst, hSA⟩
        case measure => simp [intOf]; omega
    · obtain rfl : k = ws.length := by omega
      have hcl : (bcells cur).length = 64 := by rw [bcells_length, hS.len]
      go_wp2_with (first
        | (refine wpList_load_mid rfl 106 _ rfl B 0 rfl (bcells cur) _ hS.rb Tryz.underlying106 rfl (by rw [size_content, hcl]) ?_)
        | (refine wpList_store_mid rfl 106 _ _ rfl A 0 (bcells cur).toArray rfl rfl (by rw [List.size_toArray, hcl]; exact hS.ta) (by rw [size_content, List.size_toArray, hcl]) (all_oneCell_toArray cells_u8) ?_))
      refine bodyPost_ret (results_cell_mid Tryz.results170 _ _ A 0 (bcells cur) _ rfl (World.rangeAt_setCells_same _ _ _ _ (by rw [hcl]; exact hS.ta)) Tryz.underlying106 rfl (by rw [size_content, hcl])) rfl ⟨by rw [hcur.out], ?_⟩
      exact hS.bel.trans ((Kept.setCells (p := fun z => z = A) _ _ (Kept.refl _ wr) (fun _ => rfl)).below hS.bel.size (fun z hz e => by have := hA.out; omega))

end Go.Proofs.YtmdpmdmilgbfiaaGreatDoor

/-
  IREAD: the program's Read. Own work.
-/
namespace Go.Proofs.YtmdpmdmilgbfiaaGreatDoor
open Go.RowKit

/-- bytes that open a row of any type -/
def TRow (w : World) (t a n : Nat) (xs : List Nat) : Prop := ∃ f, w.rowIs a t n f ∧ xs.length ≤ n ∧ ∀ i, i < xs.length → f i = .int .u8 ((xs[i]! : Nat) : Int)
theorem TRow.at_ {w : World} {t a n : Nat} {xs : List Nat} (h : TRow w t a n xs) : BytesAt w (some ⟨a, 0, none⟩) xs := fun i hi => by
  obtain ⟨f, hr, hl, hf⟩ := h
  exact ⟨a, 0, rfl, by rw [Nat.zero_add, ← hf i hi]; exact hr.cell (by omega)⟩
theorem TRow.lt {w : World} {t a n : Nat} {xs : List Nat} (h : TRow w t a n xs) : a < w.heap.size := by obtain ⟨f, hr, _⟩ := h; exact hr.lt
theorem TRow.kept {p : Nat → Prop} {w w' : World} {t a n : Nat} {xs : List Nat} (h : TRow w t a n xs) (k : Kept p w w') (hn : ¬ p a) : TRow w' t a n xs := by
  obtain ⟨f, hr, r⟩ := h
  exact ⟨f, k.rowIs hr hn, r⟩
/-- bytes that are handed back, in memory of their own -/
def MT (w : World) (lo hi : Nat) (oa : Option Addr) (ys : List Nat) : Prop := ys = [] ∨ ∃ q, oa = some ⟨q, 0, none⟩ ∧ lo ≤ q ∧ q < hi ∧ TRow w 106 q 64 ys
theorem MT.at_ {w : World} {lo hi : Nat} {oa : Option Addr} {ys : List Nat} (h : MT w lo hi oa ys) : BytesAt w oa ys := by
  rcases h with rfl | ⟨q, rfl, _, _, h⟩
  · exact fun i hi => absurd hi (Nat.not_lt_zero _)
  · exact h.at_
theorem MT.kept {p : Nat → Prop} {w w' : World} {lo hi : Nat} {oa : Option Addr} {ys : List Nat} (h : MT w lo hi oa ys) (k : Kept p w w') (hn : ∀ b, lo ≤ b → b < hi → ¬ p b) : MT w' lo hi oa ys := by
  rcases h with h | ⟨q, h1, h2, h3, h4⟩
  · exact Or.inl h
  · exact Or.inr ⟨q, h1, h2, h3, h4.kept k (hn q h2 h3)⟩
theorem MT.grow {w w' : World} {lo hi : Nat} {oa : Option Addr} {ys : List Nat} (h : MT w lo hi oa ys) (hb : Below w.heap.size w w') : MT w' lo hi oa ys := h.kept (Kept.of_below hb (fun _ => False)) (fun _ _ _ e => e)
def TPost (ys : List Nat) (w : World) (e : Ending) (w' : World) : Prop := ∃ oa c, e = .returned (.slice oa ys.length c) ∧ MT w' w.heap.size w'.heap.size oa ys ∧ Below w.heap.size w w'

theorem row_new (w : World) (ys : List Nat) (t : TypeId) : TRow (w.alloc (.cells (bcells ys).toArray t)) t w.heap.size ys.length ys := by
  refine ⟨fun i => .int .u8 ((ys[i]! : Nat) : Int), ⟨_, heap_alloc_last w _, by simp [bcells], fun i hi => ?_⟩, Nat.le_refl _, fun i hi => rfl⟩
  rw [List.getElem?_toArray, bcells_get hi]

end Go.Proofs.YtmdpmdmilgbfiaaGreatDoor

/-
  BEQUAL: the library's comparing of bytes. Own work.
-/
namespace Go.Proofs.YtmdpmdmilgbfiaaGreatDoor
open Go.RowKit

theorem bs_strB {xs : List Nat} (h : ∀ x, x ∈ xs → x < 256) : bsOf (strB xs) = xs := by
  unfold bsOf strB strOfNums
  show ((xs.map _).map _).map _ = xs
  rw [List.map_map, List.map_map]
  conv => rhs; rw [← List.map_id xs]
  apply List.map_congr_left
  intro x hx
  show (UInt8.ofNat ((x : Int)).toNat).toNat = x
  have := h x hx
  simp []
  omega
theorem strB_eq {xs ys : List Nat} (hx : ∀ x, x ∈ xs → x < 256) (hy : ∀ x, x ∈ ys → x < 256) : ((strB xs).toList == (strB ys).toList) = decide (xs = ys) := by
  by_cases h : xs = ys
  · subst h; simp
  · rw [decide_eq_false h, beq_eq_false_iff_ne]
    intro e
    apply h
    have e2 : strB xs = strB ys := by
      apply ByteArray.ext
      apply Array.ext'
      rw [← ByteArray.toList_eq, ← ByteArray.toList_eq]; exact e
    rw [← bs_strB hx, e2, bs_strB hy]

set_option maxRecDepth 100000 in
theorem bytesEqual_any (a a' : Option Addr) (xs ys : List Nat) (c c' : Nat) (w : World) (hx : ∀ x, x ∈ xs → x < 256) (hy : ∀ x, x ∈ ys → x < 256) (ha : BytesAt w a xs) (ha' : BytesAt w a' ys) :
    Calls Tryz.prog 107 #[.slice a xs.length c, .slice a' ys.length c'] w fun e w' => e = .returned (.bool (decide (xs = ys))) ∧ Below w.heap.size w w' := by
  have h1 := conv_text (n := xs.length) (c := c) ha rfl
  have h2 := conv_text (n := ys.length) (c := c') ha' rfl
  have h3 := strB_eq hx hy
  go_enter Tryz.func107, Tryz.ntmps107
  go_wp2
  go_ret
  exact ⟨by first | rfl | rw [← h3]; rfl, gre _⟩

end Go.Proofs.YtmdpmdmilgbfiaaGreatDoor

/-
  IHEAD2: the program's HeadOf. Own work.
-/
namespace Go.Proofs.YtmdpmdmilgbfiaaGreatDoor
open Go.RowKit

theorem run_slice_tail (u : World) (b : Nat) : (Instr.sliceAt 106 (.pointer (some ⟨b, 0, none⟩)) (some (.int .i64 4)) none none).run Tryz.prog u = .ok (.slice (some ⟨b, 4, none⟩) 60 60) u := by
  simp [Instr.sliceAt, run_underlying Tryz.underlying106, Instr.sureAddr, Instr.sliceBounds, go_sem, Addr.add]
set_option maxRecDepth 100000 in
theorem method_drive (p : Nat) (w : World) : (method 364 102 (.pointer (some ⟨p, 0, none⟩)) "loop.example/chest/impl.read").run Tryz.prog w = .ok (170, .pointer (some ⟨p, 0, none⟩)) w := by kernel_rfl

theorem rdLow_some : ∀ (k i : Nat) (n : Int) (r : List Nat), k ≤ r.length → ∃ x, rdLow k i n r = some (x, r.drop k)
  | 0, _, n, r, _ => ⟨n, rfl⟩
  | k + 1, i, n, x :: r, h => by
    obtain ⟨y, hy⟩ := rdLow_some k (i + 1) (orI n x i) r (by simpa using h)
    exact ⟨y, hy⟩

/-- what heads' bytes read as to the program -/
structure IRd (bs : List Nat) (g l s : Int) (r1 r2 r3 : List Nat) : Prop where
  e1 : rdLow 8 0 0 (bs.drop 4) = some (g, r1)
  e2 : rdLow 8 0 0 r1 = some (l, r2)
  e3 : rdLow 8 0 0 r2 = some (s, r3)
theorem ird {bs : List Nat} (h : bs.length = 64) : ∃ g l s r1 r2 r3, IRd bs g l s r1 r2 r3 := by
  obtain ⟨g, hg⟩ := rdLow_some 8 0 0 (bs.drop 4) (by rw [List.length_drop]; omega)
  obtain ⟨l, hl⟩ := rdLow_some 8 0 0 ((bs.drop 4).drop 8) (by rw [List.length_drop, List.length_drop]; omega)
  obtain ⟨s, hs⟩ := rdLow_some 8 0 0 (((bs.drop 4).drop 8).drop 8) (by rw [List.length_drop, List.length_drop, List.length_drop]; omega)
  exact ⟨g, l, s, _, _, _, hg, hl, hs⟩
theorem ird_is {bs : List Nat} {g l s : Int} {r1 r2 r3 : List Nat} (h : IRd bs g l s r1 r2 r3) {x : HH} (hx : x.Is bs) : g = x.gen ∧ l = x.len ∧ s = x.sum := by
  have hr := rng_i64 hx.rng
  obtain ⟨h1, h2, h3⟩ := h
  rw [hx.eq, headB_drop, rdLow_word (by unfold I64; omega)] at h1
  injection h1 with h1
  injection h1 with e1 e1'
  rw [← e1', rdLow_word (by unfold I64; omega)] at h2
  injection h2 with h2
  injection h2 with e2 e2'
  rw [← e2', rdLow_word hx.sum] at h3
  injection h3 with h3
  injection h3 with e3 e3'
  exact ⟨e1.symm, e2.symm, e3.symm⟩
theorem ird_sum {bs : List Nat} {g l s : Int} {r1 r2 r3 : List Nat} (h : IRd bs g l s r1 r2 r3) (hk : headOkB true g l = true) (he : headB g l s = bs) : I64 s := by
  have hr := rng_i64 hk
  obtain ⟨h1, h2, h3⟩ := h
  rw [← he, headB_drop, rdLow_word (by unfold I64; omega)] at h1
  injection h1 with h1
  injection h1 with e1 e1'
  rw [← e1', rdLow_word (by unfold I64; omega)] at h2
  injection h2 with h2
  injection h2 with e2 e2'
  have h4 := rdLow_back 8 0 0 (u64n s) (lowB 8 (sumN (headN g l s)) ++ List.replicate 28 0) (by omega) (by simp)
  rw [show IntKind.i64.wrap ((0 : Nat) : Int) = 0 by rw [IntKind.wrap_i64]; omega, e2', h3] at h4
  injection h4 with h4
  injection h4 with e3 e3'
  rw [e3, IntKind.wrap_i64]
  unfold I64
  omega

theorem readWord_known (b : Nat) (sa : Option Addr) (cap : Nat) (bs r : List Nat) (x : Int) (r' : List Nat) (w : World) (hR : Rd w b sa cap bs r) (hx : Hid (rdLow 8 0 0 r = some (x, r'))) :
    Calls Tryz.prog 106 #[.pointer (some ⟨b, 0, none⟩)] w fun e w' => e = .returned (.int .i64 x) ∧ Rd w' b sa cap bs r' ∧ Kept (fun k => k = b) w w' :=
  (readWord_any b sa cap bs r w hR).mono fun e w' ⟨hK, h⟩ => by
    rcases h with ⟨y, q, hf, he, hR'⟩ | ⟨hf, _⟩
    · have e1 := hx.out.symm.trans hf.out
      injection e1 with e1
      injection e1 with e2 e3
      subst e2
      subst e3
      exact ⟨he, hR', hK⟩
    · have e1 := hx.out.symm.trans hf.out
      cases e1

theorem Rd.new {w : World} {q : Nat} {bs : List Nat} (hb : ∀ x, x ∈ bs → x < 256) (hl : bs.length = 64) (ht : TRow w 106 q 64 bs) : Rd (w.alloc (.cells #[.slice (some ⟨q, 4, none⟩) 60 60, .int .i64 0] 175)) w.heap.size (some ⟨q, 4, none⟩) 60 (bs.drop 4) (bs.drop 4) := by
  have hd : (bs.drop 4).length = 60 := by rw [List.length_drop, hl]
  have hA := gal (gre w) (.cells #[.slice (some ⟨q, 4, none⟩) 60 60, .int .i64 0] 175)
  refine ⟨⟨0, ⟨by simp, by rw [hd]; simp, by simp, fun o => by simp⟩, Nat.zero_le _, rfl⟩, ?_, by omega, by omega, fun x hx => hb x (List.mem_of_mem_drop hx)⟩
  refine BytesLow.below (B := w.heap.size) (w := w) (fun i hi => ?_) hA
  obtain ⟨b, off, e, hc⟩ := ht.at_ (4 + i) (by omega)
  refine ⟨q, 4, rfl, ht.lt, ?_⟩
  injection e with e
  injection e with e3 e4
  subst e3
  subst e4
  rw [getElem!_pos (bs.drop 4) i hi, List.getElem_drop]
  rw [getElem!_pos bs (4 + i) (by omega), Nat.zero_add] at hc
  exact hc

theorem headBB_byte (ok : Bool) (gen len sum : Int) : ∀ x, x ∈ headBB ok gen len sum → x < 256 := by
  unfold headBB
  split
  · intro x hx
    unfold headB at hx
    rcases List.mem_append.1 hx with hx | hx
    · rcases List.mem_append.1 hx with hx | hx
      · exact headN_byte gen len sum x hx
      · exact lowB_byte _ _ _ hx
    · rw [List.eq_of_mem_replicate hx]; decide
  · intro x hx
    cases hx
theorem calls_argsH {P : Program} {f : Nat} {a b : Array Value} {w : World} {Q : Ending → World → Prop} (h : Calls P f a w Q) (e : a = b) : Calls P f b w Q := by subst e; exact h

/-- a slot of a drive -/
structure SV (w : World) (b p m : Nat) : Prop where
  lt : b < w.heap.size
  c0 : w.cell? ⟨b, 0, none⟩ = some (.pointer (some ⟨p, 0, none⟩))
  c1 : w.cell? ⟨b, 1, none⟩ = some (.int .i64 (m : Int))
theorem SV.kept {q : Nat → Prop} {w w' : World} {b p m : Nat} (h : SV w b p m) (k : Kept q w w') (hn : ¬ q b) : SV w' b p m :=
  ⟨Nat.lt_of_lt_of_le h.lt k.size, k.cell h.c0 hn, k.cell h.c1 hn⟩
theorem SV.grow {w w' : World} {b p m : Nat} (h : SV w b p m) (k : Below w.heap.size w w') : SV w' b p m := h.kept (Kept.of_below k (fun _ => False)) (fun e => e)
theorem SV.new (w : World) (p m : Nat) (t : TypeId) : SV (w.alloc (.cells #[.pointer (some ⟨p, 0, none⟩), .int .i64 (m : Int)] t)) w.heap.size p m := ⟨by simp, by simp, by simp⟩

set_option maxHeartbeats 2000000 in
set_option maxRecDepth 100000 in
theorem head_any (p m : Nat) (bl : List (List Nat)) (pa : Option Addr) (pc : Nat) (ws : List DW) (kv : Value) (bs : List Nat) (w : World) (hm : m < 130) (hw : ws.length ≤ 201) (hbs : Hid (readN bl ws (m : Int) ws.length = bs)) (hbl : Hid (bs.length = 64)) (hbb : ∀ x, x ∈ bs → x < 256) (hDr : Dr w p bl pa pc ws kv) :
    Calls Tryz.prog 65 #[.agg #[.pointer (some ⟨p, 0, none⟩), .int .i64 (m : Int)]] w fun e w' => e = .returned (headOf bs).val ∧ Below w.heap.size w w' := by
  have hz64 := (zero_of_info zero_content).1
  have hSl := run_slice_content
  have hSl4 := run_slice_tail
  have hMe := method_drive p
  obtain ⟨G, L, S, r1, r2, r3, hE⟩ := ird hbl.out
  have E1 : Hid _ := hE.e1
  have E2 : Hid _ := hE.e2
  have E3 : Hid _ := hE.e3
  have hyl : Hid ((bcells bs).length = 64) := by show _ = _; rw [bcells_length, hbl.out]
  have hA := gal (gal (gre w) (.cells #[.pointer (some ⟨p, 0, none⟩), .int .i64 (m : Int)] 121)) (.cells #[.bool false, .int .i64 0, .int .i64 0, .int .i64 0] 65)
  have hR0 := HV.new_at (w.alloc (.cells #[.pointer (some ⟨p, 0, none⟩), .int .i64 (m : Int)] 121)) noH 65 (w.heap.size + 1) (by simp)
  go_enter Tryz.func65, Tryz.ntmps65
  go_upto_region 2 with (first
    | (go_at_call 170; refine (read_any p bl pa pc ws kv (m : Int) _ (by omega) (by omega) hw (hDr.grow hA)).mono ?_; rw [hbs.out]; rintro e w1 ⟨rfl, hb1⟩)
    | (refine wpList_alloc_big rfl 106 rfl _ hz64 ?_)
    | (refine wpList_store_new rfl 106 _ _ rfl _ (bcells bs).toArray rfl rfl (by rw [size_content]; simp [hyl.out]) (by simp [zeros, hyl.out]) (all_oneCell_toArray cells_u8) ?_))
  have hrow := row_new w1 bs 106
  rw [hbl.out] at hrow
  have hb2 := gal hb1 (.cells (bcells bs).toArray 106)
  have hs2 : w1.heap.size + 1 = (w1.alloc (.cells (bcells bs).toArray 106)).heap.size := by simp
  have hRl := (hR0.grow hb1).box.lt
  generalize w1.alloc (.cells (bcells bs).toArray 106) = w2 at hrow hb2 hs2 ⊢
  generalize w1.heap.size = q at hrow hs2 hRl ⊢
  have hRd := Rd.new hbb hbl.out hrow
  have hb3 := gal hb2 (.cells #[.slice (some ⟨q, 4, none⟩) 60 60, .int .i64 0] 175)
  have hrow3 := hrow.kept (Kept.of_below (gal (gre w2) (.cells #[.slice (some ⟨q, 4, none⟩) 60 60, .int .i64 0] 175)) (fun _ => False)) (fun e => e)
  go_upto_region 3 with fail
  generalize w2.alloc (.cells #[.slice (some ⟨q, 4, none⟩) 60 60, .int .i64 0] 175) = w3 at hRd hb3 hrow3 ⊢
  rw [← hs2] at hRd ⊢
  clear hrow hb2 hs2
  have hR3 := hR0.grow hb3
  have hA3 := gca hA hb3
  go_upto_region 4 with (first
    | (go_at_call 106; refine (readWord_known _ _ _ _ r2 S r3 w5 hRd2 E3).mono ?_; rintro e w6 ⟨rfl, hRd3, hK3⟩)
    | (go_at_call 106; refine (readWord_known _ _ _ _ r1 L r2 w4 hRd1 E2).mono ?_; rintro e w5 ⟨rfl, hRd2, hK2⟩)
    | (go_at_call 106; refine (readWord_known _ _ _ _ _ G r1 w3 hRd E1).mono ?_; rintro e w4 ⟨rfl, hRd1, hK1⟩))
  have hK := (hK1.trans hK2 (fun _ _ h => h)).trans hK3 (fun _ _ h => h)
  have hR6 := hR3.kept hK (by omega)
  have hrow6 := hrow3.kept hK (by omega)
  have hA6 := hA3.trans (hK.below (B := w.heap.size) hA3.size (fun k hk e => by omega))
  have hb7 := gal (gre w6) (.cells #[.bool true, .int .i64 G, .int .i64 L, .int .i64 S] 65)
  have hHv := HV.new_at w6 ⟨true, G, L, S⟩ 65 w6.heap.size rfl
  have hR7 := hR6.grow hb7
  have hrow7 := hrow6.kept (Kept.of_below hb7 (fun _ => False)) (fun e => e)
  have hA7 := gca hA6 hb7
  have hHl := hRd3.lt
  generalize w6.alloc (.cells #[.bool true, .int .i64 G, .int .i64 L, .int .i64 S] 65) = w7 at hb7 hHv hR7 hrow7 hA7 ⊢
  generalize w6.heap.size = H at hb7 hHv ⊢
  clear hRd hRd1 hRd2 hRd3 hK1 hK2 hK3 hK hR3 hR6 hrow3 hrow6 hA3 hA6
  have hB : Below w7.heap.size w7 w7.drew := gdr (gre _)
  by_cases t : headBB true G L S = bs
  · have t' : Hid (decide (headBB true G L S = bs) = true) := decide_eq_true t
    have hk : headOkB true G L = true := by
      cases hk : headOkB true G L with
      | true => rfl
      | false =>
        rw [show headBB true G L S = [] from if_neg (by rw [hk]; simp)] at t
        have := hbl.out
        rw [← t] at this
        simp at this
    have hhe : headB G L S = bs := by rw [← t]; exact (if_pos hk).symm
    have hans : Hid (headOf bs = ⟨true, G, L, S⟩) := headOf_yes (x := ⟨true, G, L, S⟩) ⟨rfl, hk, ird_sum hE hk hhe, hhe.symm⟩
    clear t hk hhe hE
    refine wp_regionU (fun u => HBox u H true G L S) 99 (by kernel_rfl) (hHv.grow hB).box (fun _ => ?_)
    refine anyU_take (i := 0) (v := ?_) rfl (by kernel_rfl) (by kernel_rfl) (by kernel_rfl) (by kernel_rfl) (fun _ _ _ h => h) (Or.inl ⟨by rfl, ?_⟩) (hHv.grow hB).box ?_
    rotate_left
    · intro u hSu; obtain ⟨_, s0, s1, s2, s3⟩ := hSu; go_simp <;> with_reducible rfl
    simp only [Act.put, List.getElem_toArray, List.getElem_cons_zero, List.setIfInBounds_toArray, List.set_cons_zero, List.set_cons_succ]
    refine anyU_take (i := 2) (v := ?_) rfl (by kernel_rfl) (by kernel_rfl) (by kernel_rfl) (by kernel_rfl) (fun _ _ _ h => h) (Or.inl ⟨by rfl, ?_⟩) (hHv.grow hB).box ?_
    rotate_left
    · intro u hSu; go_simp <;> with_reducible rfl
    simp only [Act.put, List.getElem_toArray, List.getElem_cons_zero, List.getElem_cons_succ, List.setIfInBounds_toArray, List.set_cons_zero, List.set_cons_succ]
    refine anyU_one (i := 1) (by kernel_rfl) rfl (fun K hK => ?_)
    go_simp
    refine (implHeadBlock_any true G L S _).mono ?_
    rintro e w8 ⟨oa8, c8, rfl, hM8, hb8⟩
    have hB := gca hB hb8
    refine hK.out _ _ (hHv.grow hB).box ?_
    clear hK
    refine anyU_one (i := 3) (by kernel_rfl) rfl (fun K hK => ?_)
    go_simp
    refine (calls_argsH (bytesEqual_any oa8 (some ⟨q, 0, none⟩) (headBB true G L S) bs c8 64 w8 (headBB_byte true G L S) hbb hM8.atH (hrow7.at_.grow hB)) (by rw [hbl.out])).mono ?_
    rintro e w9 ⟨rfl, hb9⟩
    rw [t'.out]
    have hB := gca hB hb9
    refine hK.out _ _ (hHv.grow hB).box ?_
    clear hK
    refine anyU_one (i := 4) (by kernel_rfl) rfl (fun K hK => ?_)
    go_simp
    refine hK.out _ _ (hHv.grow hB).box ?_
    clear hK
    refine anyU_done (by kernel_rfl) ?_
    have hR9 := hR7.grow hB
    have hH9 := hHv.grow hB
    have hA9 := gca hA7 hB
    clear hB hb8 hb9 hM8
    obtain ⟨⟨_, z0, z1, z2, z3⟩, zf⟩ := id hR9
    obtain ⟨⟨_, y0, y1, y2, y3⟩, yf⟩ := id hH9
    go_upto_region 99 with fail
    obtain ⟨c0, c1, c2, c3, K⟩ := ret4 hR9 (.bool true) (.int .i64 G) (.int .i64 L) (.int .i64 S)
    exact bodyPost_ret (v := headV true G L S) (by simp [results, Tryz.results65, go_sem, c0, c1, c2, c3]) rfl ⟨by rw [hans.out], hA9.trans (K.below (B := w.heap.size) hA9.size (fun k hk e => by omega))⟩
  · have t' : Hid (decide (headBB true G L S = bs) = false) := decide_eq_false t
    have hans : Hid (headOf bs = noH) := headOf_no (bs := bs) (fun x hx => by
      obtain ⟨e1, e2, e3⟩ := ird_is hE hx
      refine t ?_
      rw [e1, e2, e3]
      exact (if_pos hx.rng).trans hx.eq.symm)
    clear t hE
    refine wp_regionU (fun u => HBox u H true G L S) 99 (by kernel_rfl) (hHv.grow hB).box (fun _ => ?_)
    refine anyU_take (i := 0) (v := ?_) rfl (by kernel_rfl) (by kernel_rfl) (by kernel_rfl) (by kernel_rfl) (fun _ _ _ h => h) (Or.inl ⟨by rfl, ?_⟩) (hHv.grow hB).box ?_
    rotate_left
    · intro u hSu; obtain ⟨_, s0, s1, s2, s3⟩ := hSu; go_simp <;> with_reducible rfl
    simp only [Act.put, List.getElem_toArray, List.getElem_cons_zero, List.setIfInBounds_toArray, List.set_cons_zero, List.set_cons_succ]
    refine anyU_take (i := 2) (v := ?_) rfl (by kernel_rfl) (by kernel_rfl) (by kernel_rfl) (by kernel_rfl) (fun _ _ _ h => h) (Or.inl ⟨by rfl, ?_⟩) (hHv.grow hB).box ?_
    rotate_left
    · intro u hSu; go_simp <;> with_reducible rfl
    simp only [Act.put, List.getElem_toArray, List.getElem_cons_zero, List.getElem_cons_succ, List.setIfInBounds_toArray, List.set_cons_zero, List.set_cons_succ]
    refine anyU_one (i := 1) (by kernel_rfl) rfl (fun K hK => ?_)
    go_simp
    refine (implHeadBlock_any true G L S _).mono ?_
    rintro e w8 ⟨oa8, c8, rfl, hM8, hb8⟩
    have hB := gca hB hb8
    refine hK.out _ _ (hHv.grow hB).box ?_
    clear hK
    refine anyU_one (i := 3) (by kernel_rfl) rfl (fun K hK => ?_)
    go_simp
    refine (calls_argsH (bytesEqual_any oa8 (some ⟨q, 0, none⟩) (headBB true G L S) bs c8 64 w8 (headBB_byte true G L S) hbb hM8.atH (hrow7.at_.grow hB)) (by rw [hbl.out])).mono ?_
    rintro e w9 ⟨rfl, hb9⟩
    rw [t'.out]
    have hB := gca hB hb9
    refine hK.out _ _ (hHv.grow hB).box ?_
    clear hK
    refine anyU_one (i := 4) (by kernel_rfl) rfl (fun K hK => ?_)
    go_simp
    refine hK.out _ _ (hHv.grow hB).box ?_
    clear hK
    refine anyU_done (by kernel_rfl) ?_
    have hR9 := hR7.grow hB
    have hH9 := hHv.grow hB
    have hA9 := gca hA7 hB
    clear hB hb8 hb9 hM8
    obtain ⟨⟨_, z0, z1, z2, z3⟩, zf⟩ := id hR9
    obtain ⟨⟨_, y0, y1, y2, y3⟩, yf⟩ := id hH9
    go_upto_region 99 with fail
    obtain ⟨c0, c1, c2, c3, K⟩ := ret4 hR9 (.bool false) (.int .i64 0) (.int .i64 0) (.int .i64 0)
    exact bodyPost_ret (v := noH.val) (by simp [results, Tryz.results65, go_sem, c0, c1, c2, c3]) rfl ⟨by rw [hans.out], hA9.trans (K.below (B := w.heap.size) hA9.size (fun k hk e => by omega))⟩

end Go.Proofs.YtmdpmdmilgbfiaaGreatDoor
