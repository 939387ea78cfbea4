import Derived.Test.YthjddpkegooobabPartRdC

/-
  SBLK: lists of bytes and writes that the specification appends to. Own work.
-/
namespace Go.Proofs.Ythjddpkegooobab
open Go.RowKit

/-- bytes, and where they lie -/
structure LB where
  l : List Nat
  a : Option Addr
  cap : Nat
  deriving Inhabited
def LB.v (y : LB) : Value := .slice y.a y.l.length y.cap

structure SB (base : Nat) (wr : World) (ba : Option Addr) (bc : Nat) (lb : List LB) : Prop where
  own : wr.ownsRow base 28 1 (.slice ba lb.length bc) lb.length (lb.map LB.v)
  byt : ∀ y, y ∈ lb → wr.ownsRow base 5 1 (.slice y.a y.l.length y.cap) y.l.length (bcells y.l)
theorem SB.kept {p : Nat → Prop} {base : Nat} {w w' : World} {ba : Option Addr} {bc : Nat} {lb : List LB} (h : SB base w ba bc lb) (K : Kept p w w') (hp : ∀ z, p z → base ≤ z → ¬ IsS w z ∧ ¬ IsB w z) : SB base w' ba bc lb :=
  ⟨K.owns h.own (fun z hz e => let r := owns_isS h.own hz; (hp z e r.2).1 r.1), fun y hy => K.owns (h.byt y hy) (fun z hz e => let r := owns_isB (h.byt y hy) hz; (hp z e r.2).2 r.1)⟩
theorem SB.grow {base : Nat} {w w' : World} {ba : Option Addr} {bc : Nat} {lb : List LB} (h : SB base w ba bc lb) (hb : Below w.heap.size w w') : SB base w' ba bc lb := h.kept (Kept.of_below hb (fun _ => False)) (fun _ e => e.elim)
theorem SB.nil (base : Nat) (w : World) : SB base w none 0 [] := ⟨owns_none _ _ _ _, fun y hy => by cases hy⟩
theorem SB.push {base : Nat} {w w5 : World} {ba : Option Addr} {bc : Nat} {lb : List LB} (h : SB base w ba bc lb) {y : LB} (hy : w.ownsRow base 5 1 (.slice y.a y.l.length y.cap) y.l.length (bcells y.l)) {gg cc : Nat}
    (hown : w5.ownsRow base 28 1 (.slice (some ⟨gg, 0, none⟩) (lb.length + 1) cc) (lb.length + 1) (lb.map LB.v ++ [y.v])) (hgrow : w.grownBy w5 (Value.slice ba lb.length bc).ownBlock) : SB base w5 (some ⟨gg, 0, none⟩) cc (lb ++ [y]) := by
  have K := Kept.of_grown hgrow
  refine ⟨by rw [List.map_append, List.length_append]; exact hown, fun x hx => ?_⟩
  have hb : ∀ {x : LB}, w.ownsRow base 5 1 (.slice x.a x.l.length x.cap) x.l.length (bcells x.l) → w5.ownsRow base 5 1 (.slice x.a x.l.length x.cap) x.l.length (bcells x.l) := fun hx => K.owns hx (fun z hz e => not_B_of_S (owns_isS h.own e).1 (owns_isB hx hz).1)
  rcases List.mem_append.1 hx with e | e
  · exact hb (h.byt x e)
  · obtain rfl : x = y := by simpa using e
    exact hb hy
theorem LB.get {lb : List LB} {i : Nat} (hi : i < lb.length) : (lb.map LB.v)[i]? = some (lb[i]!.v) := by rw [getElem!_pos lb i hi]; simp [hi]
theorem SB.at_ {base : Nat} {w : World} {ba : Option Addr} {bc : Nat} {lb : List LB} (h : SB base w ba bc lb) : BlksAt w ba (lb.map (·.l)) := fun i hi => by
  have hi' : i < lb.length := by simpa using hi
  obtain ⟨g, ha, _, _, hc⟩ := owns_cell h.own (LB.get hi')
  have e : (lb.map (·.l))[i]! = lb[i]!.l := by rw [getElem!_pos _ i hi, getElem!_pos lb i hi']; simp
  rw [e]
  exact ⟨g, 0, lb[i]!.a, lb[i]!.cap, ha, by rw [Nat.zero_add]; exact hc, owns_bytes (h.byt _ (mem_at hi'))⟩

structure SW (base : Nat) (wr : World) (wa : Option Addr) (wc : Nat) (lw : List LW) : Prop where
  own : wr.ownsRow base 133 2 (.slice wa lw.length wc) lw.length (wCells lw)
  byt : ∀ y, y ∈ lw → wr.ownsRow base 5 1 (.slice y.a y.x.bytes.length y.cap) y.x.bytes.length (bcells y.x.bytes)
theorem SW.kept {p : Nat → Prop} {base : Nat} {w w' : World} {wa : Option Addr} {wc : Nat} {lw : List LW} (h : SW base w wa wc lw) (K : Kept p w w') (hp : ∀ z, p z → base ≤ z → ¬ IsW w z ∧ ¬ IsB w z) : SW base w' wa wc lw :=
  ⟨K.owns h.own (fun z hz e => let r := owns_isW h.own hz; (hp z e r.2).1 r.1), fun y hy => K.owns (h.byt y hy) (fun z hz e => let r := owns_isB (h.byt y hy) hz; (hp z e r.2).2 r.1)⟩
theorem SW.grow {base : Nat} {w w' : World} {wa : Option Addr} {wc : Nat} {lw : List LW} (h : SW base w wa wc lw) (hb : Below w.heap.size w w') : SW base w' wa wc lw := h.kept (Kept.of_below hb (fun _ => False)) (fun _ e => e.elim)
theorem SW.nil (base : Nat) (w : World) : SW base w none 0 [] := ⟨owns_none _ _ _ _, fun y hy => by cases hy⟩
theorem SW.push {base : Nat} {w w5 : World} {wa : Option Addr} {wc : Nat} {lw : List LW} (h : SW base w wa wc lw) {y : LW} (hy : w.ownsRow base 5 1 (.slice y.a y.x.bytes.length y.cap) y.x.bytes.length (bcells y.x.bytes)) {gg cc : Nat}
    (hown : w5.ownsRow base 133 2 (.slice (some ⟨gg, 0, none⟩) (lw.length + 1) cc) (lw.length + 1) (wCells lw ++ [.int .i64 y.x.block, .slice y.a y.x.bytes.length y.cap])) (hgrow : w.grownBy w5 (Value.slice wa lw.length wc).ownBlock) : SW base w5 (some ⟨gg, 0, none⟩) cc (lw ++ [y]) := by
  have K := Kept.of_grown hgrow
  refine ⟨by rw [wCells_snoc, List.length_append]; exact hown, fun x hx => ?_⟩
  have hb : ∀ {x : LW}, w.ownsRow base 5 1 (.slice x.a x.x.bytes.length x.cap) x.x.bytes.length (bcells x.x.bytes) → w5.ownsRow base 5 1 (.slice x.a x.x.bytes.length x.cap) x.x.bytes.length (bcells x.x.bytes) := fun hx => K.owns hx (fun z hz e => not_B_of_W (owns_isW h.own e).1 (owns_isB hx hz).1)
  rcases List.mem_append.1 hx with e | e
  · exact hb (h.byt x e)
  · obtain rfl : x = y := by simpa using e
    exact hb hy
theorem SW.at_ {base : Nat} {w : World} {wa : Option Addr} {wc : Nat} {lw : List LW} (h : SW base w wa wc lw) : WrsAt w wa (lw.map (·.x)) := fun i hi => by
  have hi' : i < lw.length := by simpa using hi
  obtain ⟨g, ha, _, _, hc⟩ := owns_cell h.own ((wCells_get lw i 0 hi' (by omega)).trans rfl)
  obtain ⟨g1, ha1, _, _, hc1⟩ := owns_cell h.own ((wCells_get lw i 1 hi' (by omega)).trans rfl)
  rw [ha] at ha1
  obtain rfl := some_addr ha1
  have e : (lw.map (·.x))[i]! = lw[i]!.x := by rw [getElem!_pos _ i hi, getElem!_pos lw i hi']; simp
  rw [e]
  exact ⟨g, 0, lw[i]!.a, lw[i]!.cap, ha, by rw [Nat.zero_add]; exact hc, by rw [Nat.zero_add]; exact hc1, owns_bytes (h.byt _ (mem_at hi'))⟩

/-- a disk's own variable, written -/
structure VB (wr : World) (V : Nat) (s0 s1 : Value) : Prop where
  v0 : wr.cell? ⟨V, 0, none⟩ = some s0
  v1 : wr.cell? ⟨V, 1, none⟩ = some s1
  vf : ∀ o, wr.frozen? ⟨V, o, none⟩ = false
theorem VB.lt {w : World} {V : Nat} {s0 s1 : Value} (h : VB w V s0 s1) : V < w.heap.size := World.block_lt_of_cell? w ⟨V, 0, none⟩ h.v0
theorem VB.kept {p : Nat → Prop} {w w' : World} {V : Nat} {s0 s1 : Value} (h : VB w V s0 s1) (K : Kept p w w') (hn : ¬ p V) : VB w' V s0 s1 :=
  ⟨K.cell h.v0 hn, K.cell h.v1 hn, fun o => (World.frozen?_of_block (w := w) (a := ⟨V, o, none⟩) (K.block V h.lt hn)).trans (h.vf o)⟩
theorem VB.grow {w w' : World} {V : Nat} {s0 s1 : Value} (h : VB w V s0 s1) (hb : Below w.heap.size w w') : VB w' V s0 s1 := h.kept (Kept.of_below hb (fun _ => False)) (fun e => e)
theorem VB.set0 {w : World} {V : Nat} {s0 s1 : Value} (h : VB w V s0 s1) (s : Value) : VB (w.setCell ⟨V, 0, none⟩ s) V s s1 :=
  ⟨World.cell?_setCell_same _ _ _ h.v0, (World.cell?_setCell_other _ _ _ _ (by simp)).trans h.v1, fun o => by rw [World.frozen?_setCell]; exact h.vf o⟩
theorem VB.set1 {w : World} {V : Nat} {s0 s1 : Value} (h : VB w V s0 s1) (s : Value) : VB (w.setCell ⟨V, 1, none⟩ s) V s0 s :=
  ⟨(World.cell?_setCell_other _ _ _ _ (by simp)).trans h.v0, World.cell?_setCell_same _ _ _ h.v1, fun o => by rw [World.frozen?_setCell]; exact h.vf o⟩
theorem VB.new (w : World) (s0 s1 : Value) (t : TypeId) : VB (w.alloc (.cells #[s0, s1] t)) w.heap.size s0 s1 := ⟨by simp, by simp, fun o => by simp⟩
theorem VB.new_at (w : World) (s0 s1 : Value) (t : TypeId) (V : Nat) (hV : V = w.heap.size) : VB (w.alloc (.cells #[s0, s1] t)) V s0 s1 := by subst hV; exact VB.new w s0 s1 t
theorem Kept.one (w : World) (V o : Nat) (s : Value) : Kept (fun b => b = V) w (w.setCell ⟨V, o, none⟩ s) := (Kept.refl (fun b => b = V) w).set (a := ⟨V, o, none⟩) (fun _ => rfl) s
theorem SB.set {base : Nat} {w : World} {ba : Option Addr} {bc : Nat} {lb : List LB} (h : SB base w ba bc lb) {V : Nat} (hV : V < base) (o : Nat) (s : Value) : SB base (w.setCell ⟨V, o, none⟩ s) ba bc lb := h.kept (Kept.one w V o s) (fun z e hz => by omega)
theorem SW.set {base : Nat} {w : World} {wa : Option Addr} {wc : Nat} {lw : List LW} (h : SW base w wa wc lw) {V : Nat} (hV : V < base) (o : Nat) (s : Value) : SW base (w.setCell ⟨V, o, none⟩ s) wa wc lw := h.kept (Kept.one w V o s) (fun z e hz => by omega)

end Go.Proofs.Ythjddpkegooobab

/-
  DRVF: a drive's blocks become a disk's. Own work.
-/
namespace Go.Proofs.Ythjddpkegooobab
open Go.RowKit

set_option maxHeartbeats 4000000 in
set_option maxRecDepth 100000 in
theorem disk_any (p : Nat) (bl : List (List Nat)) (pa : Option Addr) (pc : Nat) (ws : List DW) (kv : Value) (w : World) (hw : ws.length ≤ 201) (h : Dr w p bl pa pc ws kv) :
    Calls Try.prog 90 #[.pointer (some ⟨p, 0, none⟩)] w fun e w' => ∃ l fa ga fc gc, e = .returned (DD.val ⟨bl, ws⟩ l) ∧ MD w' w.heap.size w'.heap.size l ⟨bl, ws⟩ fa ga fc gc ∧ Below w.heap.size w w' := by
  obtain ⟨j0, hj, hy0, hy1, hy2⟩ := info_parts info_bytes
  have hmk : ∀ u : World, (Instr.makeSlice 47 (.int .i64 130) (.int .i64 130)).run Try.prog u =
      .ok (.slice (some ⟨u.heap.size, 0, none⟩) 130 130) (u.alloc (.cells (madeCells #[.slice none 0 0] 130) 28)) := fun u => by
    have h := run_make (P := Try.prog) u 47 28 j0 _ Try.underlying47 hj hy0 .i64 .i64 (130 : Int) (130 : Int) (by omega) (Int.le_refl _) (by rw [hy2]; omega) (by omega)
    simpa [hy1, Value.cells] using h
  obtain ⟨M, hM⟩ := hid_ex (madeCells #[Value.slice none 0 0] 130)
  rw [← hM.out] at hmk
  have hlen := h.d.len
  have h64 := h.d.all64
  have hz64 := (zero_of_info zero_content).1
  have hSl := run_slice_content
  go_enter Try.func90, Try.ntmps90
  go_upto_region 2 with fail
  have hw1 := gal (gre w) (.cells #[.slice none 0 0, .slice none 0 0] 50)
  have hs1 : (w.alloc (.cells #[.slice none 0 0, .slice none 0 0] 50)).heap.size = w.heap.size + 1 := by simp
  have r0 : (w.alloc (.cells #[.slice none 0 0, .slice none 0 0] 50)).cell? ⟨w.heap.size, 0, none⟩ = some (.slice none 0 0) := by simp
  have r1 : (w.alloc (.cells #[.slice none 0 0, .slice none 0 0] 50)).cell? ⟨w.heap.size, 1, none⟩ = some (.slice none 0 0) := by simp
  have rf : ∀ o, (w.alloc (.cells #[.slice none 0 0, .slice none 0 0] 50)).frozen? ⟨w.heap.size, o, none⟩ = false := fun o => by simp
  generalize hR : w.heap.size = R at hs1 r0 r1 rf ⊢
  generalize w.alloc (.cells #[.slice none 0 0, .slice none 0 0] 50) = w1 at hw1 hs1 r0 r1 rf ⊢
  have hK0 : DkB w1 ((w1.alloc (.cells M 28)).alloc (.cells #[.slice (some ⟨R + 1, 0, none⟩) 130 130, .slice none 0 0] 50)) (R + 1) (R + 1 + 1) (.slice none 0 0) bl 0 (fun i => (#[Value.slice none 0 0] : Array Value)[i % (#[Value.slice none 0 0] : Array Value).size]!) (fun _ => 0) (fun _ => 0) := by
    have e2 : (w1.alloc (.cells M 28)).heap.size = R + 1 + 1 := by simp [hs1]
    refine ⟨?_, fun i hi => absurd hi (Nat.not_lt_zero _), ?_, ?_, fun o => ?_, gal (gal (gre _) _) _, by omega, by omega⟩
    · have := rowIs_made_any w1 #[Value.slice none 0 0] 130 28
      rw [← hM.out, hs1] at this
      exact this.of_block (Below.heap_alloc _ _ _ (by omega))
    · rw [← e2]; simp
    · rw [← e2]; simp
    · rw [← e2]; simp
  generalize (w1.alloc (.cells M 28)).alloc (.cells #[.slice (some ⟨R + 1, 0, none⟩) 130 130, .slice none 0 0] 50) = w3 at hK0 ⊢
  obtain ⟨N, hN⟩ := hid_ex (R + 1)
  obtain ⟨V, hV⟩ := hid_ex (R + 1 + 1)
  rw [← hV.out, ← hN.out] at hK0
  rw [← hV.out, ← hN.out]
  clear hmk hM hj hy0 hy1 hy2
  have hDr3 := (h.grow hw1).grow hK0.bel
  go_wp2_with (refine wpList_load_mid rfl 122 _ rfl p 0 rfl (blCells bl) _ hDr3.d.whole Try.underlying122 rfl (by rw [size_contents, blCells_length bl h64, hlen]) ?_)
  clear hDr3
  go_loopw [14] (fun i wr => ∃ (k : Nat) (f : Nat → Value) (bs cs : Nat → Nat), k ≤ 130 ∧ i = .int .i64 k ∧ DkB w1 wr N V (.slice none 0 0) bl k f bs cs) (fun i _ => 130 - (intOf i).toNat)
  case atStart => exact ⟨0, _, _, _, Nat.zero_le _, rfl, hK0⟩
  case round =>
    obtain ⟨k, f, bs, cs, hk, rfl, hD⟩ := hrel
    by_cases hlt : k < 130
    · obtain ⟨n, hn⟩ := hid_ex bl[k]!
      have hn64 : Hid (n.length = 64) := by show _ = _; rw [hn.out]; exact h64 _ (mem_at (by omega))
      have hcl : (bcells n).length = 64 := by rw [bcells_length]; exact hn64.out
      have i0 : (0 : Int) ≤ (k : Int) := by omega
      have i1 : (k : Int) < 130 := by omega
      go_upto_region 5 with (first
        | (refine wpList_index_contents rfl _ _ rfl bl k rfl rfl hlt hlen h64 ?_; rw [← hn.out])
        | (refine wpList_alloc_big rfl 121 rfl _ hz64 ?_)
        | (refine wpList_store_new rfl 121 _ _ rfl _ (bcells n).toArray rfl rfl (by rw [size_content]; simp [hcl]) (by simp [zeros, hcl]) (all_oneCell_toArray cells_u8) ?_))
      have hDA := hD.grow (gal (gre wr) (.cells (bcells n).toArray 121))
      have hby := bytes_range (range_new wr (bcells n) 121)
      have hsC : (wr.alloc (.cells (bcells n).toArray 121)).heap.size = wr.heap.size + 1 := by simp
      generalize wr.alloc (.cells (bcells n).toArray 121) = wC at hDA hby hsC ⊢
      generalize hQ : wr.heap.size = Q at hby hsC ⊢
      refine wp_regionU (fun u => u.cell? ⟨V, 0, none⟩ = some (.slice (some ⟨N, 0, none⟩) 130 130)) 6 (by kernel_rfl) hDA.v0 (fun hS0 => ?_)
      refine anyU_take (i := 0) (v := ?_) rfl (by kernel_rfl) (by kernel_rfl) (by kernel_rfl) (by kernel_rfl) (fun _ _ _ h => h) (Or.inl ⟨by rfl, ?_⟩) hS0 ?_
      rotate_left
      · intro u hSu; (try dsimp only at hSu); go_simp <;> with_reducible rfl
      simp only [Act.put, List.getElem_toArray, List.getElem_cons_zero, List.setIfInBounds_toArray, List.set_cons_zero, List.set_cons_succ]
      refine anyU_take (i := 1) (v := ?_) rfl (by kernel_rfl) (by kernel_rfl) (by kernel_rfl) (by kernel_rfl) (fun _ _ _ h => h) (Or.inl ⟨by rfl, ?_⟩) hS0 ?_
      rotate_left
      · intro u hSu; (try dsimp only at hSu); go_simp <;> with_reducible rfl
      simp only [Act.put, List.getElem_toArray, List.getElem_cons_zero, List.getElem_cons_succ, List.setIfInBounds_toArray, List.set_cons_zero, List.set_cons_succ]
      refine anyU_take (i := 2) (v := ?_) rfl (by kernel_rfl) (by kernel_rfl) (by kernel_rfl) (by kernel_rfl) (fun _ _ _ h => h) (Or.inl ⟨by rfl, ?_⟩) hS0 ?_
      rotate_left
      · intro u hSu; (try dsimp only at hSu); go_simp <;> with_reducible rfl
      simp only [Act.put, List.getElem_toArray, List.getElem_cons_zero, List.getElem_cons_succ, List.setIfInBounds_toArray, List.set_cons_zero, List.set_cons_succ]
      refine anyU_take (i := 3) (v := ?_) rfl (by kernel_rfl) (by kernel_rfl) (by kernel_rfl) (by kernel_rfl) (fun _ _ _ h => h) (Or.inl ⟨by rfl, ?_⟩) hS0 ?_
      rotate_left
      · intro u hSu; (try dsimp only at hSu); go_simp <;> with_reducible rfl
      simp only [Act.put, List.getElem_toArray, List.getElem_cons_zero, List.getElem_cons_succ, List.setIfInBounds_toArray, List.set_cons_zero, List.set_cons_succ]
      refine anyU_one (i := 4) (by kernel_rfl) rfl (fun K hK => ?_)
      go_simp
      rw [show (64 : Nat) = n.length from hn64.out.symm]
      refine (bytesClone_any Q 0 n.length n _ (by rw [hn64.out]; decide) (by rw [hn64.out]; decide) (hby.grow (gdr (gre _)))).mono ?_
      rintro e w2 ⟨G, gcap, rfl, hG, hGr, hb2⟩
      have hD2 := hDA.grow (gca (gdr (gre wC)) hb2)
      rw [hn64.out]
      refine hK.out _ _ hD2.v0 ?_
      clear hK
      refine anyU_one (i := 5) (by kernel_rfl) rfl (fun K hK => ?_)
      go_simp
      refine hK.out _ _ hD2.v0 ?_
      clear hK
      have rc := hD2.row.cell (i := k) (by omega)
      have rf := hD2.row.frozen
      refine anyU_last (by kernel_rfl) rfl (by kernel_rfl) (fun K hK => ?_)
      go_simp
      refine hK.out _ _ ?_
      clear hK
      have hst := hD2.step (k := k) (G := G) (cap := gcap) (by rw [← hn.out]; exact hGr) (by have := World.block_lt_of_cell? _ _ hDA.v0; have h5 : wC.heap.size ≤ G := hG; simp at this; omega) (fun j hj => by have := (hDA.fs j hj).2.1.lt; have h5 : wC.heap.size ≤ G := hG; omega)
      go_wp2
      go_roundw
      case rel => exact ⟨k + 1, _, _, _, by omega, by go_num, hst⟩
      case measure => simp [intOf]; omega
    · obtain rfl : k = 130 := by omega
      have hDr2 := (h.grow hw1).grow hD.bel
      have x2 := hDr2.d.ws
      obtain ⟨j0, hj, hy0, hy1, hy2⟩ := info_parts info_implWrite
      have hz65 := (zero_of_info zero_pending).1
      have hW0 : DkW w1 wr N V bl f bs cs none 0 [] (fun _ => 0) := ⟨hD, owns_none _ _ _ _, fun i hi => absurd hi (Nat.not_lt_zero _)⟩
      clear hD hK0 hDr2 hk hlt
      go_wp2
      go_loopw [30] (fun i wr => ∃ k : Nat, k ≤ ws.length ∧ i = .int .i64 k ∧ GWInv w1 wr N V bl f bs cs ws k) (fun i _ => ws.length - (intOf i).toNat)
      case atStart => exact ⟨0, Nat.zero_le _, rfl, none, 0, [], _, rfl, rfl, hW0⟩
      case round =>
        obtain ⟨k, hk, rfl, va, vc, lw, gs, hll, hlm, hD⟩ := hrel
        by_cases hlt : k < ws.length
        · have hDrk := (h.grow hw1).grow hD.dk.bel
          obtain ⟨g, rfl, _, hgl, hrg⟩ := owns_pend hDrk.own hDrk.w64 hlt
          obtain ⟨n, hn⟩ := hid_ex ws[k]!
          rw [← hn.out] at hrg
          have hn64 : Hid (n.bytes.length = 64) := by show _ = _; rw [hn.out]; exact h.w64 _ (mem_at hlt)
          have hpl : n.pc.length = 65 := pc_length hn64.out
          have i0 : (0 : Int) ≤ (k : Int) := by omega
          have i1 : (k : Int) < (ws.length : Int) := by omega
          clear hDrk
          go_upto_region 10 with (first
            | (refine wpList_load_mid rfl 184 _ rfl g (k * 65) rfl n.pc _ hrg Try.underlying184 rfl (by rw [size_pending, hpl]) ?_)
            | (refine wpList_alloc_big rfl 184 rfl _ hz65 ?_)
            | (refine wpList_store_new rfl 184 _ _ rfl _ n.pc.toArray rfl rfl (by rw [size_pending]; simp [hpl]) (by simp [zeros, hpl]) (all_oneCell_toArray pc_one) ?_))
          have hDA := hD.grow (gal (gre wr) (.cells n.pc.toArray 184))
          have hrn := range_new wr n.pc 184
          have hby := bytes_range (range_drop (cs := [.int .i64 n.block]) hrn)
          have hq0 := hrn 0 _ rfl
          have hsC : (wr.alloc (.cells n.pc.toArray 184)).heap.size = wr.heap.size + 1 := by simp
          generalize wr.alloc (.cells n.pc.toArray 184) = wC at hDA hby hsC hq0 ⊢
          clear hrn
          generalize hQ : wr.heap.size = Q at hby hsC hq0 ⊢
          have hby2 : BytesAt wC (some ⟨Q, 1, none⟩) n.bytes := hby
          have hq02 : wC.cell? ⟨Q, 0, none⟩ = some (.int .i64 n.block) := hq0
          clear hby hq0
          have hSk : ∀ (u u' : World), Below u.heap.size u u' → (u.cell? ⟨V, 1, none⟩ = some (.slice va lw.length vc) ∧ u.cell? ⟨Q, 0, none⟩ = some (.int .i64 n.block)) → (u'.cell? ⟨V, 1, none⟩ = some (.slice va lw.length vc) ∧ u'.cell? ⟨Q, 0, none⟩ = some (.int .i64 n.block)) := fun u u' hb h => ⟨cell_later hb h.1, cell_later hb h.2⟩
          refine wp_regionU (fun u => u.cell? ⟨V, 1, none⟩ = some (.slice va lw.length vc) ∧ u.cell? ⟨Q, 0, none⟩ = some (.int .i64 n.block)) 11 (by kernel_rfl) ⟨hDA.dk.v1, hq02⟩ (fun hS0 => ?_)
          refine anyU_take (i := 0) (v := ?_) rfl (by kernel_rfl) (by kernel_rfl) (by kernel_rfl) (by kernel_rfl) (fun _ _ _ h => h) (Or.inl ⟨by rfl, ?_⟩) hS0 ?_
          rotate_left
          · intro u hSu; obtain ⟨s0, s1⟩ := hSu; go_simp <;> with_reducible rfl
          simp only [Act.put, List.getElem_toArray, List.getElem_cons_zero, List.setIfInBounds_toArray, List.set_cons_zero, List.set_cons_succ]
          refine anyU_take (i := 1) (v := ?_) rfl (by kernel_rfl) (by kernel_rfl) (by kernel_rfl) (by kernel_rfl) (fun _ _ _ h => h) (Or.inl ⟨by rfl, ?_⟩) hS0 ?_
          rotate_left
          · intro u hSu; obtain ⟨s0, s1⟩ := hSu; go_simp <;> with_reducible rfl
          simp only [Act.put, List.getElem_toArray, List.getElem_cons_zero, List.getElem_cons_succ, List.setIfInBounds_toArray, List.set_cons_zero, List.set_cons_succ]
          refine anyU_take (i := 2) (v := ?_) rfl (by kernel_rfl) (by kernel_rfl) (by kernel_rfl) (by kernel_rfl) (fun _ _ _ h => h) (Or.inl ⟨by rfl, ?_⟩) hS0 ?_
          rotate_left
          · intro u hSu; obtain ⟨s0, s1⟩ := hSu; go_simp <;> with_reducible rfl
          simp only [Act.put, List.getElem_toArray, List.getElem_cons_zero, List.getElem_cons_succ, List.setIfInBounds_toArray, List.set_cons_zero, List.set_cons_succ]
          refine anyU_take (i := 3) (v := ?_) rfl (by kernel_rfl) (by kernel_rfl) (by kernel_rfl) (by kernel_rfl) (fun _ _ _ h => h) (Or.inl ⟨by rfl, ?_⟩) hS0 ?_
          rotate_left
          · intro u hSu; obtain ⟨s0, s1⟩ := hSu; go_simp <;> with_reducible rfl
          simp only [Act.put, List.getElem_toArray, List.getElem_cons_zero, List.getElem_cons_succ, List.setIfInBounds_toArray, List.set_cons_zero, List.set_cons_succ]
          refine anyU_take (i := 4) (v := ?_) rfl (by kernel_rfl) (by kernel_rfl) (by kernel_rfl) (by kernel_rfl) (fun _ _ _ h => h) (Or.inl ⟨by rfl, ?_⟩) hS0 ?_
          rotate_left
          · intro u hSu; obtain ⟨s0, s1⟩ := hSu; go_simp <;> with_reducible rfl
          simp only [Act.put, List.getElem_toArray, List.getElem_cons_zero, List.getElem_cons_succ, List.setIfInBounds_toArray, List.set_cons_zero, List.set_cons_succ]
          refine anyU_take (i := 5) (v := ?_) rfl (by kernel_rfl) (by kernel_rfl) (by kernel_rfl) (by kernel_rfl) (fun _ _ _ h => h) (Or.inl ⟨by rfl, ?_⟩) hS0 ?_
          rotate_left
          · intro u hSu; obtain ⟨s0, s1⟩ := hSu; go_simp <;> with_reducible rfl
          simp only [Act.put, List.getElem_toArray, List.getElem_cons_zero, List.getElem_cons_succ, List.setIfInBounds_toArray, List.set_cons_zero, List.set_cons_succ]
          refine anyU_one (i := 6) (by kernel_rfl) rfl (fun K hK => ?_)
          go_simp
          rw [show (64 : Nat) = n.bytes.length from hn64.out.symm]
          refine (bytesClone_any Q 1 n.bytes.length n.bytes _ (by rw [hn64.out]; decide) (by rw [hn64.out]; decide) (hby2.grow (gdr (gre _)))).mono ?_
          rintro e w2 ⟨G, gcap, rfl, hG, hGr, hb2⟩
          have hD2 := hDA.grow (gca (gdr (gre wC)) hb2)
          have hS2 := hSk _ _ hb2 hS0
          refine hK.out _ _ hS2 ?_
          clear hK
          refine anyU_one (i := 7) (by kernel_rfl) rfl (fun K hK => ?_)
          go_simp
          refine hK.out _ _ hS2 ?_
          clear hK
          have hB3 := gal (gre w2) (.cells #[.int .i64 n.block, .slice (some ⟨G, 0, none⟩) n.bytes.length gcap] 133)
          have hS3 := hSk _ _ hB3 hS2
          have hS3' : Hid _ := hS3
          clear hS3
          refine anyU_one (i := 8) (by kernel_rfl) rfl (fun K hK => ?_)
          go_simp
          refine hK.out _ _ hS3'.out ?_
          clear hK
          have hD3 := hD2.grow hB3
          have hsz3 : (w2.alloc (.cells #[.int .i64 n.block, .slice (some ⟨G, 0, none⟩) n.bytes.length gcap] 133)).heap.size = w2.heap.size + 1 := by simp
          have hnew := World.news_of_block (cs := #[.int .i64 n.block, .slice (some ⟨G, 0, none⟩) n.bytes.length gcap]) (t := 133) (fr := (0, 0)) (blk_new_at w2 (.cells #[.int .i64 n.block, .slice (some ⟨G, 0, none⟩) n.bytes.length gcap] 133) _ rfl)
          have hGr3 := hGr.of_block (hB3.block _ hGr.lt)
          have hGl := hGr.lt
          have hlw := hll.out
          have hVs := World.block_lt_of_cell? wC ⟨V, 0, none⟩ hDA.dk.v0
          have hs2 := hb2.size
          have hsD : wC.drew.heap.size = wC.heap.size := rfl
          generalize w2.alloc (.cells #[.int .i64 n.block, .slice (some ⟨G, 0, none⟩) n.bytes.length gcap] 133) = w3' at hB3 hS3' hD3 hsz3 hnew hGr3 ⊢
          refine anyU_one (i := 9) (by kernel_rfl) rfl (fun K hK => ?_)
          refine step_append_lies _ (by rfl) (.tmp 35) (.tmp 42) 48 rfl (V + 1) 133 j0 _ 2 32 Try.underlying48 hj hy0 hy1 hy2 rfl (by decide) (.slice va lw.length vc) lw.length (wCells lw) (by rfl) hD3.own ⟨w2.heap.size, 0, none⟩ 1 1 [.int .i64 n.block, .slice (some ⟨G, 0, none⟩) n.bytes.length gcap] (by rfl) rfl hnew (by simp [Value.oneCell']) (by decide) (by unfold maxLen; omega) (by omega) (by simp at hVs; omega) (w2.heap.size + 1) hsz3 ?_
          intro gg cc w5 hown5 hgrow5 hat5 hlt5
          have hst := hD3.step hGr3 (by simp at hVs; omega) (fun j hj => by have := (hDA.dk.fs j hj).2.1.lt; omega) (fun j hj => by have := (hDA.byt j hj).2.1.lt; omega) hown5 hgrow5
          have K5 := Kept.of_grown hgrow5
          have hz : ∀ z, (Value.slice va lw.length vc).ownBlock = some z → IsW wr z ∧ V + 1 ≤ z := fun z hz => owns_isW hD.own hz
          have hS5 : w5.cell? ⟨V, 1, none⟩ = some (.slice va lw.length vc) ∧ w5.cell? ⟨Q, 0, none⟩ = some (.int .i64 n.block) := ⟨K5.cell hS3'.out.1 (fun e => by have := (hz _ e).2; omega), K5.cell hS3'.out.2 (fun e => by obtain ⟨c, hc⟩ := (hz _ e).1; have := (Array.getElem?_eq_some_iff.1 hc).1; omega)⟩
          have vf5 : ∀ o, w5.frozen? ⟨V, o, none⟩ = false := fun o => by have := hst.dk.vf o; rwa [World.frozen?_setCell] at this
          refine hK.out _ _ hS5 ?_
          clear hK
          simp only [Act.put, List.getElem_toArray, List.getElem_cons_zero, List.getElem_cons_succ, List.setIfInBounds_toArray, List.set_cons_zero, List.set_cons_succ]
          refine anyU_one (i := 10) (by kernel_rfl) rfl (fun K hK => ?_)
          go_simp
          refine hK.out _ _ hS5 ?_
          clear hK
          obtain ⟨v5, _⟩ := id hS5
          refine anyU_last (by kernel_rfl) rfl (by kernel_rfl) (fun K hK => ?_)
          go_simp
          refine hK.out _ _ ?_
          clear hK
          go_wp2
          go_roundw
          case rel => exact ⟨k + 1, by omega, by go_num, some ⟨gg, 0, none⟩, cc, lw ++ [⟨n, some ⟨G, 0, none⟩, gcap⟩], _, by show _ = _; rw [List.length_append, hlw]; rfl, by show _ = _; rw [List.map_append, hlm.out, take_snoc _ _ hlt, ← hn.out]; rfl, by rw [hlw] at hst; exact hst⟩
          case measure => simp [intOf]; omega
        · obtain rfl : k = ws.length := by omega
          rw [List.take_length] at hlm
          have y0 := hD.dk.v0
          have y1 := hD.dk.v1
          have z0 := cell_later hD.dk.bel r0
          have z1 := cell_later hD.dk.bel r1
          have zf : ∀ o, wr.frozen? ⟨R, o, none⟩ = false := fun o => (hD.dk.bel.frozen (p := ⟨R, o, none⟩) (by show R < w1.heap.size; omega)).trans (rf o)
          have hmd := hD.md hlen h64
          rw [hlm.out] at hmd
          have K := ((Kept.refl (fun b => b = R) wr).set (a := ⟨R, 0, none⟩) (fun _ => rfl) (.slice (some ⟨N, 0, none⟩) 130 130)).set (a := ⟨R, 1, none⟩) (fun _ => rfl) (.slice va lw.length vc)
          have hmd2 := (hmd.out K (fun b hb _ e => by omega)).mono (lo' := w.heap.size) (hi' := ((wr.setCell ⟨R, 0, none⟩ (.slice (some ⟨N, 0, none⟩) 130 130)).setCell ⟨R, 1, none⟩ (.slice va lw.length vc)).heap.size) (by omega) K.size
          have hbel : Below w.heap.size w ((wr.setCell ⟨R, 0, none⟩ (.slice (some ⟨N, 0, none⟩) 130 130)).setCell ⟨R, 1, none⟩ (.slice va lw.length vc)) := gse (gse (gca hw1 hD.dk.bel) (by show w.heap.size ≤ R; omega) _) (by show w.heap.size ≤ R; omega) _
          have c0 := World.cell?_setCell_same wr ⟨R, 0, none⟩ (.slice (some ⟨N, 0, none⟩) 130 130) z0
          have c1 := World.cell?_setCell_same (wr.setCell ⟨R, 0, none⟩ (.slice (some ⟨N, 0, none⟩) 130 130)) ⟨R, 1, none⟩ (.slice va lw.length vc) ((World.cell?_setCell_other wr ⟨R, 0, none⟩ ⟨R, 1, none⟩ (.slice (some ⟨N, 0, none⟩) 130 130) (by simp)).trans z1)
          clear hmd hW0 K hlen h64
          go_wp2
          refine bodyPost_ret (v := .agg #[.slice (some ⟨N, 0, none⟩) 130 130, .slice va lw.length vc]) (by simp [results, Try.results90, go_sem, c0, c1]) rfl ⟨⟨some ⟨N, 0, none⟩, 130, va, vc⟩, _, _, _, _, ?_, hmd2, hbel⟩
          rw [DD.val, hll.out, h.d.len]

end Go.Proofs.Ythjddpkegooobab

/-
  IBLANK: the program's Blank. Own work.
-/
namespace Go.Proofs.Ythjddpkegooobab
open Go.RowKit

/-- a disk that is handed back: in memory of its own -/
def DPost (d : DD) (w : World) (e : Ending) (w' : World) : Prop := ∃ l fa ga fc gc, e = .returned (d.val l) ∧ MD w' w.heap.size w'.heap.size l d fa ga fc gc ∧ Below w.heap.size w w'

theorem MD.last {w w' : World} {lo hi R : Nat} {l : DL} {d : DD} {fa ga : Nat → Option Addr} {fc gc : Nat → Nat} (h : MD w lo hi l d fa ga fc gc) (K : Kept (fun b => b = R) w w') (hR : R < lo) {lo' : Nat} (h1 : lo' ≤ lo) (h2 : hi ≤ w'.heap.size) : MD w' lo' w'.heap.size l d fa ga fc gc :=
  (h.out K (fun b hb _ e => by omega)).mono h1 h2

/-- a struct of two cells, written whole -/
theorem ret2 {w : World} {R : Nat} {A B va vb : Value} (z0 : w.cell? ⟨R, 0, none⟩ = some va) (z1 : w.cell? ⟨R, 1, none⟩ = some vb) :
    (w.setCell ⟨R, 0, none⟩ A).cell? ⟨R, 0, none⟩ = some A ∧ ((w.setCell ⟨R, 0, none⟩ A).setCell ⟨R, 1, none⟩ B).cell? ⟨R, 1, none⟩ = some B ∧ Kept (fun b => b = R) w ((w.setCell ⟨R, 0, none⟩ A).setCell ⟨R, 1, none⟩ B) :=
  ⟨World.cell?_setCell_same _ _ _ z0, World.cell?_setCell_same _ _ _ ((World.cell?_setCell_other _ _ _ _ (by simp)).trans z1), ((Kept.refl (fun b => b = R) w).set (a := ⟨R, 0, none⟩) (fun _ => rfl) A).set (a := ⟨R, 1, none⟩) (fun _ => rfl) B⟩

end Go.Proofs.Ythjddpkegooobab

/-
  SBLANK: the specification's Blank. Own work.
-/
namespace Go.Proofs.Ythjddpkegooobab
open Go.RowKit

/-- a disk that the specification hands back -/
def SBPost (d : DD) (w : World) (e : Ending) (w' : World) : Prop := ∃ l, e = .returned (d.val l) ∧ DAt w' l d ∧ Below w.heap.size w w'

/-- the same in memory of its own -/
def BOwn (w : World) (e : Ending) (w' : World) : Prop := ∃ (lb : List LB) (ba : Option Addr) (bc : Nat), e = .returned (blankD.val ⟨ba, bc, none, 0⟩) ∧ lb.map (·.l) = blankD.blocks ∧ SB w.heap.size w' ba bc lb ∧ Below w.heap.size w w'

def BInv (w wr : World) (R V k : Nat) : Prop := ∃ (lb : List LB) (ba : Option Addr) (bc : Nat), Hid (lb.length = k) ∧ Hid (lb.map (·.l) = List.replicate k (List.replicate 64 0)) ∧ SB (V + 1) wr ba bc lb ∧ VB wr V (.slice ba lb.length bc) (.slice none 0 0) ∧ VB wr R (.slice none 0 0) (.slice none 0 0) ∧ Below w.heap.size w wr

theorem owns_made {w : World} {base n : Nat} (hb : base ≤ w.heap.size) (hn : n ≤ maxLen) : (w.alloc (.cells (madeCells #[.int .u8 0] n) 5)).ownsRow base 5 1 (.slice (some ⟨w.heap.size, 0, none⟩) n n) n (bcells (List.replicate n 0)) := by
  refine ⟨by simp [bcells], Or.inr ⟨w.heap.size, n, _, rfl, hb, blk_new_at _ _ _ rfl, Nat.le_refl _, hn, by rw [size_madeCells]; omega, ?_⟩⟩
  apply List.ext_getElem?
  intro i
  by_cases hi : i < n
  · rw [List.getElem?_take_of_lt (by omega), Array.getElem?_toList]
    simp [madeCells, bcells, hi, Nat.mod_one]
  · rw [List.getElem?_eq_none (by simp; omega), List.getElem?_eq_none (by simp [bcells]; omega)]

theorem SB.leB {base base' : Nat} {w : World} {ba : Option Addr} {bc : Nat} {lb : List LB} (h : SB base w ba bc lb) (hb : base' ≤ base) : SB base' w ba bc lb := ⟨owns_le h.own hb, fun y hy => owns_le (h.byt y hy) hb⟩

end Go.Proofs.Ythjddpkegooobab

/-
  SL3: the specification's copy of a disk. Own work.
-/
namespace Go.Proofs.Ythjddpkegooobab
open Go.RowKit

/-- the block that holds a list of bytes -/
def LB.own (y : LB) : Option Nat := (Value.slice y.a y.l.length y.cap).ownBlock
/-- lists of bytes, no two in one block -/
def AparL (lb : List LB) : Prop := lb.Pairwise fun x y => ∀ z, x.own = some z → y.own ≠ some z
theorem AparL.push {lb : List LB} {y : LB} {B : Nat} (h : AparL lb) (hb : ∀ x, x ∈ lb → ∀ z, x.own = some z → z < B) (hy : ∀ z, y.own = some z → B ≤ z) : AparL (lb ++ [y]) :=
  List.pairwise_append.2 ⟨h, List.pairwise_singleton _ _, fun x hx u hu z hz e => by
    obtain rfl : u = y := by simpa using hu
    have := hb x hx z hz
    have := hy z e
    omega⟩
def CInv (w wr : World) (d : DD) (l : DL) (X R V k : Nat) : Prop := ∃ (lb : List LB) (ba : Option Addr) (bc : Nat), Hid (lb.length = k) ∧ Hid (lb.map (·.l) = d.blocks.take k) ∧ Hid (AparL lb) ∧ SB (V + 1) wr ba bc lb ∧ VB wr V (.slice ba lb.length bc) (.slice none 0 0) ∧ VB wr R (.slice none 0 0) (.slice none 0 0) ∧ DBox wr X d l ∧ Below w.heap.size w wr
def CInv2 (w wr : World) (d : DD) (R V : Nat) (lb : List LB) (ba : Option Addr) (bc k : Nat) : Prop := ∃ (lw : List LW) (wa : Option Addr) (wc : Nat), Hid (lw.length = k) ∧ Hid (lw.map (·.x) = d.waiting.take k) ∧ SB (V + 1) wr ba bc lb ∧ SW (V + 1) wr wa wc lw ∧ VB wr V (.slice ba lb.length bc) (.slice wa lw.length wc) ∧ VB wr R (.slice none 0 0) (.slice none 0 0) ∧ Below w.heap.size w wr

/-- a copy -/
def CPost (d : DD) (w : World) (e : Ending) (w' : World) : Prop := ∃ (lb : List LB) (lw : List LW) (ba : Option Addr) (bc : Nat) (wa : Option Addr) (wc : Nat), e = .returned (d.val ⟨ba, bc, wa, wc⟩) ∧ lb.map (·.l) = d.blocks ∧ lw.map (·.x) = d.waiting ∧ SB w.heap.size w' ba bc lb ∧ SW w.heap.size w' wa wc lw ∧ Below w.heap.size w w'

/-- a copy, its blocks apart -/
def CPostF (d : DD) (w : World) (e : Ending) (w' : World) : Prop := ∃ (lb : List LB) (lw : List LW) (ba : Option Addr) (bc : Nat) (wa : Option Addr) (wc : Nat), e = .returned (d.val ⟨ba, bc, wa, wc⟩) ∧ lb.map (·.l) = d.blocks ∧ lw.map (·.x) = d.waiting ∧ SB w.heap.size w' ba bc lb ∧ SW w.heap.size w' wa wc lw ∧ AparL lb ∧ Below w.heap.size w w'
theorem SB.le {base base' : Nat} {w : World} {ba : Option Addr} {bc : Nat} {lb : List LB} (h : SB base w ba bc lb) (hb : base' ≤ base) : SB base' w ba bc lb := ⟨owns_le h.own hb, fun y hy => owns_le (h.byt y hy) hb⟩
theorem SW.le {base base' : Nat} {w : World} {wa : Option Addr} {wc : Nat} {lw : List LW} (h : SW base w wa wc lw) (hb : base' ≤ base) : SW base' w wa wc lw := ⟨owns_le h.own hb, fun y hy => owns_le (h.byt y hy) hb⟩

set_option maxHeartbeats 4000000 in
set_option maxRecDepth 100000 in
theorem l3copy_far (d : DD) (l : DL) (w : World) (hs : d.Small) (ha : DAt w l d) : Calls Try.prog 102 #[d.val l] w (CPostF d w) := by
  obtain ⟨j0, hj, hy0, hy1, hy2'⟩ := info_parts info_bytes
  obtain ⟨k0, hkk, hk0, hk1, hk2⟩ := info_parts info_implWrite
  go_enter Try.func102, Try.ntmps102
  go_upto_region 2 with fail
  have hw0 := gal (gre w) (.cells #[.slice l.ba d.blocks.length l.bc, .slice l.wa d.waiting.length l.wc] 50)
  have hX0 := DBox.new w d l 50
  have hs0 : (w.alloc (.cells #[.slice l.ba d.blocks.length l.bc, .slice l.wa d.waiting.length l.wc] 50)).heap.size = w.heap.size + 1 := by simp
  generalize hXe0 : w.heap.size = X0 at hX0 hs0 hw0 ⊢
  generalize w.alloc (.cells #[.slice l.ba d.blocks.length l.bc, .slice l.wa d.waiting.length l.wc] 50) = w0 at hw0 hX0 hs0 ⊢
  have hw1 := gal (gal (gre w0) (.cells #[.slice none 0 0, .slice none 0 0] 50)) (.cells #[.slice none 0 0, .slice none 0 0] 50)
  have hR := (VB.new_at w0 (.slice none 0 0) (.slice none 0 0) 50 (X0 + 1) hs0.symm).grow (gal (gre _) (.cells #[.slice none 0 0, .slice none 0 0] 50))
  have hV := VB.new_at (w0.alloc (.cells #[.slice none 0 0, .slice none 0 0] 50)) (.slice none 0 0) (.slice none 0 0) 50 (X0 + 1 + 1) (by simp [hs0])
  have hX := hX0.grow hw1
  generalize (w0.alloc (.cells #[.slice none 0 0, .slice none 0 0] 50)).alloc (.cells #[.slice none 0 0, .slice none 0 0] 50) = wA at hw1 hR hV hX ⊢
  have hwA : Below w.heap.size w wA := by rw [← hXe0] at hw0; exact gca hw0 hw1
  have hXe : Hid (X0 = w.heap.size) := hXe0.symm
  obtain ⟨R, hRe⟩ := hid_ex (X0 + 1)
  obtain ⟨V, hVe⟩ := hid_ex (X0 + 1 + 1)
  rw [← hVe.out] at hV ⊢
  rw [← hRe.out] at hR ⊢
  have hI0 : CInv w wA d l X0 R V 0 := ⟨[], none, 0, rfl, rfl, List.Pairwise.nil, SB.nil _ _, hV, hR, hX, hwA⟩
  have x0 := hX.c0
  have x1 := hX.c1
  clear hw1 hR hV hX0 hw0 hs0 hwA hX
  go_wp2
  go_loopw [11] (fun i wr => ∃ k : Nat, k ≤ d.blocks.length ∧ i = .int .i64 k ∧ CInv w wr d l X0 R V k) (fun i _ => d.blocks.length - (intOf i).toNat)
  case atStart => exact ⟨0, Nat.zero_le _, rfl, hI0⟩
  case round =>
    obtain ⟨k, hk, rfl, lb, ba, bc, hll, hlm, hap, hL, hV, hR, hX, hb⟩ := hrel
    clear hI0 x0 x1
    by_cases hlt : k < d.blocks.length
    · obtain ⟨n, b, off, av, cv, hvk, hvm, hba, c0, hva⟩ := (ha.b.grow hb).get hlt
      rw [hba]
      have i0 : (0 : Int) ≤ (k : Int) := by omega
      have i1 : (k : Int) < (d.blocks.length : Int) := by omega
      go_wp2
      refine wp_regionU (fun u => u.cell? ⟨V, 0, none⟩ = some (.slice ba lb.length bc)) 7 (by kernel_rfl) (hV.grow (gdr (gre wr))).v0 (fun hS0 => ?_)
      have hLd := hL.grow (gdr (gre wr))
      have hVd := hV.grow (gdr (gre wr))
      have hRd := hR.grow (gdr (gre wr))
      have hXd := hX.grow (gdr (gre wr))
      have hbd := gdr hb
      have hvd := hva.grow (gdr (gre wr))
      generalize wr.drew = wd at hLd hVd hRd hXd hbd hvd hS0 ⊢
      refine anyU_take (i := 0) (v := ?_) rfl (by kernel_rfl) (by kernel_rfl) (by kernel_rfl) (by kernel_rfl) (fun _ _ _ h => h) (Or.inl ⟨by rfl, ?_⟩) hS0 ?_
      rotate_left
      · intro u hSu; (try dsimp only at hSu); go_simp <;> with_reducible rfl
      simp only [Act.put, List.getElem_toArray, List.getElem_cons_zero, List.setIfInBounds_toArray, List.set_cons_zero, List.set_cons_succ]
      refine anyU_take (i := 1) (v := ?_) rfl (by kernel_rfl) (by kernel_rfl) (by kernel_rfl) (by kernel_rfl) (fun _ _ _ h => h) (Or.inl ⟨by rfl, ?_⟩) hS0 ?_
      rotate_left
      · intro u hSu; (try dsimp only at hSu); go_simp <;> with_reducible rfl
      simp only [Act.put, List.getElem_toArray, List.getElem_cons_zero, List.getElem_cons_succ, List.setIfInBounds_toArray, List.set_cons_zero, List.set_cons_succ]
      refine anyU_take (i := 2) (v := ?_) rfl (by kernel_rfl) (by kernel_rfl) (by kernel_rfl) (by kernel_rfl) (fun _ _ _ h => h) (Or.inl ⟨by rfl, ?_⟩) hS0 ?_
      rotate_left
      · intro u hSu; (try dsimp only at hSu); go_simp <;> with_reducible rfl
      simp only [Act.put, List.getElem_toArray, List.getElem_cons_zero, List.getElem_cons_succ, List.setIfInBounds_toArray, List.set_cons_zero, List.set_cons_succ]
      refine anyU_one (i := 3) (by kernel_rfl) rfl (fun K hK => ?_)
      go_simp
      refine (l2copy_any av n cv _ (hs.bb n hvm) hvd).mono ?_
      rintro e w1 ⟨oa, oc, rfl, hoy, hB1⟩
      have hap2 : Hid (AparL (lb ++ [⟨n, oa, oc⟩])) := AparL.push (B := wd.heap.size) hap.out (fun x hx z hz => by
        obtain ⟨⟨c, hc⟩, _⟩ := owns_isB (hLd.byt x hx) hz
        exact (Array.getElem?_eq_some_iff.1 hc).1) (fun z hz => (owns_isB hoy hz).2)
      have hS1 := cell_later hB1 hS0
      refine hK.out _ _ hS1 ?_
      clear hK
      have hL1 := hLd.grow hB1
      have hV1 := hVd.grow hB1
      have hR1 := hRd.grow hB1
      have hX1 := hXd.grow hB1
      have hbel1 := gca hbd hB1
      have hy : w1.ownsRow (V + 1) 5 1 (.slice oa n.length oc) n.length (bcells n) := owns_le hoy (by have := hVd.lt; omega)
      have hB2 := gal (gre w1) (.cells #[.slice oa n.length oc] 28)
      have hS2 := cell_later hB2 hS1
      have hS2' : Hid _ := hS2
      clear hS2
      refine anyU_one (i := 4) (by kernel_rfl) rfl (fun K hK => ?_)
      go_simp
      refine hK.out _ _ hS2'.out ?_
      clear hK
      have hL2 := hL1.grow hB2
      have hV2 := hV1.grow hB2
      have hR2 := hR1.grow hB2
      have hX2 := hX1.grow hB2
      have hbel2 := gca hbel1 hB2
      have hy2 := (Kept.of_below hB2 (fun _ => False)).owns hy (fun _ _ e => e)
      have hnew := World.news_of_block (cs := #[.slice oa n.length oc]) (t := 28) (fr := (0, 0)) (blk_new_at w1 (.cells #[.slice oa n.length oc] 28) _ rfl)
      have hs2 : (w1.alloc (.cells #[.slice oa n.length oc] 28)).heap.size = w1.heap.size + 1 := by simp
      generalize w1.alloc (.cells #[.slice oa n.length oc] 28) = w2 at hB2 hS2' hL2 hV2 hR2 hX2 hbel2 hy2 hnew hs2 ⊢
      have hlw := hll.out
      have hbl := hs.bl
      refine anyU_one (i := 5) (by kernel_rfl) rfl (fun K hK => ?_)
      refine step_append_lies _ (by rfl) (.tmp 16) (.tmp 19) 47 rfl (V + 1) 28 j0 _ 1 24 Try.underlying47 hj hy0 hy1 hy2' rfl (by decide) (.slice ba lb.length bc) lb.length (lb.map LB.v) (by rfl) hL2.own ⟨w1.heap.size, 0, none⟩ 1 1 [.slice oa n.length oc] (by rfl) rfl hnew (by simp [Value.oneCell']) (by decide) (by unfold maxLen; omega) (by omega) (by have := hV2.lt; omega) (w1.heap.size + 1) hs2 ?_
      intro gg cc w5 hown5 hgrow5 hat5 hlt5
      have K5 := Kept.of_grown hgrow5
      have hz5 : ∀ z, (Value.slice ba lb.length bc).ownBlock = some z → V + 1 ≤ z := fun z e => (owns_isS hL2.own e).2
      have hL5 := hL2.push (y := ⟨n, oa, oc⟩) hy2 hown5 hgrow5
      have hV5 := hV2.kept K5 (fun e => by have := hz5 _ e; omega)
      refine hK.out _ _ hV5.v0 ?_
      clear hK
      simp only [Act.put, List.getElem_toArray, List.getElem_cons_zero, List.getElem_cons_succ, List.setIfInBounds_toArray, List.set_cons_zero, List.set_cons_succ]
      refine anyU_one (i := 6) (by kernel_rfl) rfl (fun K hK => ?_)
      go_simp
      refine hK.out _ _ hV5.v0 ?_
      clear hK
      have fz := hV5.vf
      have c8 := hV5.v0
      refine anyU_last (by kernel_rfl) rfl (by kernel_rfl) (fun K hK => ?_)
      go_simp
      refine hK.out _ _ ?_
      clear hK
      have hbel5 := hbel2.trans (K5.below (B := w.heap.size) hbel2.size (fun z hz e => by have := hz5 _ e; have := hVe.out; omega))
      have hfin : SB (V + 1) (w5.setCell ⟨V, 0, none⟩ (.slice (some ⟨gg, 0, none⟩) (lb.length + 1) cc)) (some ⟨gg, 0, none⟩) cc (lb ++ [⟨n, oa, oc⟩]) := hL5.set (by omega) _ _
      have hfV := hV5.set0 (.slice (some ⟨gg, 0, none⟩) (lb.length + 1) cc)
      have hfR := (hR2.kept K5 (fun e => by have := hz5 _ e; have := hVe.out; have := hRe.out; omega)).kept (Kept.one w5 V 0 (.slice (some ⟨gg, 0, none⟩) (lb.length + 1) cc)) (by have := hVe.out; have := hRe.out; omega)
      have hfX := (hX2.kept K5 (fun e => by have := hz5 _ e; have := hVe.out; have := hXe.out; omega)).kept (Kept.one w5 V 0 (.slice (some ⟨gg, 0, none⟩) (lb.length + 1) cc)) (by have := hVe.out; have := hXe.out; omega)
      rw [hlw] at hfin hfV hfR hfX
      go_wp2
      go_roundw
      case rel => exact ⟨k + 1, by omega, by go_num, lb ++ [⟨n, oa, oc⟩], some ⟨gg, 0, none⟩, cc, by show _ = _; rw [List.length_append, hlw]; rfl, by show _ = _; rw [List.map_append, hlm.out, take_snoc _ _ hlt, ← hvk.out]; rfl, hap2, hfin, by rw [List.length_append, hlw]; exact hfV, hfR, hfX, gse hbel5 (by have := hVe.out; show w.heap.size ≤ V; omega) _⟩
      case measure => simp [intOf]; omega
    · obtain rfl : k = d.blocks.length := by omega
      rw [List.take_length] at hlm
      have y0 := hX.c0
      have y1 := hX.c1
      have hJ0 : CInv2 w wr d R V lb ba bc 0 := ⟨[], none, 0, rfl, rfl, hL, SW.nil _ _, hV, hR, hb⟩
      clear hL hV hR hb hX
      go_wp2
      go_loopw [26] (fun i wr => ∃ k : Nat, k ≤ d.waiting.length ∧ i = .int .i64 k ∧ CInv2 w wr d R V lb ba bc k) (fun i _ => d.waiting.length - (intOf i).toNat)
      case atStart => exact ⟨0, Nat.zero_le _, rfl, hJ0⟩
      case round =>
        obtain ⟨k, hk2', rfl, lw, wa, wc, hll2, hlm2, hL, hW, hV, hR, hb⟩ := hrel
        clear hJ0 y0 y1
        by_cases hlt2 : k < d.waiting.length
        · obtain ⟨n, b, off, av, cv, hvk, hvm, hba, c0, c1, hva⟩ := (ha.w.grow hb).get hlt2
          rw [hba]
          have i0 : (0 : Int) ≤ (k : Int) := by omega
          have i1 : (k : Int) < (d.waiting.length : Int) := by omega
          go_upto_region 10 with fail
          have hAl := gal (gre wr) (.cells #[.int .i64 n.block, .slice av n.bytes.length cv] 133)
          have hLA := hL.grow hAl
          have hWA := hW.grow hAl
          have hVA := hV.grow hAl
          have hRA := hR.grow hAl
          have hbA := gal hb (.cells #[.int .i64 n.block, .slice av n.bytes.length cv] 133)
          have hvaA := hva.grow hAl
          have q0 : (wr.alloc (.cells #[.int .i64 n.block, .slice av n.bytes.length cv] 133)).cell? ⟨wr.heap.size, 0, none⟩ = some (.int .i64 n.block) := by simp
          have q1 : (wr.alloc (.cells #[.int .i64 n.block, .slice av n.bytes.length cv] 133)).cell? ⟨wr.heap.size, 1, none⟩ = some (.slice av n.bytes.length cv) := by simp
          have hsC : (wr.alloc (.cells #[.int .i64 n.block, .slice av n.bytes.length cv] 133)).heap.size = wr.heap.size + 1 := by simp
          generalize wr.alloc (.cells #[.int .i64 n.block, .slice av n.bytes.length cv] 133) = wC at hAl hLA hWA hVA hRA hbA hvaA q0 q1 hsC ⊢
          generalize hQ : wr.heap.size = Q at q0 q1 hsC ⊢
          clear hva hL hV hR hb c0 c1 hAl
          have hSk : ∀ (u u' : World), Below u.heap.size u u' → (u.cell? ⟨V, 1, none⟩ = some (.slice wa lw.length wc) ∧ u.cell? ⟨Q, 0, none⟩ = some (.int .i64 n.block) ∧ u.cell? ⟨Q, 1, none⟩ = some (.slice av n.bytes.length cv)) → (u'.cell? ⟨V, 1, none⟩ = some (.slice wa lw.length wc) ∧ u'.cell? ⟨Q, 0, none⟩ = some (.int .i64 n.block) ∧ u'.cell? ⟨Q, 1, none⟩ = some (.slice av n.bytes.length cv)) := fun u u' hb h => ⟨cell_later hb h.1, cell_later hb h.2.1, cell_later hb h.2.2⟩
          refine wp_regionU (fun u => u.cell? ⟨V, 1, none⟩ = some (.slice wa lw.length wc) ∧ u.cell? ⟨Q, 0, none⟩ = some (.int .i64 n.block) ∧ u.cell? ⟨Q, 1, none⟩ = some (.slice av n.bytes.length cv)) 11 (by kernel_rfl) ⟨(hVA.grow (gdr (gre wC))).v1, q0, q1⟩ (fun hS0 => ?_)
          have hLd := hLA.grow (gdr (gre wC))
          have hWd := hWA.grow (gdr (gre wC))
          have hVd := hVA.grow (gdr (gre wC))
          have hRd := hRA.grow (gdr (gre wC))
          skip
          have hbd := gdr hbA
          have hvd := hvaA.grow (gdr (gre wC))
          have hsd : wC.drew.heap.size = wC.heap.size := rfl
          generalize wC.drew = wd at hLd hWd hVd hRd hbd hvd hS0 hsd ⊢
          refine anyU_take (i := 0) (v := ?_) rfl (by kernel_rfl) (by kernel_rfl) (by kernel_rfl) (by kernel_rfl) (fun _ _ _ h => h) (Or.inl ⟨by rfl, ?_⟩) hS0 ?_
          rotate_left
          · intro u hSu; obtain ⟨s0, s1, s2⟩ := hSu; go_simp <;> with_reducible rfl
          simp only [Act.put, List.getElem_toArray, List.getElem_cons_zero, List.setIfInBounds_toArray, List.set_cons_zero, List.set_cons_succ]
          refine anyU_take (i := 1) (v := ?_) rfl (by kernel_rfl) (by kernel_rfl) (by kernel_rfl) (by kernel_rfl) (fun _ _ _ h => h) (Or.inl ⟨by rfl, ?_⟩) hS0 ?_
          rotate_left
          · intro u hSu; obtain ⟨s0, s1, s2⟩ := hSu; go_simp <;> with_reducible rfl
          simp only [Act.put, List.getElem_toArray, List.getElem_cons_zero, List.getElem_cons_succ, List.setIfInBounds_toArray, List.set_cons_zero, List.set_cons_succ]
          refine anyU_take (i := 2) (v := ?_) rfl (by kernel_rfl) (by kernel_rfl) (by kernel_rfl) (by kernel_rfl) (fun _ _ _ h => h) (Or.inl ⟨by rfl, ?_⟩) hS0 ?_
          rotate_left
          · intro u hSu; obtain ⟨s0, s1, s2⟩ := hSu; go_simp <;> with_reducible rfl
          simp only [Act.put, List.getElem_toArray, List.getElem_cons_zero, List.getElem_cons_succ, List.setIfInBounds_toArray, List.set_cons_zero, List.set_cons_succ]
          refine anyU_take (i := 3) (v := ?_) rfl (by kernel_rfl) (by kernel_rfl) (by kernel_rfl) (by kernel_rfl) (fun _ _ _ h => h) (Or.inl ⟨by rfl, ?_⟩) hS0 ?_
          rotate_left
          · intro u hSu; obtain ⟨s0, s1, s2⟩ := hSu; go_simp <;> with_reducible rfl
          simp only [Act.put, List.getElem_toArray, List.getElem_cons_zero, List.getElem_cons_succ, List.setIfInBounds_toArray, List.set_cons_zero, List.set_cons_succ]
          refine anyU_take (i := 4) (v := ?_) rfl (by kernel_rfl) (by kernel_rfl) (by kernel_rfl) (by kernel_rfl) (fun _ _ _ h => h) (Or.inl ⟨by rfl, ?_⟩) hS0 ?_
          rotate_left
          · intro u hSu; obtain ⟨s0, s1, s2⟩ := hSu; go_simp <;> with_reducible rfl
          simp only [Act.put, List.getElem_toArray, List.getElem_cons_zero, List.getElem_cons_succ, List.setIfInBounds_toArray, List.set_cons_zero, List.set_cons_succ]
          refine anyU_take (i := 5) (v := ?_) rfl (by kernel_rfl) (by kernel_rfl) (by kernel_rfl) (by kernel_rfl) (fun _ _ _ h => h) (Or.inl ⟨by rfl, ?_⟩) hS0 ?_
          rotate_left
          · intro u hSu; obtain ⟨s0, s1, s2⟩ := hSu; go_simp <;> with_reducible rfl
          simp only [Act.put, List.getElem_toArray, List.getElem_cons_zero, List.getElem_cons_succ, List.setIfInBounds_toArray, List.set_cons_zero, List.set_cons_succ]
          refine anyU_one (i := 6) (by kernel_rfl) rfl (fun K hK => ?_)
          go_simp
          refine (l2copy_any av n.bytes cv _ (hs.wb n hvm) hvd).mono ?_
          rintro e w1 ⟨oa, oc, rfl, hoy, hB1⟩
          have hS1 := hSk _ _ hB1 hS0
          refine hK.out _ _ hS1 ?_
          clear hK
          have hL1 := hLd.grow hB1
          have hW1 := hWd.grow hB1
          have hV1 := hVd.grow hB1
          have hR1 := hRd.grow hB1
          skip
          have hbel1 := gca hbd hB1
          have hy : w1.ownsRow (V + 1) 5 1 (.slice oa n.bytes.length oc) n.bytes.length (bcells n.bytes) := owns_le hoy (by have := hVd.lt; omega)
          refine anyU_one (i := 7) (by kernel_rfl) rfl (fun K hK => ?_)
          go_simp
          refine hK.out _ _ hS1 ?_
          clear hK
          have hB2 := gal (gre w1) (.cells #[.int .i64 n.block, .slice oa n.bytes.length oc] 133)
          have hS2 := hSk _ _ hB2 hS1
          have hS2' : Hid _ := hS2
          clear hS2
          refine anyU_one (i := 8) (by kernel_rfl) rfl (fun K hK => ?_)
          go_simp
          refine hK.out _ _ hS2'.out ?_
          clear hK
          have hL2 := hL1.grow hB2
          have hW2 := hW1.grow hB2
          have hV2 := hV1.grow hB2
          have hR2 := hR1.grow hB2
          skip
          have hbel2 := gca hbel1 hB2
          have hy2 := (Kept.of_below hB2 (fun _ => False)).owns hy (fun _ _ e => e)
          have hnew := World.news_of_block (cs := #[.int .i64 n.block, .slice oa n.bytes.length oc]) (t := 133) (fr := (0, 0)) (blk_new_at w1 (.cells #[.int .i64 n.block, .slice oa n.bytes.length oc] 133) _ rfl)
          have hs2 : (w1.alloc (.cells #[.int .i64 n.block, .slice oa n.bytes.length oc] 133)).heap.size = w1.heap.size + 1 := by simp
          have hs1 := hB1.size
          generalize w1.alloc (.cells #[.int .i64 n.block, .slice oa n.bytes.length oc] 133) = w2 at hB2 hS2' hL2 hW2 hV2 hR2 hbel2 hy2 hnew hs2 ⊢
          have hlw := hll2.out
          have hwl := hs.wl
          refine anyU_one (i := 9) (by kernel_rfl) rfl (fun K hK => ?_)
          refine step_append_lies _ (by rfl) (.tmp 31) (.tmp 38) 48 rfl (V + 1) 133 k0 _ 2 32 Try.underlying48 hkk hk0 hk1 hk2 rfl (by decide) (.slice wa lw.length wc) lw.length (wCells lw) (by rfl) hW2.own ⟨w1.heap.size, 0, none⟩ 1 1 [.int .i64 n.block, .slice oa n.bytes.length oc] (by rfl) rfl hnew (by simp [Value.oneCell']) (by decide) (by unfold maxLen; omega) (by omega) (by have := hV2.lt; omega) (w1.heap.size + 1) hs2 ?_
          intro gg cc w5 hown5 hgrow5 hat5 hlt5
          have K5 := Kept.of_grown hgrow5
          have hz5 : ∀ z, (Value.slice wa lw.length wc).ownBlock = some z → IsW w2 z ∧ V + 1 ≤ z := fun z e => owns_isW hW2.own e
          have hzQ : ∀ z, (Value.slice wa lw.length wc).ownBlock = some z → z < Q := fun z e => by obtain ⟨c, hc⟩ := (owns_isW hW.own e).1; have := (Array.getElem?_eq_some_iff.1 hc).1; omega
          have hW5 := hW2.push (y := ⟨n, oa, oc⟩) hy2 hown5 hgrow5
          have hL5 := hL2.kept K5 (fun z e _ => ⟨fun hS => not_W_of_S hS (hz5 z e).1, not_B_of_W (hz5 z e).1⟩)
          have hV5 := hV2.kept K5 (fun e => by have := (hz5 _ e).2; omega)
          have hS5 : w5.cell? ⟨V, 1, none⟩ = some (.slice wa lw.length wc) ∧ w5.cell? ⟨Q, 0, none⟩ = some (.int .i64 n.block) ∧ w5.cell? ⟨Q, 1, none⟩ = some (.slice av n.bytes.length cv) := ⟨hV5.v1, K5.cell hS2'.out.2.1 (fun e => by have := hzQ _ e; omega), K5.cell hS2'.out.2.2 (fun e => by have := hzQ _ e; omega)⟩
          refine hK.out _ _ hS5 ?_
          clear hK
          simp only [Act.put, List.getElem_toArray, List.getElem_cons_zero, List.getElem_cons_succ, List.setIfInBounds_toArray, List.set_cons_zero, List.set_cons_succ]
          refine anyU_one (i := 10) (by kernel_rfl) rfl (fun K hK => ?_)
          go_simp
          refine hK.out _ _ hS5 ?_
          clear hK
          have fz := hV5.vf
          have c8 := hV5.v1
          refine anyU_last (by kernel_rfl) rfl (by kernel_rfl) (fun K hK => ?_)
          go_simp
          refine hK.out _ _ ?_
          clear hK
          have hbel5 := hbel2.trans (K5.below (B := w.heap.size) hbel2.size (fun z hz e => by have := (hz5 _ e).2; have := hVe.out; omega))
          have hfW : SW (V + 1) (w5.setCell ⟨V, 1, none⟩ (.slice (some ⟨gg, 0, none⟩) (lw.length + 1) cc)) (some ⟨gg, 0, none⟩) cc (lw ++ [⟨n, oa, oc⟩]) := hW5.set (by omega) _ _
          have hfL : SB (V + 1) (w5.setCell ⟨V, 1, none⟩ (.slice (some ⟨gg, 0, none⟩) (lw.length + 1) cc)) ba bc lb := hL5.set (by omega) _ _
          have hfV := hV5.set1 (.slice (some ⟨gg, 0, none⟩) (lw.length + 1) cc)
          have hfR := (hR2.kept K5 (fun e => by have := (hz5 _ e).2; have := hVe.out; have := hRe.out; omega)).kept (Kept.one w5 V 1 (.slice (some ⟨gg, 0, none⟩) (lw.length + 1) cc)) (by have := hVe.out; have := hRe.out; omega)
          rw [hlw] at hfW hfL hfV hfR
          go_wp2
          go_roundw
          case rel => exact ⟨k + 1, by omega, by go_num, lw ++ [⟨n, oa, oc⟩], some ⟨gg, 0, none⟩, cc, by show _ = _; rw [List.length_append, hlw]; rfl, by show _ = _; rw [List.map_append, hlm2.out, take_snoc _ _ hlt2, ← hvk.out]; rfl, hfL, hfW, by rw [List.length_append, hlw]; exact hfV, hfR, gse hbel5 (by have := hVe.out; show w.heap.size ≤ V; omega) _⟩
          case measure => simp [intOf]; omega
        · obtain rfl : k = d.waiting.length := by omega
          rw [List.take_length] at hlm2
          have y0 := hV.v0
          have y1 := hV.v1
          have z0 := hR.v0
          have z1 := hR.v1
          have zf := hR.vf
          obtain ⟨c0, c1, K⟩ := ret2 (A := .slice ba lb.length bc) (B := .slice wa lw.length wc) z0 z1
          have hRV : R < V := by have := hVe.out; have := hRe.out; omega
          have hfL := ((hL.set (V := R) (by omega) 0 (.slice ba lb.length bc)).set (V := R) (by omega) 1 (.slice wa lw.length wc)).le (base' := w.heap.size) (by have := hVe.out; have := hXe.out; omega)
          have hfW := ((hW.set (V := R) (by omega) 0 (.slice ba lb.length bc)).set (V := R) (by omega) 1 (.slice wa lw.length wc)).le (base' := w.heap.size) (by have := hVe.out; have := hXe.out; omega)
          have hbel := hb.trans (K.below hb.size (fun z hz e => by have := hRe.out; have := hXe.out; omega))
          clear K hRV
          go_wp2
          refine bodyPost_ret (v := .agg #[.slice ba lb.length bc, .slice wa lw.length wc]) (by simp [results, Try.results102, go_sem, c0, c1]) rfl ⟨lb, lw, ba, bc, wa, wc, by rw [DD.val, hll.out, hll2.out], hlm.out, hlm2.out, hfL, hfW, hap.out, hbel⟩

theorem l3copy_any (d : DD) (l : DL) (w : World) (hs : d.Small) (ha : DAt w l d) : Calls Try.prog 102 #[d.val l] w (CPost d w) :=
  (l3copy_far d l w hs ha).mono fun _ _ ⟨lb, lw, ba, bc, wa, wc, he, h1, h2, h3, h4, _, h6⟩ => ⟨lb, lw, ba, bc, wa, wc, he, h1, h2, h3, h4, h6⟩

end Go.Proofs.Ythjddpkegooobab
