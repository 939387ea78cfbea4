/-
  NODEOF: a thing made a node again. Own work.
-/
import Derived.Test.YthjddpkegooobaaValOf
namespace Go.Proofs.Ythjddpkegooobaa
open Go.RowKit

/-- what stands at the head of the round -/
structure VState (w : World) (tb : Nat → Nat) (M mb base : Nat) (tag : Int) (ma0 : Option Addr) (ws : World) (ord : List Nat) (ma : Option Addr) (mc : Nat) (va : Option Addr) (vc : Nat) (vs : List GV) : Prop where
  kept : Kept (fun k => k = M ∨ k = mb ∨ ma0 = some ⟨k, 0, none⟩) w ws
  size : w.heap.size + 1 + 1 ≤ ws.heap.size
  res : Two ws w.heap.size 0 (.slice none 0 0)
  x : Two ws (w.heap.size + 1) tag (.slice va vs.length vc)
  meet : Meet ws tb M mb base ord ma mc
  maor : ma = ma0 ∨ ∃ b, ma = some ⟨b, 0, none⟩ ∧ w.heap.size + 1 + 1 ≤ b
  vals : ws.ownsRow (w.heap.size + 1 + 1) 24 4 (.slice va vs.length vc) vs.length (valCells vs)
  ap : ∀ b, va = some ⟨b, 0, none⟩ → ma ≠ some ⟨b, 0, none⟩

section
variable {w : World} {tb : Nat → Nat} {M mb base : Nat} {tag : Int} {ma0 : Option Addr} {ws : World} {ord : List Nat} {ma : Option Addr} {mc : Nat} {va : Option Addr} {vc : Nat} {vs : List GV}

set_option maxRecDepth 100000 in
theorem VState.far (h : VState w tb M mb base tag ma0 ws ord ma mc va vc vs) (_hb : base ≤ w.heap.size) (h0 : ∀ b, ma0 = some ⟨b, 0, none⟩ → b < w.heap.size) :
    (∀ b, ma = some ⟨b, 0, none⟩ → base ≤ b ∧ b < ws.heap.size ∧ b ≠ w.heap.size ∧ b ≠ w.heap.size + 1) ∧ (∀ b, va = some ⟨b, 0, none⟩ → w.heap.size + 1 + 1 ≤ b ∧ b < ws.heap.size) := by
  refine ⟨fun b hb => ?_, fun b hb => h.vals.lt b (by rw [hb]; rfl)⟩
  have h1 := h.meet.met.lt b (by rw [hb]; rfl)
  refine ⟨h1.1, h1.2, ?_, ?_⟩
  · rcases h.maor with e | ⟨c, e, hc⟩
    · have := h0 b (by rw [← e, hb]); omega
    · rw [hb] at e; have := some_addr e; omega
  · rcases h.maor with e | ⟨c, e, hc⟩
    · have := h0 b (by rw [← e, hb]); omega
    · rw [hb] at e; have := some_addr e; omega

set_option maxRecDepth 100000 in
theorem VState.step (h : VState w tb M mb base tag ma0 ws ord ma mc va vc vs) (hb : base ≤ w.heap.size) (hMl : M < base ∧ mb < base) (h0 : ∀ b, ma0 = some ⟨b, 0, none⟩ → b < w.heap.size) {v : GV} {w1 w3 : World} {ma1 : Option Addr} {mc1 gg cc : Nat} {o : Obj}
    (hM1 : Meet w1 tb M mb base (renOrd ord v) ma1 mc1) (hor1 : ma1 = ma ∨ ∃ b, ma1 = some ⟨b, 0, none⟩ ∧ ws.heap.size ≤ b) (hK1 : Kept (fun k => k = M ∨ k = mb ∨ ma = some ⟨k, 0, none⟩) ws w1)
    (hown : w3.ownsRow (w.heap.size + 1 + 1) 24 4 (.slice (some ⟨gg, 0, none⟩) (vs.length + 1) cc) (vs.length + 1) (valCells vs ++ (renVal ord v).four))
    (hgrow : (w1.alloc o).grownBy w3 (Value.slice va vs.length vc).ownBlock) (hat : (Value.slice va vs.length vc).ownBlock = some gg ∨ gg = w1.heap.size + 1) :
    VState w tb M mb base tag ma0 (w3.setCell ⟨w.heap.size + 1, 1, none⟩ (.slice (some ⟨gg, 0, none⟩) (vs.length + 1) cc)) (renOrd ord v) ma1 mc1 (some ⟨gg, 0, none⟩) cc (vs ++ [renVal ord v]) := by
  obtain ⟨f1, f2⟩ := h.far hb h0
  have hz := h.size
  have hs1 := hK1.size
  have hA : Kept (fun _ => False) w1 (w1.alloc o) := (Kept.refl _ w1).alloc _
  have hG := Kept.of_grown hgrow
  have hs3 : w1.heap.size + 1 ≤ w3.heap.size := by have := hgrow.size; simpa using this
  have hC := (Kept.refl (fun b => b = w.heap.size + 1) w3).set (a := ⟨w.heap.size + 1, 1, none⟩) (fun _ => rfl) (.slice (some ⟨gg, 0, none⟩) (vs.length + 1) cc)
  have hvb : ∀ b, (Value.slice va vs.length vc).ownBlock = some b → w.heap.size + 1 + 1 ≤ b ∧ b < ws.heap.size ∧ va = some ⟨b, 0, none⟩ := fun b hb => by
    have e := owns_addr h.vals hb
    exact ⟨(f2 b e).1, (f2 b e).2, e⟩
  have hm1 : ∀ b, ma1 = some ⟨b, 0, none⟩ → base ≤ b ∧ b < w1.heap.size ∧ b ≠ w.heap.size ∧ b ≠ w.heap.size + 1 ∧ (Value.slice va vs.length vc).ownBlock ≠ some b := fun b hb => by
    have h1 := hM1.met.lt b (by rw [hb]; rfl)
    rcases hor1 with e | ⟨c, e, hc⟩
    · have h2 := f1 b (by rw [← e, hb])
      exact ⟨h1.1, h1.2, h2.2.2.1, h2.2.2.2, fun hx => h.ap b (hvb b hx).2.2 (by rw [← e, hb])⟩
    · rw [hb] at e
      have e2 := some_addr e
      refine ⟨h1.1, h1.2, by omega, by omega, fun hx => ?_⟩
      have := hvb b hx
      omega
  have hp1 : ∀ b, (b = w.heap.size ∨ b = w.heap.size + 1) → ¬ (b = M ∨ b = mb ∨ ma = some ⟨b, 0, none⟩) := fun b hb hp => by
    rcases hp with hp | hp | hp
    · omega
    · omega
    · have := f1 b hp; omega
  exact {
    kept := by
      refine (((h.kept.trans hK1 (fun k hk hp => ?_)).trans hA (fun _ _ e => e.elim)).trans hG (fun k hk hp => ?_)).trans hC (fun k hk hp => by omega)
      · rcases hp with hp | hp | hp
        · exact Or.inl hp
        · exact Or.inr (Or.inl hp)
        · rcases h.maor with e | ⟨c, e, hc⟩
          · exact Or.inr (Or.inr (by rw [← e, hp]))
          · rw [hp] at e; have := some_addr e; omega
      · have := hvb k hp; omega
    size := by have := hC.size; omega
    res := (((h.res.kept hK1 (hp1 _ (Or.inl rfl))).kept hA (fun e => e)).kept hG (fun hp => by have := hvb _ hp; omega)).kept hC (by omega)
    x := by
      have h1 := ((h.x.kept hK1 (hp1 _ (Or.inr rfl))).kept hA (fun e => e)).kept hG (fun hp => by have := hvb _ hp; omega)
      simpa using h1.set (s' := .slice (some ⟨gg, 0, none⟩) (vs.length + 1) cc)
    meet := ((hM1.kept hA (fun e => e) (fun e => e) (fun _ _ e => e)).kept hG (fun hp => by have := hvb _ hp; omega) (fun hp => by have := hvb _ hp; omega) (fun b hb hp => (hm1 b hb).2.2.2.2 hp)).kept hC (by omega) (by omega) (fun b hb hp => by have := hm1 b hb; omega)
    maor := by
      rcases hor1 with e | ⟨c, e, hc⟩
      · rw [e]; exact h.maor
      · exact Or.inr ⟨c, e, by omega⟩
    vals := by
      have h1 := hC.owns hown (fun b hb hp => by have := (hown.lt b hb).1; omega)
      simpa [valCells_snoc, GV.four] using h1
    ap := fun b hb hx => by
      have e := some_addr hb
      subst e
      have h2 := hm1 gg hx
      rcases hat with e2 | e2
      · exact h2.2.2.2.2 e2
      · omega }
end

/-- what making a node leaves -/
def NodePost (w : World) (tb : Nat → Nat) (M mb base : Nat) (n : GN) (ord : List Nat) (ma0 : Option Addr) (e : Ending) (w' : World) : Prop :=
  ∃ ma mc va vc, e = .returned (nodeVal ⟨n.tag, renVals ord n.vals⟩ va vc) ∧ Meet w' tb M mb base (renOrds ord n.vals) ma mc ∧ (ma = ma0 ∨ ∃ b, ma = some ⟨b, 0, none⟩ ∧ w.heap.size ≤ b) ∧
    w'.ownsRow w.heap.size 24 4 (.slice va (renVals ord n.vals).length vc) (renVals ord n.vals).length (valCells (renVals ord n.vals)) ∧ (∀ b, va = some ⟨b, 0, none⟩ → ma ≠ some ⟨b, 0, none⟩) ∧ Kept (fun k => k = M ∨ k = mb ∨ ma0 = some ⟨k, 0, none⟩) w w'

set_option maxHeartbeats 1000000 in
set_option maxRecDepth 100000 in
theorem nodeOf_any (N lo : Nat) (tb : Nat → Nat) (M mb base : Nat) (n : GN) (x B : Nat) (xa : Option Addr) (xc : Nat) (ord : List Nat) (ma0 : Option Addr) (mc0 : Nat) (w : World) (hok : okN N n = true) (hinv : InvO N ord) (hN : N ≤ 300) (_hx : x < N)
    (hinj : ∀ i j, i < N → j < N → tb i = tb j → i = j) (hcells : ∀ i, i < N → CellsAt w (tb i) ∧ tb i < lo) (hM : Meet w tb M mb base ord ma0 mc0) (hbase : base ≤ w.heap.size) (hlo : lo ≤ M ∧ lo ≤ mb)
    (ht : Two w (tb x) n.tag (.slice xa n.vals.length xc)) (hr : w.ownsRow B 80 1 (.slice xa n.vals.length xc) n.vals.length (n.vals.map (encV tb))) (hxa : ∀ b, xa = some ⟨b, 0, none⟩ → b < lo) :
    Calls Try.prog 112 #[ptr M, ptr (tb x)] w (NodePost w tb M mb base n ord ma0) := by
  obtain ⟨hvl, hvok⟩ := okN_parts hok
  obtain ⟨j0, hj, hy0, hy1, hy2⟩ := info_parts info_implVal
  obtain ⟨m1, m2, m3⟩ := hM.mlt
  have htl := ht.lt
  have t0 := ht.c0
  have t1 := ht.c1
  have hma0 : ∀ b, ma0 = some ⟨b, 0, none⟩ → base ≤ b ∧ b < w.heap.size := fun b hb => hM.met.lt b (by rw [hb]; rfl)
  go_enter Try.func112, Try.ntmps112
  go_wp2
  have hA : Kept (fun _ => False) w ((w.alloc (.cells #[.int .i64 0, .slice none 0 0] 84)).alloc (.cells #[.int .i64 n.tag, .slice none 0 0] 84)) := ((Kept.refl _ w).alloc _).alloc _
  go_loopw [18] (fun i ws => ∃ (j : Nat) (ord' : List Nat) (ma : Option Addr) (mc : Nat) (va : Option Addr) (vc : Nat) (vs : List GV), Hid (ord' = renOrds ord (n.vals.take j)) ∧ Hid (vs = renVals ord (n.vals.take j)) ∧ Hid (vs.length = j) ∧ j ≤ n.vals.length ∧ i = .int .i64 j ∧ VState w tb M mb base n.tag ma0 ws ord' ma mc va vc vs) (fun i _ => n.vals.length - (intOf i).toNat)
  case atStart =>
    refine ⟨0, ord, ma0, mc0, none, 0, [], rfl, rfl, rfl, Nat.zero_le _, rfl, hA.mono (fun _ _ e => e.elim), by simp, (Two.new_at _ _ _ _ _ rfl).kept ((Kept.refl (fun _ => False) _).alloc _) (fun e => e), Two.new_at _ _ _ _ _ (by simp), hM.kept hA (fun e => e) (fun e => e) (fun _ _ e => e), Or.inl rfl, World.ownsRow_nil _ _ _ _, fun b hb => by cases hb⟩
  case round =>
    obtain ⟨j, ord', ma, mc, va, vc, vs, hord', hvs, hvsl, hjle, rfl, hD⟩ := hrel
    have hz := hD.size
    by_cases hjl : j < n.vals.length
    · obtain ⟨v, hvj⟩ : ∃ v, Hid (v = n.vals[j]!) := ⟨_, rfl⟩
      have hvm : v ∈ n.vals := by rw [hvj.out]; exact mem_at hjl
      have hnp : ∀ b, b < lo → ¬ (b = M ∨ b = mb ∨ ma0 = some ⟨b, 0, none⟩) := fun b hb hp => by
        rcases hp with hp | hp | hp
        · omega
        · omega
        · have := hma0 b hp; omega
      have hcj : (n.vals.map (encV tb))[j]? = some (encV tb v) := by
        rw [List.getElem?_map, List.getElem?_eq_getElem hjl, hvj.out, getElem!_pos n.vals j hjl]; rfl
      obtain ⟨gx, rfl, hgx1, hgx2, hgc⟩ := owns_cell hr hcj
      have hgc2 := hD.kept.cell hgc (hnp gx (hxa gx rfl))
      have hinv' : InvO N ord' := by rw [hord'.out]; exact hinv.rens (fun v hv => hvok v (List.mem_of_mem_take hv))
      have hcells' : ∀ i, i < N → CellsAt wr.drew (tb i) := fun i hi => by
        obtain ⟨⟨c, t, hc⟩, hl⟩ := hcells i hi
        exact ⟨c, t, (hD.kept.block _ (Array.getElem?_eq_some_iff.1 hc).1 (hnp _ hl)).trans hc⟩
      obtain ⟨xz, x0, x1, xf, _⟩ := hD.x
      have hMd : Meet wr.drew tb M mb base ord' ma mc := hD.meet.kept ((Kept.refl (fun _ => False) wr).drew) (fun e => e) (fun e => e) (fun _ _ e => e)
      have hbd : base ≤ wr.drew.heap.size := by show base ≤ wr.heap.size; omega
      obtain ⟨f1, f2⟩ := hD.far hbase (fun b hb => (hma0 b hb).2)
      have hi0 : (0 : Int) ≤ (j : Int) := by omega
      have hi1 : (j : Int) < (n.vals.length : Int) := by omega
      clear hgc t0 t1
      go_wp2
      refine wp_regionU (fun u => u.cell? ⟨w.heap.size + 1, 1, none⟩ = some (.slice va vs.length vc)) 8 (by kernel_rfl) x1 (fun hS0 => ?_)
      refine anyU_take (i := 0) (v := ?_) rfl (by kernel_rfl) (by kernel_rfl) (by kernel_rfl) (by kernel_rfl) (fun _ _ _ h => h) (Or.inl ⟨by rfl, ?_⟩) hS0 ?_
      rotate_left
      · intro u hSu; (try dsimp only at hSu); go_simp <;> with_reducible rfl
      simp only [Act.put, List.getElem_toArray, List.getElem_cons_zero, List.setIfInBounds_toArray, List.set_cons_zero, List.set_cons_succ]
      refine anyU_take (i := 1) (v := ?_) rfl (by kernel_rfl) (by kernel_rfl) (by kernel_rfl) (by kernel_rfl) (fun _ _ _ h => h) (Or.inl ⟨by rfl, ?_⟩) hS0 ?_
      rotate_left
      · intro u hSu; (try dsimp only at hSu); go_simp <;> with_reducible rfl
      simp only [Act.put, List.getElem_toArray, List.getElem_cons_zero, List.getElem_cons_succ, List.setIfInBounds_toArray, List.set_cons_zero, List.set_cons_succ]
      refine anyU_take (i := 2) (v := ?_) rfl (by kernel_rfl) (by kernel_rfl) (by kernel_rfl) (by kernel_rfl) (fun _ _ _ h => h) (Or.inl ⟨by rfl, ?_⟩) hS0 ?_
      rotate_left
      · intro u hSu; (try dsimp only at hSu); go_simp <;> with_reducible rfl
      simp only [Act.put, List.getElem_toArray, List.getElem_cons_zero, List.getElem_cons_succ, List.setIfInBounds_toArray, List.set_cons_zero, List.set_cons_succ]
      refine anyU_take (i := 3) (v := ?_) rfl (by kernel_rfl) (by kernel_rfl) (by kernel_rfl) (by kernel_rfl) (fun _ _ _ h => h) (Or.inl ⟨by rfl, ?_⟩) hS0 ?_
      rotate_left
      · intro u hSu; (try dsimp only at hSu); go_simp <;> with_reducible rfl
      simp only [Act.put, List.getElem_toArray, List.getElem_cons_zero, List.getElem_cons_succ, List.setIfInBounds_toArray, List.set_cons_zero, List.set_cons_succ]
      refine anyU_one (i := 4) (by kernel_rfl) rfl (fun K hK => ?_)
      go_simp
      refine (valOf_any N tb M mb base ord' v ma mc _ (hvok v hvm) hinv' hN hinj hcells' hMd hbd).mono ?_
      rintro e w1 ⟨ma1, mc1, rfl, hM1, hor1, hK1⟩
      have hKw : Kept (fun k => k = M ∨ k = mb ∨ ma = some ⟨k, 0, none⟩) wr w1 := ((Kept.refl (fun k => k = M ∨ k = mb ∨ ma = some ⟨k, 0, none⟩) wr).drew).trans hK1 (fun _ _ e => e)
      have hN1 : ¬ (w.heap.size + 1 = M ∨ w.heap.size + 1 = mb ∨ ma = some ⟨w.heap.size + 1, 0, none⟩) := fun hp => by
        rcases hp with hp | hp | hp
        · omega
        · omega
        · have := f1 _ hp; omega
      have hS1 := hKw.cell x1 hN1
      have hX1 : Two w1 (w.heap.size + 1) n.tag (.slice va vs.length vc) := hD.x.kept hKw hN1
      have hv1 : Hid _ := hKw.owns hD.vals (fun b hb hp => by
        have h8 := f2 b (owns_addr hD.vals hb)
        rcases hp with hp | hp | hp
        · omega
        · omega
        · exact hD.ap b (owns_addr hD.vals hb) hp)
      refine hK.out _ _ hS1 ?_
      clear hK
      have hsw := hKw.size
      have hS2 : (w1.alloc (.cells #[.int .i64 (renVal ord' v).kind, .int .i64 (renVal ord' v).num, .string (renVal ord' v).text, .int .i64 (renVal ord' v).node] 24)).cell? ⟨w.heap.size + 1, 1, none⟩ = some (.slice va vs.length vc) := ((Kept.refl (fun _ => False) w1).alloc _).cell hS1 (fun e => e)
      have hS2' : Hid _ := hS2
      clear hS2
      refine anyU_one (i := 5) (by kernel_rfl) rfl (fun K hK => ?_)
      go_simp
      refine hK.out _ _ hS2'.out ?_
      clear hK
      refine anyU_one (i := 6) (by kernel_rfl) rfl (fun K hK => ?_)
      refine step_append_lies _ (by rfl) (.tmp 23) (.tmp 27) 82 rfl (w.heap.size + 1 + 1) 24 j0 _ 4 40 Try.underlying82 hj hy0 hy1 hy2 rfl (by decide) (.slice va vs.length vc) vs.length (valCells vs) (by rfl) (World.ownsRow.alloc hv1.out _) ⟨w1.heap.size, 0, none⟩ 1 1 (renVal ord' v).four (by rfl) rfl (World.news_of_block (cs := #[.int .i64 (renVal ord' v).kind, .int .i64 (renVal ord' v).num, .string (renVal ord' v).text, .int .i64 (renVal ord' v).node]) (t := 24) (fr := (0, 0)) (blk_new_at _ _ _ rfl)) (by simp [GV.four, Value.oneCell']) (by decide) (by have h7 := hvsl.out; unfold maxLen; omega) (by have h7 := hvsl.out; omega) (by simp; omega) (w1.heap.size + 1) (by simp) ?_
      intro gg cc w3 hown3 hgrow3 hat3 hlt3
      have hX3 := (hX1.kept ((Kept.refl (fun _ => False) w1).alloc _) (fun e => e)).kept (Kept.of_grown hgrow3) (fun hp => by have h8 := f2 _ (owns_addr hD.vals hp); omega)
      obtain ⟨yz, y0, y1, yf, _⟩ := id hX3
      refine hK.out _ _ y1 ?_
      clear hK
      simp only [Act.put, List.getElem_toArray, List.getElem_cons_zero, List.getElem_cons_succ, List.setIfInBounds_toArray, List.set_cons_zero, List.set_cons_succ]
      refine anyU_one (i := 7) (by kernel_rfl) rfl (fun K hK => ?_)
      go_simp
      refine hK.out _ _ y1 ?_
      clear hK
      refine anyU_last (by kernel_rfl) rfl (by kernel_rfl) (fun K hK => ?_)
      go_simp
      refine hK.out _ _ ?_
      clear hK
      have hfin := hD.step hbase ⟨m1, m2⟩ (fun b hb => (hma0 b hb).2) hM1 (hor1.imp id (fun ⟨b, e, h⟩ => ⟨b, e, h⟩)) hKw hown3 hgrow3 hat3
      have hs1 : Hid (renOrds ord (n.vals.take (j + 1)) = renOrd ord' v) := by rw [renOrds_take_succ _ _ _ hjl, ← hvj.out, ← hord'.out]; rfl
      have hs2 : Hid (renVals ord (n.vals.take (j + 1)) = vs ++ [renVal ord' v]) := by rw [renVals_take_succ _ _ _ hjl, ← hvj.out, ← hord'.out, ← hvs.out]; rfl
      go_wp2
      go_roundw
      case rel => exact ⟨j + 1, renOrd ord' v, ma1, mc1, some ⟨gg, 0, none⟩, cc, vs ++ [renVal ord' v], hs1.out.symm, hs2.out.symm, by have := hvsl.out; show (vs ++ [renVal ord' v]).length = j + 1; simp [this], by omega, by go_num, hfin⟩
      case measure => simp [intOf]; omega
    · have e : j = n.vals.length := by omega
      have hvs2 : Hid (renVals ord n.vals = vs) := by have h8 := hvs.out; rw [e, List.take_length] at h8; exact h8.symm
      have hord2 : Hid (renOrds ord n.vals = ord') := by have h8 := hord'.out; rw [e, List.take_length] at h8; exact h8.symm
      obtain ⟨f1, f2⟩ := hD.far hbase (fun b hb => (hma0 b hb).2)
      obtain ⟨xz, x0, x1, xf, _⟩ := hD.x
      obtain ⟨rz, r0, r1, rf, _⟩ := hD.res
      have hC : Kept (fun k => k = w.heap.size) wr ((wr.setCell ⟨w.heap.size, 0, none⟩ (.int .i64 n.tag)).setCell ⟨w.heap.size, 1, none⟩ (.slice va vs.length vc)) := ((Kept.refl (fun k => k = w.heap.size) wr).set (fun _ => rfl) _).set (fun _ => rfl) _
      have hkept := hD.kept.trans hC (fun k hk hp => by omega)
      have hmeet := hD.meet.kept hC (by omega) (by omega) (fun b hb hp => by have := f1 b hb; omega)
      have hvals := hC.owns (owns_le hD.vals (show w.heap.size ≤ w.heap.size + 1 + 1 by omega)) (fun b hb hp => by have := f2 b (owns_addr hD.vals hb); omega)
      have hmaor := hD.maor
      have hap := hD.ap
      clear t0 t1 e
      go_wp2
      refine bodyPost_ret (v := .agg #[.int .i64 n.tag, .slice va vs.length vc]) (by simp [results, Try.results112, go_sem, r0, r1]) rfl ⟨ma, mc, va, vc, by rw [hvs2.out], by rw [hord2.out]; exact hmeet, ?_, by rw [hvs2.out]; exact hvals, hap, hkept⟩
      rcases hmaor with e | ⟨c, e, hc⟩
      · exact Or.inl e
      · exact Or.inr ⟨c, e, by omega⟩

end Go.Proofs.Ythjddpkegooobaa
