/-
  FORMOF: the program's one form, from a root on. Own work.
-/
import Derived.Test.YthjddpkegooobaaFormOfA
namespace Go.Proofs.Ythjddpkegooobaa
open Go.RowKit

/-- what the one form leaves -/
def FormPost (g : GG) (w : World) (e : Ending) (w' : World) : Prop :=
  ∃ (na : Option Addr) (nc : Nat) (nl : List NL), e = .returned ((canon g).val na nc) ∧ nl.map (·.n) = (canon g).nodes ∧ OwnG w' w.heap.size na nc nl ∧ Below w.heap.size w w'

set_option maxRecDepth 100000 in
/-- the empty meeting -/
theorem Meet.new (w0 : World) (tb : Nat → Nat) (t' : TypeId) (M mb base : Nat) (hM : M = w0.heap.size) (hm : PMap w0 mb []) (hb : M < base ∧ mb < base ∧ M ≠ mb) :
    Meet (w0.alloc (.cells #[.map (some mb), .slice none 0 0] t')) tb M mb base [] none 0 := by
  subst hM
  exact ⟨by simp, by simp, by simp, fun o => by simp, hm.kept ((Kept.refl (fun _ => False) w0).alloc _) (fun e => e), World.ownsRow_nil _ _ _ _, hb⟩
set_option maxRecDepth 100000 in
theorem PMap.new (w : World) (mb : Nat) (hb : mb = w.heap.size) : PMap (w.alloc (.map #[] 0)) mb [] :=
  ⟨#[], 0, blk_new_at _ _ _ hb, rfl, fun _i hi => absurd hi (Nat.not_lt_zero _)⟩

set_option maxHeartbeats 1000000 in
set_option maxRecDepth 100000 in
theorem formOf_any (g : GG) (tb : Nat → Nat) (B : Nat) (xa : Nat → Option Addr) (xc : Nat → Nat) (w : World) (hok : okG g = true)
    (hinj : ∀ i j, i < g.nodes.length → j < g.nodes.length → tb i = tb j → i = j)
    (hcells : ∀ i, i < g.nodes.length → CellsAt w (tb i) ∧ tb i < w.heap.size)
    (hcell : ∀ i, i < g.nodes.length → Two w (tb i) g.nodes[i]!.tag (.slice (xa i) g.nodes[i]!.vals.length (xc i)))
    (hvals : ∀ i, i < g.nodes.length → w.ownsRow B 80 1 (.slice (xa i) g.nodes[i]!.vals.length (xc i)) g.nodes[i]!.vals.length (g.nodes[i]!.vals.map (encV tb))) :
    Calls Try.prog 55 #[encV tb g.root] w (FormPost g w) := by
  obtain ⟨hn, hr, hns⟩ := okG_parts hok
  obtain ⟨j0, hj, hy0, hy1, hy2⟩ := info_parts info_implNode
  have hmm := @run_makeMap Try.prog
  have hM0 := Meet.new ((w.alloc (.cells #[.int .i64 0, .int .i64 0, .string ⟨#[]⟩, .int .i64 0, .slice none 0 0] 27)).alloc (.map #[] 0)) tb 136 (w.heap.size + 1 + 1) (w.heap.size + 1) (w.heap.size + 1 + 1 + 1) (by simp) (PMap.new _ _ (by simp)) ⟨by omega, by omega, by omega⟩
  have hA : Kept (fun _ => False) w (((w.alloc (.cells #[.int .i64 0, .int .i64 0, .string ⟨#[]⟩, .int .i64 0, .slice none 0 0] 27)).alloc (.map #[] 0)).alloc (.cells #[.map (some (w.heap.size + 1)), .slice none 0 0] 136)) := (((Kept.refl _ w).alloc _).alloc _).alloc _
  have hR0 : Five (((w.alloc (.cells #[.int .i64 0, .int .i64 0, .string ⟨#[]⟩, .int .i64 0, .slice none 0 0] 27)).alloc (.map #[] 0)).alloc (.cells #[.map (some (w.heap.size + 1)), .slice none 0 0] 136)) w.heap.size ⟨0, 0, ⟨#[]⟩, 0⟩ (.slice none 0 0) := (Five.new_at w ⟨0, 0, ⟨#[]⟩, 0⟩ _ _ _ rfl).kept (((Kept.refl (fun _ => False) _).alloc _).alloc _) (fun e => e)
  have hcells0 : ∀ i, i < g.nodes.length → CellsAt (((w.alloc (.cells #[.int .i64 0, .int .i64 0, .string ⟨#[]⟩, .int .i64 0, .slice none 0 0] 27)).alloc (.map #[] 0)).alloc (.cells #[.map (some (w.heap.size + 1)), .slice none 0 0] 136)) (tb i) := fun i hi => by
    obtain ⟨⟨c, t, hc⟩, hl⟩ := hcells i hi
    exact ⟨c, t, (hA.block _ hl (fun e => e)).trans hc⟩
  go_enter Try.func55, Try.ntmps55
  go_wp2_with (go_at_call 111; refine (valOf_any g.nodes.length tb (w.heap.size + 1 + 1) (w.heap.size + 1) (w.heap.size + 1 + 1 + 1) [] g.root none 0 _ hr (InvO.nil _) hn hinj hcells0 hM0 (by simp)).mono ?_; rintro e w1 ⟨ma1, mc1, rfl, hM1, hor1, hK1⟩; have hR1 := hR0.kept hK1 (fun hp => by rcases hp with hp | hp | hp <;> first | omega | cases hp); have hA1 := hA.trans hK1 (fun k hk hp => by rcases hp with hp | hp | hp <;> first | omega | cases hp))
  have hbw : w.heap.size + 1 + 1 + 1 ≤ w1.heap.size := by have := hK1.size; simpa using this
  have hst : FState w tb (w.heap.size + 1 + 1) (w.heap.size + 1) (w.heap.size + 1 + 1 + 1) w1.heap.size (renVal [] g.root) (w1.alloc (.cells #[.int .i64 (renVal [] g.root).kind, .int .i64 (renVal [] g.root).num, .string (renVal [] g.root).text, .int .i64 (renVal [] g.root).node, .slice none 0 0] 27)) (renOrd [] g.root) ma1 mc1 none 0 [] := {
    low := (hA1.below (Nat.le_refl _) (fun _ _ e => e)).alloc (by omega) _
    blk := ⟨by omega, hbw, by simp, by omega, by omega, by omega, by omega⟩
    res := hR1.kept ((Kept.refl (fun _ => False) _).alloc _) (fun e => e)
    out := Five.new_at _ _ _ _ _ rfl
    meet := hM1.kept ((Kept.refl (fun _ => False) _).alloc _) (fun e => e) (fun e => e) (fun _ _ e => e)
    own := ⟨World.ownsRow_nil _ _ _ _, fun x hx => (by cases hx), fun x hx => (by cases hx), fun i j _ hj => absurd hj (Nat.not_lt_zero _)⟩
    apm := fun b hb => by cases hb
    apvm := fun x hx => by cases hx
    notG := ⟨fun b hb => (by cases hb), far_of_lt fun b hb => (by have := (hM1.met.lt b (by rw [hb]; rfl)).2; omega), fun x hx => by cases hx⟩ }
  go_loopw [5] (fun i ws => ∃ (k : Nat) (ord : List Nat) (ma : Option Addr) (mc : Nat) (na : Option Addr) (nc : Nat) (nl : List NL), Hid (ord = canonO g.nodes (renOrd [] g.root) k) ∧ Hid (nl.map (·.n) = canonN g.nodes (renOrd [] g.root) k) ∧ Hid (nl.length = k) ∧ k ≤ ord.length ∧ i = .int .i64 k ∧ FState w tb (w.heap.size + 1 + 1) (w.heap.size + 1) (w.heap.size + 1 + 1 + 1) w1.heap.size (renVal [] g.root) ws ord ma mc na nc nl) (fun i _ => g.nodes.length - (intOf i).toNat)
  case atStart =>
    exact ⟨0, renOrd [] g.root, ma1, mc1, none, 0, [], by unfold canonO; rfl, by unfold canonN; rfl, rfl, Nat.zero_le _, rfl, hst⟩
  case round =>
    obtain ⟨k, ord, ma, mc, na, nc, nl, hord, hnl, hnll, hkle, rfl, hD⟩ := hrel
    have hinv : InvO g.nodes.length ord := by rw [hord.out]; exact canonO_inv ((InvO.nil _).ren hr) hns k
    have hole := hinv.le
    obtain ⟨mz, m0, m1, mf, mmap, mmet, mmlt⟩ := hD.meet
    obtain ⟨b1, b2, b3, b4, b5, b6, b7⟩ := hD.blk
    by_cases hkl : k < ord.length
    · obtain ⟨x, hx⟩ : ∃ x, Hid (x = ord[k]!) := ⟨_, rfl⟩
      have hxn : x < g.nodes.length := by rw [hx.out]; exact hinv.2 _ (mem_at hkl)
      obtain ⟨n, hnx⟩ : ∃ n, Hid (n = g.nodes[x]!) := ⟨_, rfl⟩
      have hnok : okN g.nodes.length n = true := by rw [hnx.out]; exact hns _ (mem_at hxn)
      have hck : (ord.map fun x => ptr (tb x))[k]? = some (ptr (tb x)) := by
        rw [List.getElem?_map, List.getElem?_eq_getElem hkl, hx.out, getElem!_pos ord k hkl]; rfl
      obtain ⟨gm, rfl, hgm1, hgm2, hgc⟩ := owns_cell mmet hck
      have hKd : Kept (fun _ => False) w wr.drew := (Kept.of_below hD.low (fun _ => False)).drew
      have hMd : Meet wr.drew tb (w.heap.size + 1 + 1) (w.heap.size + 1) (w.heap.size + 1 + 1 + 1) ord (some ⟨gm, 0, none⟩) mc := hD.meet.kept ((Kept.refl (fun _ => False) wr).drew) (fun e => e) (fun e => e) (fun _ _ e => e)
      have hcells' : ∀ i, i < g.nodes.length → CellsAt wr.drew (tb i) ∧ tb i < w.heap.size := fun i hi => by
        obtain ⟨⟨c, t, hc⟩, hl⟩ := hcells i hi
        exact ⟨⟨c, t, (hKd.block _ hl (fun e => e)).trans hc⟩, hl⟩
      have ht : Two wr.drew (tb x) n.tag (.slice (xa x) n.vals.length (xc x)) := by rw [hnx.out]; exact (hcell x hxn).kept hKd (fun e => e)
      have hv : wr.drew.ownsRow B 80 1 (.slice (xa x) n.vals.length (xc x)) n.vals.length (n.vals.map (encV tb)) := by rw [hnx.out]; exact hKd.owns (hvals x hxn) (fun _ _ e => e)
      have hxal : ∀ b, xa x = some ⟨b, 0, none⟩ → b < w.heap.size := fun b hb => ((hvals x hxn).lt b (by rw [hb]; rfl)).2
      have hbd : w.heap.size + 1 + 1 + 1 ≤ wr.drew.heap.size := by show _ ≤ wr.heap.size; omega
      have hcall := nodeOf_any g.nodes.length w.heap.size tb (w.heap.size + 1 + 1) (w.heap.size + 1) (w.heap.size + 1 + 1 + 1) n x B (xa x) (xc x) ord (some ⟨gm, 0, none⟩) mc wr.drew hnok hinv hn hxn hinj hcells' hMd hbd ⟨by omega, by omega⟩ ht hv hxal
      obtain ⟨oz, o0, o1, o2, o3, o4, of⟩ := hD.out
      have hi0 : (0 : Int) ≤ (k : Int) := by omega
      have hi1 : (k : Int) < (ord.length : Int) := by omega
      have hcall' : Hid _ := hcall
      have hgc' : wr.drew.cell? ⟨gm, k, none⟩ = some (ptr (tb x)) := hgc
      clear hcall
      go_wp2
      refine wp_regionU (fun u => u.cell? ⟨w1.heap.size, 4, none⟩ = some (.slice na nl.length nc)) 11 (by kernel_rfl) o4 (fun hS0 => ?_)
      refine anyU_take (i := 0) (v := ?_) rfl (by kernel_rfl) (by kernel_rfl) (by kernel_rfl) (by kernel_rfl) (fun _ _ _ h => h) (Or.inl ⟨by rfl, ?_⟩) hS0 ?_
      rotate_left
      · intro u hSu; (try dsimp only at hSu); go_simp <;> with_reducible rfl
      simp only [Act.put, List.getElem_toArray, List.getElem_cons_zero, List.setIfInBounds_toArray, List.set_cons_zero, List.set_cons_succ]
      refine anyU_take (i := 2) (v := ?_) rfl (by kernel_rfl) (by kernel_rfl) (by kernel_rfl) (by kernel_rfl) (fun _ _ _ h => h) (Or.inl ⟨by rfl, ?_⟩) hS0 ?_
      rotate_left
      · intro u hSu; (try dsimp only at hSu); go_simp <;> with_reducible rfl
      simp only [Act.put, List.getElem_toArray, List.getElem_cons_zero, List.getElem_cons_succ, List.setIfInBounds_toArray, List.set_cons_zero, List.set_cons_succ]
      refine anyU_take (i := 4) (v := ?_) rfl (by kernel_rfl) (by kernel_rfl) (by kernel_rfl) (by kernel_rfl) (fun _ _ _ h => h) (Or.inl ⟨by rfl, ?_⟩) hS0 ?_
      rotate_left
      · intro u hSu; (try dsimp only at hSu); go_simp <;> with_reducible rfl
      simp only [Act.put, List.getElem_toArray, List.getElem_cons_zero, List.getElem_cons_succ, List.setIfInBounds_toArray, List.set_cons_zero, List.set_cons_succ]
      refine anyU_take (i := 1) (v := ?_) rfl (by kernel_rfl) (by kernel_rfl) (by kernel_rfl) (by kernel_rfl) (fun _ _ _ h => h) (Or.inl ⟨by rfl, ?_⟩) hS0 ?_
      rotate_left
      · intro u hSu; (try dsimp only at hSu); go_simp <;> with_reducible rfl
      simp only [Act.put, List.getElem_toArray, List.getElem_cons_zero, List.getElem_cons_succ, List.setIfInBounds_toArray, List.set_cons_zero, List.set_cons_succ]
      refine anyU_one (i := 3) (by kernel_rfl) rfl (fun K hK => ?_)
      go_simp
      refine hK.out _ _ hS0 ?_
      clear hK
      refine anyU_one (i := 5) (by kernel_rfl) rfl (fun K hK => ?_)
      go_simp
      refine hK.out _ _ hS0 ?_
      clear hK
      refine anyU_one (i := 6) (by kernel_rfl) rfl (fun K hK => ?_)
      go_simp
      refine hK.out _ _ hS0 ?_
      clear hK
      refine anyU_one (i := 7) (by kernel_rfl) rfl (fun K hK => ?_)
      go_simp
      refine Calls.mono hcall'.out ?_
      rintro e w2 ⟨ma2, mc2, va, vc, rfl, hM2, hor2, hv2, hap2, hK2⟩
      have hvl2 := renVals_length ord n.vals
      obtain ⟨vs, hvs⟩ : ∃ vs, Hid (vs = renVals ord n.vals) := ⟨_, rfl⟩
      rw [← hvs.out] at hv2
      simp only [nodeVal]
      rw [← hvs.out]
      have hKw : Kept (fun k => k = w.heap.size + 1 + 1 ∨ k = w.heap.size + 1 ∨ some ⟨gm, 0, none⟩ = some (⟨k, 0, none⟩ : Addr)) wr w2 := ((Kept.refl (fun k => k = w.heap.size + 1 + 1 ∨ k = w.heap.size + 1 ∨ some ⟨gm, 0, none⟩ = some (⟨k, 0, none⟩ : Addr)) wr).drew).trans hK2 (fun _ _ e => e)
      have hng := hD.notG
      have hnG : ¬ (w1.heap.size = w.heap.size + 1 + 1 ∨ w1.heap.size = w.heap.size + 1 ∨ some ⟨gm, 0, none⟩ = some (⟨w1.heap.size, 0, none⟩ : Addr)) := fun hp => by
        rcases hp with hp | hp | hp
        · omega
        · omega
        · exact hng.2.1.ne hp rfl
      have hO2 : Five w2 w1.heap.size (renVal [] g.root) (.slice na nl.length nc) := hD.out.kept hKw hnG
      have hS1 := hO2.c4
      have hn2 : Hid _ := hKw.owns hD.own.nodes (fun b hb hp => by
        have h8 := hD.own.nodes.lt b hb
        rcases hp with hp | hp | hp
        · omega
        · omega
        · exact hD.apm b (owns_addr hD.own.nodes hb) hp)
      have hb2 : w.heap.size + 1 + 1 + 1 ≤ w2.heap.size := by have := hKw.size; omega
      have hS2 : (w2.alloc (.cells #[.int .i64 n.tag, .slice va vs.length vc] 84)).cell? ⟨w1.heap.size, 4, none⟩ = some (.slice na nl.length nc) := ((Kept.refl (fun _ => False) w2).alloc _).cell hS1 (fun e => e)
      have hS2' : Hid _ := hS2
      clear hS2
      refine hK.out _ _ hS1 ?_
      clear hK
      refine anyU_one (i := 8) (by kernel_rfl) rfl (fun K hK => ?_)
      go_simp
      refine hK.out _ _ hS2'.out ?_
      clear hK
      refine anyU_one (i := 9) (by kernel_rfl) rfl (fun K hK => ?_)
      refine step_append_lies _ (by rfl) (.tmp 19) (.tmp 26) 25 rfl (w.heap.size + 1 + 1 + 1) 84 j0 _ 2 32 Try.underlying25 hj hy0 hy1 hy2 rfl (by decide) (.slice na nl.length nc) nl.length (nodeCells nl) (by rfl) (World.ownsRow.alloc hn2.out _) ⟨w2.heap.size, 0, none⟩ 1 1 [.int .i64 n.tag, .slice va vs.length vc] (by rfl) rfl (World.news_of_block (cs := #[.int .i64 n.tag, .slice va vs.length vc]) (t := 84) (fr := (0, 0)) (blk_new_at _ _ _ rfl)) (by simp [Value.oneCell']) (by decide) (by have h7 := hnll.out; unfold maxLen; omega) (by have h7 := hnll.out; omega) (by simp; omega) (w2.heap.size + 1) (by simp) ?_
      intro gg cc w3 hown3 hgrow3 hat3 hlt3
      have hX3 := (hO2.kept ((Kept.refl (fun _ => False) w2).alloc _) (fun e => e)).kept (Kept.of_grown hgrow3) (fun hp => hng.1.ne (owns_addr hD.own.nodes hp) rfl)
      obtain ⟨yz, y0, y1, y2, y3, y4, yf⟩ := id hX3
      refine hK.out _ _ y4 ?_
      clear hK
      simp only [Act.put, List.getElem_toArray, List.getElem_cons_zero, List.getElem_cons_succ, List.setIfInBounds_toArray, List.set_cons_zero, List.set_cons_succ]
      refine anyU_one (i := 10) (by kernel_rfl) rfl (fun K hK => ?_)
      go_simp
      refine hK.out _ _ y4 ?_
      clear hK
      refine anyU_last (by kernel_rfl) rfl (by kernel_rfl) (fun K hK => ?_)
      go_simp
      refine hK.out _ _ ?_
      clear hK
      have hfin := hD.next (n := ⟨n.tag, vs⟩) hM2 hor2 hv2 hap2 hKw hown3 hgrow3 hat3
      have hs1 : Hid (canonO g.nodes (renOrd [] g.root) (k + 1) = renOrds ord n.vals) := by show canonO _ _ _ = _; rw [canonO_succ, ← hord.out, if_pos hkl, ← hx.out, ← hnx.out]
      have hs2 : Hid (canonN g.nodes (renOrd [] g.root) (k + 1) = (nl ++ [(⟨⟨n.tag, vs⟩, va, vc⟩ : NL)]).map (·.n)) := by show canonN _ _ _ = _; rw [canonN_succ, ← hord.out, if_pos hkl, ← hx.out, ← hnx.out, ← hnl.out, hvs.out]; simp
      have hle := renOrds_le ord n.vals
      go_wp2
      go_roundw
      case rel => exact ⟨k + 1, renOrds ord n.vals, ma2, mc2, some ⟨gg, 0, none⟩, cc, nl ++ [(⟨⟨n.tag, vs⟩, va, vc⟩ : NL)], hs1.out.symm, hs2.out.symm, by have := hnll.out; show (nl ++ [(⟨⟨n.tag, vs⟩, va, vc⟩ : NL)]).length = k + 1; simp [this], by omega, by go_num, hfin⟩
      case measure => simp [intOf]; omega
    · have hce : Hid (canon g = ⟨renVal [] g.root, nl.map (·.n)⟩) := by show canon g = _; rw [canon_at (k := k) (by omega) (by rw [← hord.out]; omega), hnl.out]
      obtain ⟨oz, o0, o1, o2, o3, o4, of⟩ := hD.out
      obtain ⟨rz, r0, r1, r2, r3, r4, rf⟩ := hD.res
      have hC : Kept (fun b => b = w.heap.size) wr (((((wr.setCell ⟨w.heap.size, 0, none⟩ (.int .i64 (renVal [] g.root).kind)).setCell ⟨w.heap.size, 1, none⟩ (.int .i64 (renVal [] g.root).num)).setCell ⟨w.heap.size, 2, none⟩ (.string (renVal [] g.root).text)).setCell ⟨w.heap.size, 3, none⟩ (.int .i64 (renVal [] g.root).node)).setCell ⟨w.heap.size, 4, none⟩ (.slice na nl.length nc)) := (((((Kept.refl (fun b => b = w.heap.size) wr).set (fun _ => rfl) _).set (fun _ => rfl) _).set (fun _ => rfl) _).set (fun _ => rfl) _).set (fun _ => rfl) _
      have hown := (hD.own.kept hC (fun b hb hp => by have := hD.own.nodes.lt b (by rw [hb]; rfl); omega) (fun x hx b hb hp => by have := (hD.own.vals x hx).lt b (by rw [hb]; rfl); omega)).le (show w.heap.size ≤ w.heap.size + 1 + 1 + 1 by omega)
      have hlow := hD.low.trans (hC.below hD.low.size (fun k hk hp => by omega))
      clear hM0 hA hR0 hcells0 hK1 hA1 hR1
      go_wp2
      refine bodyPost_ret (v := .agg #[.int .i64 (renVal [] g.root).kind, .int .i64 (renVal [] g.root).num, .string (renVal [] g.root).text, .int .i64 (renVal [] g.root).node, .slice na nl.length nc]) (by simp [results, Try.results55, go_sem, r0, r1, r2, r3, r4]) rfl ⟨na, nc, nl, by rw [hce.out]; simp [GG.val], by rw [hce.out], hown, hlow⟩

end Go.Proofs.Ythjddpkegooobaa
