import Derived.Test.YtmdpmdmilgbfiaaGreatDoorPartJ
import Derived.Test.YtmdpmdmilgbfiaaGreatDoorPartR

namespace Go.Proofs.YtmdpmdmilgbfiaaGreatDoor
open Go.RowKit

def FormPost (g : GG) (w : World) (e : Ending) (w' : World) : Prop :=
  ∃ (na : Option Addr) (nc : Nat) (nl : List NL), e = .returned ((canon g).val na nc) ∧ nl.map (·.n) = (canon g).nodes ∧ OwnG w' w.heap.size na nc nl ∧ Below w.heap.size w w'

set_option maxRecDepth 100000 in
theorem Meet.new (w0 : World) (tb : Nat → Nat) (t' : TypeId) (M mb base : Nat) (hM : M = w0.heap.size) (hm : PMap w0 mb []) (hb : M < base ∧ mb < base ∧ M ≠ mb) :
    Meet (w0.alloc (.cells #[.map (some mb), .slice none 0 0] t')) tb M mb base [] none 0 := by
  subst hM
  exact ⟨by simp, by simp, by simp, fun o => by simp, hm.kept ((Kept.refl (fun _ => False) w0).alloc _) (fun e => e), World.ownsRow_nil _ _ _ _, hb⟩
set_option maxRecDepth 100000 in
theorem PMap.new (w : World) (mb : Nat) (hb : mb = w.heap.size) : PMap (w.alloc (.map #[] 0)) mb [] :=
  ⟨#[], 0, blk_new_at _ _ _ hb, rfl, fun _i hi => absurd hi (Nat.not_lt_zero _)⟩

set_option maxHeartbeats 1000000 in
set_option maxRecDepth 100000 in
theorem formOf_any (g : GG) (tb : Nat → Nat) (B : Nat) (xa : Nat → Option Addr) (xc : Nat → Nat) (w : World) (hok : okG g = true)
    (hinj : ∀ i j, i < g.nodes.length → j < g.nodes.length → tb i = tb j → i = j)
    (hcells : ∀ i, i < g.nodes.length → CellsAt w (tb i) ∧ tb i < w.heap.size)
    (hcell : ∀ i, i < g.nodes.length → Two w (tb i) g.nodes[i]!.tag (.slice (xa i) g.nodes[i]!.vals.length (xc i)))
    (hvals : ∀ i, i < g.nodes.length → w.ownsRow B 150 1 (.slice (xa i) g.nodes[i]!.vals.length (xc i)) g.nodes[i]!.vals.length (g.nodes[i]!.vals.map (encV tb))) :
    Calls Tryz.prog 84 #[encV tb g.root] w (FormPost g w) := by
  obtain ⟨hn, hr, hns⟩ := okG_parts hok
  obtain ⟨j0, hj, hy0, hy1, hy2⟩ := info_parts info_implNode
  have hmm := @run_makeMap Tryz.prog
  have hM0 := Meet.new ((w.alloc (.cells #[.int .i64 0, .int .i64 0, .string ⟨#[]⟩, .int .i64 0, .slice none 0 0] 32)).alloc (.map #[] 0)) tb 197 (w.heap.size + 1 + 1) (w.heap.size + 1) (w.heap.size + 1 + 1 + 1) (by simp) (PMap.new _ _ (by simp)) ⟨by omega, by omega, by omega⟩
  have hA : Kept (fun _ => False) w (((w.alloc (.cells #[.int .i64 0, .int .i64 0, .string ⟨#[]⟩, .int .i64 0, .slice none 0 0] 32)).alloc (.map #[] 0)).alloc (.cells #[.map (some (w.heap.size + 1)), .slice none 0 0] 197)) := (((Kept.refl _ w).alloc _).alloc _).alloc _
  have hR0 : Five (((w.alloc (.cells #[.int .i64 0, .int .i64 0, .string ⟨#[]⟩, .int .i64 0, .slice none 0 0] 32)).alloc (.map #[] 0)).alloc (.cells #[.map (some (w.heap.size + 1)), .slice none 0 0] 197)) w.heap.size ⟨0, 0, ⟨#[]⟩, 0⟩ (.slice none 0 0) := (Five.new_at w ⟨0, 0, ⟨#[]⟩, 0⟩ _ _ _ rfl).kept (((Kept.refl (fun _ => False) _).alloc _).alloc _) (fun e => e)
  have hcells0 : ∀ i, i < g.nodes.length → CellsAt (((w.alloc (.cells #[.int .i64 0, .int .i64 0, .string ⟨#[]⟩, .int .i64 0, .slice none 0 0] 32)).alloc (.map #[] 0)).alloc (.cells #[.map (some (w.heap.size + 1)), .slice none 0 0] 197)) (tb i) := fun i hi => by
    obtain ⟨⟨c, t, hc⟩, hl⟩ := hcells i hi
    exact ⟨c, t, (hA.block _ hl (fun e => e)).trans hc⟩
  go_enter Tryz.func84, Tryz.ntmps84
  go_wp2_with (go_at_call 126; refine (valOf_any g.nodes.length tb (w.heap.size + 1 + 1) (w.heap.size + 1) (w.heap.size + 1 + 1 + 1) [] g.root none 0 _ hr (InvO.nil _) hn hinj hcells0 hM0 (by simp)).mono ?_; rintro e w1 ⟨ma1, mc1, rfl, hM1, hor1, hK1⟩; have hR1 := hR0.kept hK1 (fun hp => by rcases hp with hp | hp | hp <;> first | omega | cases hp); have hA1 := hA.trans hK1 (fun k hk hp => by rcases hp with hp | hp | hp <;> first | omega | cases hp))
  have hbw : w.heap.size + 1 + 1 + 1 ≤ w1.heap.size := by have := hK1.size; simpa using this
  have hst : FState w tb (w.heap.size + 1 + 1) (w.heap.size + 1) (w.heap.size + 1 + 1 + 1) w1.heap.size (renVal [] g.root) (w1.alloc (.cells #[.int .i64 (renVal [] g.root).kind, .int .i64 (renVal [] g.root).num, .string (renVal [] g.root).text, .int .i64 (renVal [] g.root).node, .slice none 0 0] 32)) (renOrd [] g.root) ma1 mc1 none 0 [] := {
    low := (hA1.below (Nat.le_refl _) (fun _ _ e => e)).alloc (by omega) _
    blk := ⟨by omega, hbw, by simp, by omega, by omega, by omega, by omega⟩
    res := hR1.kept ((Kept.refl (fun _ => False) _).alloc _) (fun e => e)
    out := Five.new_at _ _ _ _ _ rfl
    meet := hM1.kept ((Kept.refl (fun _ => False) _).alloc _) (fun e => e) (fun e => e) (fun _ _ e => e)
    own := ⟨World.ownsRow_nil _ _ _ _, fun x hx => (by cases hx), fun x hx => (by cases hx), fun i j _ hj => absurd hj (Nat.not_lt_zero _)⟩
    apm := fun b hb => by cases hb
    apvm := fun x hx => by cases hx
    notG := ⟨fun b hb => (by cases hb), far_of_lt fun b hb => (by have := (hM1.met.lt b (by rw [hb]; rfl)).2; omega), fun x hx => by cases hx⟩ }
  go_loopw [5] (fun i ws => ∃ (k : Nat) (ord : List Nat) (ma : Option Addr) (mc : Nat) (na : Option Addr) (nc : Nat) (nl : List NL), Hid (ord = canonO g.nodes (renOrd [] g.root) k) ∧ Hid (nl.map (·.n) = canonN g.nodes (renOrd [] g.root) k) ∧ Hid (nl.length = k) ∧ k ≤ ord.length ∧ i = .int .i64 k ∧ FState w tb (w.heap.size + 1 + 1) (w.heap.size + 1) (w.heap.size + 1 + 1 + 1) w1.heap.size (renVal [] g.root) ws ord ma mc na nc nl) (fun i _ => g.nodes.length - (intOf i).toNat)
  case atStart =>
    exact ⟨0, renOrd [] g.root, ma1, mc1, none, 0, [], by unfold canonO; rfl, by unfold canonN; rfl, rfl, Nat.zero_le _, rfl, hst⟩
  case round =>
    obtain ⟨k, ord, ma, mc, na, nc, nl, hord, hnl, hnll, hkle, rfl, hD⟩ := hrel
    have hinv : InvO g.nodes.length ord := by rw [hord.out]; exact canonO_inv ((InvO.nil _).ren hr) hns k
    have hole := hinv.le
    obtain ⟨mz, m0, m1, mf, mmap, mmet, mmlt⟩ := hD.meet
    obtain ⟨b1, b2, b3, b4, b5, b6, b7⟩ := hD.blk
    by_cases hkl : k < ord.length
    · obtain ⟨x, hx⟩ : ∃ x, Hid (x = ord[k]!) := ⟨_, rfl⟩
      have hxn : x < g.nodes.length := by rw [hx.out]; exact hinv.2 _ (mem_at hkl)
      obtain ⟨n, hnx⟩ : ∃ n, Hid (n = g.nodes[x]!) := ⟨_, rfl⟩
      have hnok : okN g.nodes.length n = true := by rw [hnx.out]; exact hns _ (mem_at hxn)
      have hck : (ord.map fun x => ptr (tb x))[k]? = some (ptr (tb x)) := by
        rw [List.getElem?_map, List.getElem?_eq_getElem hkl, hx.out, getElem!_pos ord k hkl]; rfl
      obtain ⟨gm, rfl, hgm1, hgm2, hgc⟩ := owns_cell mmet hck
      have hKd : Kept (fun _ => False) w wr.drew := (Kept.of_below hD.low (fun _ => False)).drew
      have hMd : Meet wr.drew tb (w.heap.size + 1 + 1) (w.heap.size + 1) (w.heap.size + 1 + 1 + 1) ord (some ⟨gm, 0, none⟩) mc := hD.meet.kept ((Kept.refl (fun _ => False) wr).drew) (fun e => e) (fun e => e) (fun _ _ e => e)
      have hcells' : ∀ i, i < g.nodes.length → CellsAt wr.drew (tb i) ∧ tb i < w.heap.size := fun i hi => by
        obtain ⟨⟨c, t, hc⟩, hl⟩ := hcells i hi
        exact ⟨⟨c, t, (hKd.block _ hl (fun e => e)).trans hc⟩, hl⟩
      have ht : Two wr.drew (tb x) n.tag (.slice (xa x) n.vals.length (xc x)) := by rw [hnx.out]; exact (hcell x hxn).kept hKd (fun e => e)
      have hv : wr.drew.ownsRow B 150 1 (.slice (xa x) n.vals.length (xc x)) n.vals.length (n.vals.map (encV tb)) := by rw [hnx.out]; exact hKd.owns (hvals x hxn) (fun _ _ e => e)
      have hxal : ∀ b, xa x = some ⟨b, 0, none⟩ → b < w.heap.size := fun b hb => ((hvals x hxn).lt b (by rw [hb]; rfl)).2
      have hbd : w.heap.size + 1 + 1 + 1 ≤ wr.drew.heap.size := by show _ ≤ wr.heap.size; omega
      have hcall := nodeOf_any g.nodes.length w.heap.size tb (w.heap.size + 1 + 1) (w.heap.size + 1) (w.heap.size + 1 + 1 + 1) n x B (xa x) (xc x) ord (some ⟨gm, 0, none⟩) mc wr.drew hnok hinv hn hxn hinj hcells' hMd hbd ⟨by omega, by omega⟩ ht hv hxal
      obtain ⟨oz, o0, o1, o2, o3, o4, of⟩ := hD.out
      have hi0 : (0 : Int) ≤ (k : Int) := by omega
      have hi1 : (k : Int) < (ord.length : Int) := by omega
      have hcall' : Hid _ := hcall
      have hgc' : wr.drew.cell? ⟨gm, k, none⟩ = some (ptr (tb x)) := hgc
      clear hcall
      go_wp2
      refine wp_regionU (fun u => u.cell? ⟨w1.heap.size, 4, none⟩ = some (.slice na nl.length nc)) 11 (by kernel_rfl) o4 (fun hS0 => ?_)
      refine anyU_take (i := 0) (v := ?_) rfl (by kernel_rfl) (by kernel_rfl) (by kernel_rfl) (by kernel_rfl) (fun _ _ _ h => h) (Or.inl ⟨by rfl, ?_⟩) hS0 ?_
      rotate_left
      · intro u hSu; (try dsimp only at hSu); go_simp <;> with_reducible rfl
      simp only [Act.put, List.getElem_toArray, List.getElem_cons_zero, List.setIfInBounds_toArray, List.set_cons_zero, List.set_cons_succ]
      refine anyU_take (i := 2) (v := ?_) rfl (by kernel_rfl) (by kernel_rfl) (by kernel_rfl) (by kernel_rfl) (fun _ _ _ h => h) (Or.inl ⟨by rfl, ?_⟩) hS0 ?_
      rotate_left
      · intro u hSu; (try dsimp only at hSu); go_simp <;> with_reducible rfl
      simp only [Act.put, List.getElem_toArray, List.getElem_cons_zero, List.getElem_cons_succ, List.setIfInBounds_toArray, List.set_cons_zero, List.set_cons_succ]
      refine anyU_take (i := 4) (v := ?_) rfl (by kernel_rfl) (by kernel_rfl) (by kernel_rfl) (by kernel_rfl) (fun _ _ _ h => h) (Or.inl ⟨by rfl, ?_⟩) hS0 ?_
      rotate_left
      · intro u hSu; (try dsimp only at hSu); go_simp <;> with_reducible rfl
      simp only [Act.put, List.getElem_toArray, List.getElem_cons_zero, List.getElem_cons_succ, List.setIfInBounds_toArray, List.set_cons_zero, List.set_cons_succ]
      refine anyU_take (i := 1) (v := ?_) rfl (by kernel_rfl) (by kernel_rfl) (by kernel_rfl) (by kernel_rfl) (fun _ _ _ h => h) (Or.inl ⟨by rfl, ?_⟩) hS0 ?_
      rotate_left
      · intro u hSu; (try dsimp only at hSu); go_simp <;> with_reducible rfl
      simp only [Act.put, List.getElem_toArray, List.getElem_cons_zero, List.getElem_cons_succ, List.setIfInBounds_toArray, List.set_cons_zero, List.set_cons_succ]
      refine anyU_one (i := 3) (by kernel_rfl) rfl (fun K hK => ?_)
      go_simp
      refine hK.out _ _ hS0 ?_
      clear hK
      refine anyU_one (i := 5) (by kernel_rfl) rfl (fun K hK => ?_)
      go_simp
      refine hK.out _ _ hS0 ?_
      clear hK
      refine anyU_one (i := 6) (by kernel_rfl) rfl (fun K hK => ?_)
      go_simp
      refine hK.out _ _ hS0 ?_
      clear hK
      refine anyU_one (i := 7) (by kernel_rfl) rfl (fun K hK => ?_)
      go_simp
      refine Calls.mono hcall'.out ?_
      rintro e w2 ⟨ma2, mc2, va, vc, rfl, hM2, hor2, hv2, hap2, hK2⟩
      have hvl2 := renVals_length ord n.vals
      obtain ⟨vs, hvs⟩ : ∃ vs, Hid (vs = renVals ord n.vals) := ⟨_, rfl⟩
      rw [← hvs.out] at hv2
      simp only [nodeVal]
      rw [← hvs.out]
      have hKw : Kept (fun k => k = w.heap.size + 1 + 1 ∨ k = w.heap.size + 1 ∨ some ⟨gm, 0, none⟩ = some (⟨k, 0, none⟩ : Addr)) wr w2 := ((Kept.refl (fun k => k = w.heap.size + 1 + 1 ∨ k = w.heap.size + 1 ∨ some ⟨gm, 0, none⟩ = some (⟨k, 0, none⟩ : Addr)) wr).drew).trans hK2 (fun _ _ e => e)
      have hng := hD.notG
      have hnG : ¬ (w1.heap.size = w.heap.size + 1 + 1 ∨ w1.heap.size = w.heap.size + 1 ∨ some ⟨gm, 0, none⟩ = some (⟨w1.heap.size, 0, none⟩ : Addr)) := fun hp => by
        rcases hp with hp | hp | hp
        · omega
        · omega
        · exact hng.2.1.ne hp rfl
      have hO2 : Five w2 w1.heap.size (renVal [] g.root) (.slice na nl.length nc) := hD.out.kept hKw hnG
      have hS1 := hO2.c4
      have hn2 : Hid _ := hKw.owns hD.own.nodes (fun b hb hp => by
        have h8 := hD.own.nodes.lt b hb
        rcases hp with hp | hp | hp
        · omega
        · omega
        · exact hD.apm b (owns_addr hD.own.nodes hb) hp)
      have hb2 : w.heap.size + 1 + 1 + 1 ≤ w2.heap.size := by have := hKw.size; omega
      have hS2 : (w2.alloc (.cells #[.int .i64 n.tag, .slice va vs.length vc] 37)).cell? ⟨w1.heap.size, 4, none⟩ = some (.slice na nl.length nc) := ((Kept.refl (fun _ => False) w2).alloc _).cell hS1 (fun e => e)
      have hS2' : Hid _ := hS2
      clear hS2
      refine hK.out _ _ hS1 ?_
      clear hK
      refine anyU_one (i := 8) (by kernel_rfl) rfl (fun K hK => ?_)
      go_simp
      refine hK.out _ _ hS2'.out ?_
      clear hK
      refine anyU_one (i := 9) (by kernel_rfl) rfl (fun K hK => ?_)
      refine step_append_lies _ (by rfl) (.tmp 19) (.tmp 26) 30 rfl (w.heap.size + 1 + 1 + 1) 37 j0 _ 2 32 Tryz.underlying30 hj hy0 hy1 hy2 rfl (by decide) (.slice na nl.length nc) nl.length (nodeCells nl) (by rfl) (World.ownsRow.alloc hn2.out _) ⟨w2.heap.size, 0, none⟩ 1 1 [.int .i64 n.tag, .slice va vs.length vc] (by rfl) rfl (World.news_of_block (cs := #[.int .i64 n.tag, .slice va vs.length vc]) (t := 37) (fr := (0, 0)) (blk_new_at _ _ _ rfl)) (by simp [Value.oneCell']) (by decide) (by have h7 := hnll.out; unfold maxLen; omega) (by have h7 := hnll.out; omega) (by simp; omega) (w2.heap.size + 1) (by simp) ?_
      intro gg cc w3 hown3 hgrow3 hat3 hlt3
      have hX3 := (hO2.kept ((Kept.refl (fun _ => False) w2).alloc _) (fun e => e)).kept (Kept.of_grown hgrow3) (fun hp => hng.1.ne (owns_addr hD.own.nodes hp) rfl)
      obtain ⟨yz, y0, y1, y2, y3, y4, yf⟩ := id hX3
      refine hK.out _ _ y4 ?_
      clear hK
      simp only [Act.put, List.getElem_toArray, List.getElem_cons_zero, List.getElem_cons_succ, List.setIfInBounds_toArray, List.set_cons_zero, List.set_cons_succ]
      refine anyU_one (i := 10) (by kernel_rfl) rfl (fun K hK => ?_)
      go_simp
      refine hK.out _ _ y4 ?_
      clear hK
      refine anyU_last (by kernel_rfl) rfl (by kernel_rfl) (fun K hK => ?_)
      go_simp
      refine hK.out _ _ ?_
      clear hK
      have hfin := hD.next (n := ⟨n.tag, vs⟩) hM2 hor2 hv2 hap2 hKw hown3 hgrow3 hat3
      have hs1 : Hid (canonO g.nodes (renOrd [] g.root) (k + 1) = renOrds ord n.vals) := by show canonO _ _ _ = _; rw [canonO_succ, ← hord.out, if_pos hkl, ← hx.out, ← hnx.out]
      have hs2 : Hid (canonN g.nodes (renOrd [] g.root) (k + 1) = (nl ++ [(⟨⟨n.tag, vs⟩, va, vc⟩ : NL)]).map (·.n)) := by show canonN _ _ _ = _; rw [canonN_succ, ← hord.out, if_pos hkl, ← hx.out, ← hnx.out, ← hnl.out, hvs.out]; simp
      have hle := renOrds_le ord n.vals
      go_wp2
      go_roundw
      case rel => exact ⟨k + 1, renOrds ord n.vals, ma2, mc2, some ⟨gg, 0, none⟩, cc, nl ++ [(⟨⟨n.tag, vs⟩, va, vc⟩ : NL)], hs1.out.symm, hs2.out.symm, by have := hnll.out; show (nl ++ [(⟨⟨n.tag, vs⟩, va, vc⟩ : NL)]).length = k + 1; simp [this], by omega, by go_num, hfin⟩
      case measure => simp [intOf]; omega
    · have hce : Hid (canon g = ⟨renVal [] g.root, nl.map (·.n)⟩) := by show canon g = _; rw [canon_at (k := k) (by omega) (by rw [← hord.out]; omega), hnl.out]
      obtain ⟨oz, o0, o1, o2, o3, o4, of⟩ := hD.out
      obtain ⟨rz, r0, r1, r2, r3, r4, rf⟩ := hD.res
      have hC : Kept (fun b => b = w.heap.size) wr (((((wr.setCell ⟨w.heap.size, 0, none⟩ (.int .i64 (renVal [] g.root).kind)).setCell ⟨w.heap.size, 1, none⟩ (.int .i64 (renVal [] g.root).num)).setCell ⟨w.heap.size, 2, none⟩ (.string (renVal [] g.root).text)).setCell ⟨w.heap.size, 3, none⟩ (.int .i64 (renVal [] g.root).node)).setCell ⟨w.heap.size, 4, none⟩ (.slice na nl.length nc)) := (((((Kept.refl (fun b => b = w.heap.size) wr).set (fun _ => rfl) _).set (fun _ => rfl) _).set (fun _ => rfl) _).set (fun _ => rfl) _).set (fun _ => rfl) _
      have hown := (hD.own.kept hC (fun b hb hp => by have := hD.own.nodes.lt b (by rw [hb]; rfl); omega) (fun x hx b hb hp => by have := (hD.own.vals x hx).lt b (by rw [hb]; rfl); omega)).le (show w.heap.size ≤ w.heap.size + 1 + 1 + 1 by omega)
      have hlow := hD.low.trans (hC.below hD.low.size (fun k hk hp => by omega))
      clear hM0 hA hR0 hcells0 hK1 hA1 hR1
      go_wp2
      refine bodyPost_ret (v := .agg #[.int .i64 (renVal [] g.root).kind, .int .i64 (renVal [] g.root).num, .string (renVal [] g.root).text, .int .i64 (renVal [] g.root).node, .slice na nl.length nc]) (by simp [results, Tryz.results84, go_sem, r0, r1, r2, r3, r4]) rfl ⟨na, nc, nl, by rw [hce.out]; simp [GG.val], by rw [hce.out], hown, hlow⟩

end Go.Proofs.YtmdpmdmilgbfiaaGreatDoor

namespace Go.Proofs.YtmdpmdmilgbfiaaGreatDoor
open Go.RowKit

def canonZ (g : GG) : GG := if okG g = true then canon g else ⟨⟨0, 0, ⟨#[]⟩, 0⟩, []⟩

def CanonIPost (g : GG) (w : World) (e : Ending) (w' : World) : Prop :=
  ∃ (na : Option Addr) (nc : Nat) (nl : List NL), e = .returned ((canonZ g).val na nc) ∧ nl.map (·.n) = (canonZ g).nodes ∧ OwnG w' w.heap.size na nc nl ∧ Below w.heap.size w w'

set_option maxRecDepth 100000 in
theorem L2.cells {g : GG} {a : Option Addr} {cap : Nat} {w : World} {B : Nat} {tb : Nat → Nat} {ws : World} {m : Nat → Nat} {xa : Nat → Option Addr} {xc : Nat → Nat} (h : L2 g a cap w B tb ws m xa xc) {i : Nat} (hi : i < g.nodes.length) : CellsAt ws (tb i) ∧ tb i < ws.heap.size := ⟨(h.cell i hi).z, (h.cell i hi).lt⟩
theorem L2.all {g : GG} {a : Option Addr} {cap : Nat} {w : World} {B : Nat} {tb : Nat → Nat} {ws : World} {xa : Nat → Option Addr} {xc : Nat → Nat} (h : L2 g a cap w B tb ws (fun i => g.nodes[i]!.vals.length) xa xc) {i : Nat} (hi : i < g.nodes.length) : ws.ownsRow B 150 1 (.slice (xa i) g.nodes[i]!.vals.length (xc i)) g.nodes[i]!.vals.length (g.nodes[i]!.vals.map (encV tb)) := by
  have h1 := h.vals i hi
  rwa [List.take_length] at h1

set_option maxRecDepth 100000 in
theorem implCanon_any (a : Option Addr) (cap : Nat) (g : GG) (w : World) (hg : g.Ok) (ha : NodesAt w.heap.size w a g.nodes) :
    Calls Tryz.prog 44 #[g.val a cap] w (CanonIPost g w) := by
  have hR0 := Five.new_at (w.alloc (.cells #[.int .i64 g.root.kind, .int .i64 g.root.num, .string g.root.text, .int .i64 g.root.node, .slice a g.nodes.length cap] 32)) ⟨0, 0, ⟨#[]⟩, 0⟩ (.slice none 0 0) 32 (w.heap.size + 1) (by simp)
  have hX0 := (GBox.new w g a cap 32).grow (gal (gre _) (.cells #[.int .i64 0, .int .i64 0, .string ⟨#[]⟩, .int .i64 0, .slice none 0 0] 32))
  cases hok : okG g with
  | false =>
    have hz : Hid (canonZ g = ⟨⟨0, 0, ⟨#[]⟩, 0⟩, []⟩) := if_neg (by rw [hok]; exact Bool.false_ne_true)
    have hok' : Hid _ := hok
    go_enter Tryz.func44, Tryz.ntmps44
    go_wp2_with (go_at_call 42; refine (implGraphOk_any a cap g _ hg (ha.grow (gal (gal (gre _) _) _))).mono ?_; rintro e w1 ⟨rfl, hb1⟩; obtain ⟨rz, r0, r1, r2, r3, r4, rf⟩ := hR0.kept (Kept.of_below hb1 (fun _ => False)) (fun e => e); rw [hok'.out])
    refine bodyPost_ret (v := .agg #[.int .i64 0, .int .i64 0, .string ⟨#[]⟩, .int .i64 0, .slice none 0 0]) (by simp [results, Tryz.results44, go_sem, r0, r1, r2, r3, r4]) rfl ⟨none, 0, [], by rw [hz.out]; rfl, by rw [hz.out]; rfl, ⟨World.ownsRow_nil _ _ _ _, fun x hx => (by cases hx), fun x hx => (by cases hx), fun i j _ hj => absurd hj (Nat.not_lt_zero _)⟩, ?_⟩
    have hb2 := gca (gal (gal (gre w) _) _) hb1
    exact ((((hb2.setCell (by simp) _).setCell (by simp) _).setCell (by simp) _).setCell (by simp) _).setCell (by simp) _
  | true =>
    have hz : Hid (canonZ g = canon g) := if_pos hok
    have hok' : Hid _ := hok
    go_enter Tryz.func44, Tryz.ntmps44
    go_wp2_with (first
      | (go_at_call 42; refine (implGraphOk_any a cap g _ hg (ha.grow (gal (gal (gre _) _) _))).mono ?_; rintro e w1 ⟨rfl, hb1⟩; obtain ⟨xz, x0, x1, x2, x3, x4⟩ := hX0.grow hb1; rw [hok'.out])
      | (go_at_call 85; refine (linked_any a cap g _ hok'.out (ha.grow (gca (gal (gal (gre _) _) _) hb1))).mono ?_; rintro e w2 ⟨B, tb, xa, xc, rfl, hL⟩)
      | (go_at_call 84; refine (formOf_any g tb B xa xc _ hok'.out hL.inj (fun i hi => L2.cells hL hi) hL.cell (fun i hi => L2.all hL hi)).mono ?_; rintro e w3 ⟨na, nc, nl, rfl, hnl, hown, hb3⟩; have hR3 := hR0.kept (Kept.of_below (gca (gca hb1 hL.low) hb3) (fun _ => False)) (fun e => e); obtain ⟨rz, r0, r1, r2, r3, r4, rf⟩ := id hR3))
    have hw2 : w.heap.size + 1 + 1 ≤ w2.heap.size := by have h1 := hb1.size; have h2 := hL.low.size; simp at h1; omega
    have hC : Kept (fun b => b = w.heap.size + 1) w3 (((((w3.setCell ⟨w.heap.size + 1, 0, none⟩ (.int .i64 (canon g).root.kind)).setCell ⟨w.heap.size + 1, 1, none⟩ (.int .i64 (canon g).root.num)).setCell ⟨w.heap.size + 1, 2, none⟩ (.string (canon g).root.text)).setCell ⟨w.heap.size + 1, 3, none⟩ (.int .i64 (canon g).root.node)).setCell ⟨w.heap.size + 1, 4, none⟩ (.slice na (canon g).nodes.length nc)) := (((((Kept.refl (fun b => b = w.heap.size + 1) w3).set (fun _ => rfl) _).set (fun _ => rfl) _).set (fun _ => rfl) _).set (fun _ => rfl) _).set (fun _ => rfl) _
    have hown' := (hown.kept hC (fun b hb hp => by have := hown.nodes.lt b (by rw [hb]; rfl); omega) (fun x hx b hb hp => by have := (hown.vals x hx).lt b (by rw [hb]; rfl); omega)).le (show w.heap.size ≤ w2.heap.size by omega)
    have hb4 := gca (gca (gca (gal (gal (gre w) _) _) hb1) hL.low) hb3
    refine bodyPost_ret (v := (canon g).val na nc) (by simp [results, Tryz.results44, go_sem, r0, r1, r2, r3, r4]) rfl ⟨na, nc, nl, by rw [hz.out], by rw [hz.out]; exact hnl, hown', hb4.trans (hC.below hb4.size (fun k hk hp => by omega))⟩

end Go.Proofs.YtmdpmdmilgbfiaaGreatDoor

namespace Go.Proofs.YtmdpmdmilgbfiaaGreatDoor
open Go.RowKit

set_option maxRecDepth 100000 in
theorem okN_tag {n : Nat} {x : GN} (h : okN n x = true) : 0 ≤ x.tag ∧ x.tag ≤ 1000 := by
  unfold okN at h
  simp only [Bool.and_eq_true, decide_eq_true_eq, List.all_eq_true] at h
  exact ⟨h.1.1, h.1.2.1⟩
set_option maxRecDepth 100000 in
theorem wrap_nat {n : Nat} (h : n < 18446744073709551616) : IntKind.u64.wrap (n : Int) = (n : Int) := by rw [IntKind.wrap_u64]; omega

def gheadB (g : GG) : List Nat := [72, 49] ++ (numB g.nodes.length ++ valB g.root)
set_option maxRecDepth 100000 in
theorem graphB_head (g : GG) : graphB g = gheadB g ++ nodesB g.nodes := by simp [graphB, gheadB]

theorem OwnG.get {w : World} {base : Nat} {na : Option Addr} {nc : Nat} {nl : List NL} (h : OwnG w base na nc nl) {k : Nat} (hk : k < nl.length) :
    ∃ x G, Hid (x = nl[k]!) ∧ x ∈ nl ∧ na = some ⟨G, 0, none⟩ ∧ w.cell? ⟨G, k * 2, none⟩ = some (.int .i64 x.n.tag) ∧ w.cell? ⟨G, k * 2 + 1, none⟩ = some (.slice x.a x.n.vals.length x.cap) := by
  have hg : ∀ j, j < 2 → (nodeCells nl)[k * 2 + j]? = (nl[k]!.two)[j]? := fun j hj => flatMap_get NL.two_length nl k j hk hj
  obtain ⟨G, ha, _, _, c0⟩ := owns_cell h.nodes (hg 0 (by decide))
  obtain ⟨G1, ha1, _, _, c1⟩ := owns_cell h.nodes (hg 1 (by decide))
  rw [ha] at ha1
  obtain rfl := some_addr ha1
  exact ⟨nl[k]!, G, rfl, mem_at hk, ha, c0, c1⟩

set_option maxRecDepth 100000 in
theorem map_get {nl : List NL} {ns : List GN} (h : nl.map (·.n) = ns) {k : Nat} (hk : k < nl.length) : ns[k]! = (nl[k]!).n := by
  subst h
  rw [getElem!_pos _ k (by simpa using hk), getElem!_pos nl k hk]
  simp

set_option maxRecDepth 100000 in
theorem writeGraph_any (b a : Nat) (xs : List Nat) (g : GG) (na : Option Addr) (nc base : Nat) (nl : List NL) (w : World) (hW : Wr w b a xs) (hg : g.Ok) (hok : okG g = true) (hnl : Hid (nl.map (·.n) = g.nodes)) (hO : ∀ w', Kept (fun k => k = b ∨ k = a) w w' → OwnG w' base na nc nl) :
    Calls Tryz.prog 43 #[.pointer (some ⟨b, 0, none⟩), g.val na nc] w (WPost b a xs (graphB g) w) := by
  obtain ⟨hl300, hroot, hnodes⟩ := okG_parts hok
  have hF := Five.new_at w g.root (.slice na g.nodes.length nc) 32 w.heap.size rfl
  have hlt := hW.cur.lt
  have hla := hW.row.lt
  have hlen : nl.length = g.nodes.length := by rw [← hnl.out, List.length_map]
  have hgl : Hid (graphB g = gheadB g ++ nodesB g.nodes) := graphB_head g
  have hbH : bsOf ⟨#[72, 49]⟩ = [72, 49] := rfl
  have e6 := wrap_nat (n := g.nodes.length) (by omega)
  go_enter Tryz.func43, Tryz.ntmps43
  go_wp2_with (first
    | (go_at_call 81; refine (writeText_any b a xs ⟨#[72, 49]⟩ _ (hW.grow (gal (gre _) _)) (by decide)).mono ?_; rintro e w1 ⟨hK1, h1⟩; have hF1 := hF.kept hK1 (by omega); obtain ⟨fz, f0, f1, f2, f3, f4, ff⟩ := id hF1; rw [hbH] at h1; obtain ⟨hf, rfl, hW1⟩ | ⟨hno, rfl⟩ := h1)
    | (go_at_call 82; refine (writeNumber_any b a _ g.nodes.length _ _ hW1 ?_ (by omega)).mono ?_; (first | rfl | exact e6); rintro e w2 ⟨hK2, h2⟩; have hF2 := hF1.kept hK2 (by omega); obtain ⟨gz, g0, g1, g2, g3, g4, gf⟩ := id hF2; obtain ⟨hf2, rfl, hW2⟩ | ⟨hno2, rfl⟩ := h2)
    | (go_at_call 83; refine (writeVal_any b a g.nodes.length _ g.root _ hW2 hl300 hg.root hroot).mono ?_; rintro e w3 ⟨hK3, h3⟩; have hF3 := hF2.kept hK3 (by omega); obtain ⟨iz, i0, i1, i2, i3, i4, if_⟩ := id hF3; obtain ⟨hf3, rfl, hW3⟩ | ⟨hno3, rfl⟩ := h3))
  · have hK30 : Kept (fun k => k = b ∨ k = a) w w3 := kt (kt (kt ((Kept.refl _ w).alloc _) hK1) hK2) hK3
    have hW3' : Wr w3 b a (xs ++ gheadB g) := by
      have e : xs ++ [72, 49] ++ numB g.nodes.length ++ valB g.root = xs ++ gheadB g := by unfold gheadB; simp only [List.append_assoc]
      rw [← e]; exact hW3
    clear hF hF1 hF2 hF3 fz f0 f1 f2 f3 f4 ff gz g0 g1 g2 g3 g4 gf iz i0 i1 i2 i3 i4 if_ hW1 hW2 hW3 hf hf2 hf3 hK1 hK2 hK3
    go_loopw [23] (fun i ws => ∃ (k : Nat), i = .int .i64 k ∧ k ≤ g.nodes.length ∧ Wr ws b a (xs ++ gheadB g ++ nodesB (g.nodes.take k)) ∧ Kept (fun k => k = b ∨ k = a) w ws) (fun i _ => g.nodes.length - (intOf i).toNat)
    case atStart => exact ⟨0, rfl, Nat.zero_le _, by rw [List.take_zero, nodesB, List.append_nil]; exact hW3', hK30⟩
    case round =>
      obtain ⟨k, rfl, hk, hWk, hKk⟩ := hrel
      by_cases hkl : k < g.nodes.length
      · have hOk := hO wr hKk
        obtain ⟨⟨xn, xa, xc⟩, G, hx, hxm, rfl, c0, c1⟩ := hOk.get (k := k) (by omega)
        dsimp only at c0 c1
        have hxn : Hid (g.nodes[k]! = xn) := by show _ = _; rw [map_get hnl.out (by omega), ← hx.out]
        have hxok : okN g.nodes.length xn = true := by rw [← hxn.out]; exact hnodes _ (mem_at hkl)
        have hxg : xn.Ok := by rw [← hxn.out]; exact hg.nodes _ (mem_at hkl)
        obtain ⟨hvl, hvok⟩ := okN_parts hxok
        obtain ⟨ht0, ht1⟩ := okN_tag hxok
        obtain ⟨tg, htg⟩ : ∃ tg : Nat, xn.tag = (tg : Int) := ⟨xn.tag.toNat, by omega⟩
        have hnb : Hid (nodesB (g.nodes.take (k + 1)) = nodesB (g.nodes.take k) ++ (numB tg ++ (numB xn.vals.length ++ valsB xn.vals))) := by
          show _ = _
          rw [nodesB_take_succ _ _ hkl, hxn.out, nodeB, htg]; rfl
        have hnle : (nodesB (g.nodes.take (k + 1))).length ≤ (nodesB g.nodes).length := nodesB_take_le _ _
        rw [hnb.out] at hnle
        simp only [List.length_append] at hnle
        have hgl2 : (graphB g).length = (gheadB g).length + (nodesB g.nodes).length := by rw [hgl.out, List.length_append]
        rw [htg] at c0
        have hT := Two.new_at wr tg (.slice xa xn.vals.length xc) 37 wr.heap.size rfl
        have e7 := wrap_nat (n := tg) (by omega)
        have e8 := wrap_nat (n := xn.vals.length) (by omega)
        have hwb : b ≠ wr.heap.size := by have := hWk.cur.lt; omega
        have hwa : a ≠ wr.heap.size := by have := hWk.row.lt; omega
        have hnp : ¬ (wr.heap.size = b ∨ wr.heap.size = a) := by omega
        go_wp2_with (first
          | (go_at_call 82; refine (writeNumber_any b a _ xn.vals.length _ _ hW4 ?_ (by omega)).mono ?_; (first | rfl | exact e8); rintro e w5 ⟨hK5, h5⟩; obtain ⟨uz, u0, u1, uf, _⟩ := hT4.kept hK5 hnp; obtain ⟨hf5, rfl, hW5⟩ | ⟨hno5, rfl⟩ := h5)
          | (go_at_call 82; refine (writeNumber_any b a _ tg _ _ (hWk.grow (gal (gre _) _)) ?_ (by omega)).mono ?_; (first | rfl | exact e7); rintro e w4 ⟨hK4, h4⟩; have hT4 := hT.kept hK4 hnp; obtain ⟨tz, t0, t1, tf, _⟩ := id hT4; obtain ⟨hf4, rfl, hW4⟩ | ⟨hno4, rfl⟩ := h4))
        · have hK50 : Kept (fun k => k = b ∨ k = a) w w5 := kt (kt (hKk.alloc _) hK4) hK5
          clear hT hT4 tz t0 t1 tf uz u0 u1 uf hK4 hK5 hW4 hf4 hf5
          go_loopw [41] (fun i ws => ∃ (m : Nat), i = .int .i64 m ∧ m ≤ xn.vals.length ∧ Wr ws b a (xs ++ gheadB g ++ nodesB (g.nodes.take k) ++ numB tg ++ numB xn.vals.length ++ valsB (xn.vals.take m)) ∧ Kept (fun k => k = b ∨ k = a) w ws) (fun i _ => xn.vals.length - (intOf i).toNat)
          case atStart => exact ⟨0, rfl, Nat.zero_le _, by rw [List.take_zero, valsB, List.append_nil]; exact hW5, hK50⟩
          case round =>
            obtain ⟨m, rfl, hm, hWm, hKm⟩ := hrel
            by_cases hml : m < xn.vals.length
            · have hOm := hO wr hKm
              have hva := owns_vals (hOm.vals _ hxm) (Nat.le_refl _)
              obtain ⟨v, bv, ov, hvk, hvm, rfl, hbv, hvc⟩ := hva.get hml
              obtain ⟨d0, d1, d2, d3⟩ := hvc
              have hvb : Hid (valsB (xn.vals.take (m + 1)) = valsB (xn.vals.take m) ++ valB v) := by show _ = _; rw [valsB_take_succ _ _ hml, ← hvk.out]
              have hvle : (valsB (xn.vals.take (m + 1))).length ≤ (valsB xn.vals).length := valsB_take_le _ _
              rw [hvb.out, List.length_append] at hvle
              go_wp2_with (go_at_call 83; refine (writeVal_any b a g.nodes.length _ v _ (hWm.grow (gal (gre _) _)) hl300 (hxg.vals v hvm) (hvok v hvm)).mono ?_; rintro e w6 ⟨hK6, h6⟩; obtain ⟨hf6, rfl, hW6⟩ | ⟨hno6, rfl⟩ := h6)
              · go_roundw
                case rel => exact ⟨m + 1, by go_num, by omega, by rw [hvb.out, ← List.append_assoc]; exact hW6, kt (hKm.alloc _) hK6⟩
                case measure => simp [intOf]; omega
              · refine ⟨rfl, WPost.no (kt (hKm.alloc _) hK6) ?_⟩
                simp at hno6; omega
            · obtain rfl : m = xn.vals.length := by omega
              go_wp2
              go_roundw
              case rel =>
                refine ⟨k + 1, by go_num, by omega, ?_, hKm⟩
                rw [List.take_length] at hWm
                rw [hnb.out]
                simp only [← List.append_assoc]
                exact hWm
              case measure => simp [intOf]; omega
        · refine ⟨rfl, WPost.no (kt (kt (hKk.alloc _) hK4) hK5) ?_⟩
          simp at hno5; omega
        · refine ⟨rfl, WPost.no (kt (hKk.alloc _) hK4) ?_⟩
          simp at hno4; omega
      · obtain rfl : k = g.nodes.length := by omega
        go_wp2
        go_end0
        refine WPost.ok hKk ?_
        rw [List.take_length, List.append_assoc, ← hgl.out] at hWk
        exact hWk
  · refine ⟨rfl, WPost.no (kt (kt (kt ((Kept.refl _ w).alloc _) hK1) hK2) hK3) ?_⟩
    rw [hgl.out]; simp [gheadB] at hno3 ⊢; omega
  · refine ⟨rfl, WPost.no (kt (kt ((Kept.refl _ w).alloc _) hK1) hK2) ?_⟩
    rw [hgl.out]; simp [gheadB] at hno2 ⊢; omega
  · refine ⟨rfl, WPost.no (kt ((Kept.refl _ w).alloc _) hK1) ?_⟩
    rw [hgl.out]; simp [gheadB] at hno ⊢; omega

end Go.Proofs.YtmdpmdmilgbfiaaGreatDoor
