import Derived.Deep.Cut
import Derived.Test.YthjddpkegooobaaPartRoF

/-
  FORMOF: the program's one form, from a root on. Own work.
-/
namespace Go.Proofs.Ythjddpkegooobaa
open Go.RowKit

/-- what the one form leaves -/
def FormPost (g : GG) (w : World) (e : Ending) (w' : World) : Prop :=
  ∃ (na : Option Addr) (nc : Nat) (nl : List NL), e = .returned ((canon g).val na nc) ∧ nl.map (·.n) = (canon g).nodes ∧ OwnG w' w.heap.size na nc nl ∧ Below w.heap.size w w'

set_option maxRecDepth 100000 in
/-- the empty meeting -/
theorem Meet.new (w0 : World) (tb : Nat → Nat) (t' : TypeId) (M mb base : Nat) (hM : M = w0.heap.size) (hm : PMap w0 mb []) (hb : M < base ∧ mb < base ∧ M ≠ mb) :
    Meet (w0.alloc (.cells #[.map (some mb), .slice none 0 0] t')) tb M mb base [] none 0 := by
  subst hM
  exact ⟨by simp, by simp, by simp, fun o => by simp, hm.kept ((Kept.refl (fun _ => False) w0).alloc _) (fun e => e), World.ownsRow_nil _ _ _ _, hb⟩
set_option maxRecDepth 100000 in
theorem PMap.new (w : World) (mb : Nat) (hb : mb = w.heap.size) : PMap (w.alloc (.map #[] 0)) mb [] :=
  ⟨#[], 0, blk_new_at _ _ _ hb, rfl, fun _i hi => absurd hi (Nat.not_lt_zero _)⟩

set_option maxHeartbeats 1000000 in
set_option maxRecDepth 100000 in
theorem formOf_any (g : GG) (tb : Nat → Nat) (B : Nat) (xa : Nat → Option Addr) (xc : Nat → Nat) (w : World) (hok : okG g = true)
    (hinj : ∀ i j, i < g.nodes.length → j < g.nodes.length → tb i = tb j → i = j)
    (hcells : ∀ i, i < g.nodes.length → CellsAt w (tb i) ∧ tb i < w.heap.size)
    (hcell : ∀ i, i < g.nodes.length → Two w (tb i) g.nodes[i]!.tag (.slice (xa i) g.nodes[i]!.vals.length (xc i)))
    (hvals : ∀ i, i < g.nodes.length → w.ownsRow B 80 1 (.slice (xa i) g.nodes[i]!.vals.length (xc i)) g.nodes[i]!.vals.length (g.nodes[i]!.vals.map (encV tb))) :
    Calls Try.prog 55 #[encV tb g.root] w (FormPost g w) := by
  obtain ⟨hn, hr, hns⟩ := okG_parts hok
  obtain ⟨j0, hj, hy0, hy1, hy2⟩ := info_parts info_implNode
  have hmm := @run_makeMap Try.prog
  have hM0 := Meet.new ((w.alloc (.cells #[.int .i64 0, .int .i64 0, .string ⟨#[]⟩, .int .i64 0, .slice none 0 0] 27)).alloc (.map #[] 0)) tb 136 (w.heap.size + 1 + 1) (w.heap.size + 1) (w.heap.size + 1 + 1 + 1) (by simp) (PMap.new _ _ (by simp)) ⟨by omega, by omega, by omega⟩
  have hA : Kept (fun _ => False) w (((w.alloc (.cells #[.int .i64 0, .int .i64 0, .string ⟨#[]⟩, .int .i64 0, .slice none 0 0] 27)).alloc (.map #[] 0)).alloc (.cells #[.map (some (w.heap.size + 1)), .slice none 0 0] 136)) := (((Kept.refl _ w).alloc _).alloc _).alloc _
  have hR0 : Five (((w.alloc (.cells #[.int .i64 0, .int .i64 0, .string ⟨#[]⟩, .int .i64 0, .slice none 0 0] 27)).alloc (.map #[] 0)).alloc (.cells #[.map (some (w.heap.size + 1)), .slice none 0 0] 136)) w.heap.size ⟨0, 0, ⟨#[]⟩, 0⟩ (.slice none 0 0) := (Five.new_at w ⟨0, 0, ⟨#[]⟩, 0⟩ _ _ _ rfl).kept (((Kept.refl (fun _ => False) _).alloc _).alloc _) (fun e => e)
  have hcells0 : ∀ i, i < g.nodes.length → CellsAt (((w.alloc (.cells #[.int .i64 0, .int .i64 0, .string ⟨#[]⟩, .int .i64 0, .slice none 0 0] 27)).alloc (.map #[] 0)).alloc (.cells #[.map (some (w.heap.size + 1)), .slice none 0 0] 136)) (tb i) := fun i hi => by
    obtain ⟨⟨c, t, hc⟩, hl⟩ := hcells i hi
    exact ⟨c, t, (hA.block _ hl (fun e => e)).trans hc⟩
  go_enter Try.func55, Try.ntmps55
  go_wp2_with (go_at_call 111; refine (valOf_any g.nodes.length tb (w.heap.size + 1 + 1) (w.heap.size + 1) (w.heap.size + 1 + 1 + 1) [] g.root none 0 _ hr (InvO.nil _) hn hinj hcells0 hM0 (by simp)).mono ?_; rintro e w1 ⟨ma1, mc1, rfl, hM1, hor1, hK1⟩; have hR1 := hR0.kept hK1 (fun hp => by rcases hp with hp | hp | hp <;> first | omega | cases hp); have hA1 := hA.trans hK1 (fun k hk hp => by rcases hp with hp | hp | hp <;> first | omega | cases hp))
  have hbw : w.heap.size + 1 + 1 + 1 ≤ w1.heap.size := by have := hK1.size; simpa using this
  have hst : FState w tb (w.heap.size + 1 + 1) (w.heap.size + 1) (w.heap.size + 1 + 1 + 1) w1.heap.size (renVal [] g.root) (w1.alloc (.cells #[.int .i64 (renVal [] g.root).kind, .int .i64 (renVal [] g.root).num, .string (renVal [] g.root).text, .int .i64 (renVal [] g.root).node, .slice none 0 0] 27)) (renOrd [] g.root) ma1 mc1 none 0 [] := {
    low := (hA1.below (Nat.le_refl _) (fun _ _ e => e)).alloc (by omega) _
    blk := ⟨by omega, hbw, by simp, by omega, by omega, by omega, by omega⟩
    res := hR1.kept ((Kept.refl (fun _ => False) _).alloc _) (fun e => e)
    out := Five.new_at _ _ _ _ _ rfl
    meet := hM1.kept ((Kept.refl (fun _ => False) _).alloc _) (fun e => e) (fun e => e) (fun _ _ e => e)
    own := ⟨World.ownsRow_nil _ _ _ _, fun x hx => (by cases hx), fun x hx => (by cases hx), fun i j _ hj => absurd hj (Nat.not_lt_zero _)⟩
    apm := fun b hb => by cases hb
    apvm := fun x hx => by cases hx
    notG := ⟨fun b hb => (by cases hb), far_of_lt fun b hb => (by have := (hM1.met.lt b (by rw [hb]; rfl)).2; omega), fun x hx => by cases hx⟩ }
  go_loopw [5] (fun i ws => ∃ (k : Nat) (ord : List Nat) (ma : Option Addr) (mc : Nat) (na : Option Addr) (nc : Nat) (nl : List NL), Hid (ord = canonO g.nodes (renOrd [] g.root) k) ∧ Hid (nl.map (·.n) = canonN g.nodes (renOrd [] g.root) k) ∧ Hid (nl.length = k) ∧ k ≤ ord.length ∧ i = .int .i64 k ∧ FState w tb (w.heap.size + 1 + 1) (w.heap.size + 1) (w.heap.size + 1 + 1 + 1) w1.heap.size (renVal [] g.root) ws ord ma mc na nc nl) (fun i _ => g.nodes.length - (intOf i).toNat)
  case atStart =>
    exact ⟨0, renOrd [] g.root, ma1, mc1, none, 0, [], by unfold canonO; rfl, by unfold canonN; rfl, rfl, Nat.zero_le _, rfl, hst⟩
  case round =>
    obtain ⟨k, ord, ma, mc, na, nc, nl, hord, hnl, hnll, hkle, rfl, hD⟩ := hrel
    have hinv : InvO g.nodes.length ord := by rw [hord.out]; exact canonO_inv ((InvO.nil _).ren hr) hns k
    have hole := hinv.le
    obtain ⟨mz, m0, m1, mf, mmap, mmet, mmlt⟩ := hD.meet
    obtain ⟨b1, b2, b3, b4, b5, b6, b7⟩ := hD.blk
    by_cases hkl : k < ord.length
    · obtain ⟨x, hx⟩ : ∃ x, Hid (x = ord[k]!) := ⟨_, rfl⟩
      have hxn : x < g.nodes.length := by rw [hx.out]; exact hinv.2 _ (mem_at hkl)
      obtain ⟨n, hnx⟩ : ∃ n, Hid (n = g.nodes[x]!) := ⟨_, rfl⟩
      have hnok : okN g.nodes.length n = true := by rw [hnx.out]; exact hns _ (mem_at hxn)
      have hck : (ord.map fun x => ptr (tb x))[k]? = some (ptr (tb x)) := by
        rw [List.getElem?_map, List.getElem?_eq_getElem hkl, hx.out, getElem!_pos ord k hkl]; rfl
      obtain ⟨gm, rfl, hgm1, hgm2, hgc⟩ := owns_cell mmet hck
      have hKd : Kept (fun _ => False) w wr.drew := (Kept.of_below hD.low (fun _ => False)).drew
      have hMd : Meet wr.drew tb (w.heap.size + 1 + 1) (w.heap.size + 1) (w.heap.size + 1 + 1 + 1) ord (some ⟨gm, 0, none⟩) mc := hD.meet.kept ((Kept.refl (fun _ => False) wr).drew) (fun e => e) (fun e => e) (fun _ _ e => e)
      have hcells' : ∀ i, i < g.nodes.length → CellsAt wr.drew (tb i) ∧ tb i < w.heap.size := fun i hi => by
        obtain ⟨⟨c, t, hc⟩, hl⟩ := hcells i hi
        exact ⟨⟨c, t, (hKd.block _ hl (fun e => e)).trans hc⟩, hl⟩
      have ht : Two wr.drew (tb x) n.tag (.slice (xa x) n.vals.length (xc x)) := by rw [hnx.out]; exact (hcell x hxn).kept hKd (fun e => e)
      have hv : wr.drew.ownsRow B 80 1 (.slice (xa x) n.vals.length (xc x)) n.vals.length (n.vals.map (encV tb)) := by rw [hnx.out]; exact hKd.owns (hvals x hxn) (fun _ _ e => e)
      have hxal : ∀ b, xa x = some ⟨b, 0, none⟩ → b < w.heap.size := fun b hb => ((hvals x hxn).lt b (by rw [hb]; rfl)).2
      have hbd : w.heap.size + 1 + 1 + 1 ≤ wr.drew.heap.size := by show _ ≤ wr.heap.size; omega
      have hcall := nodeOf_any g.nodes.length w.heap.size tb (w.heap.size + 1 + 1) (w.heap.size + 1) (w.heap.size + 1 + 1 + 1) n x B (xa x) (xc x) ord (some ⟨gm, 0, none⟩) mc wr.drew hnok hinv hn hxn hinj hcells' hMd hbd ⟨by omega, by omega⟩ ht hv hxal
      obtain ⟨oz, o0, o1, o2, o3, o4, of⟩ := hD.out
      have hi0 : (0 : Int) ≤ (k : Int) := by omega
      have hi1 : (k : Int) < (ord.length : Int) := by omega
      have hcall' : Hid _ := hcall
      have hgc' : wr.drew.cell? ⟨gm, k, none⟩ = some (ptr (tb x)) := hgc
      clear hcall
      go_wp2
      refine wp_regionU (fun u => u.cell? ⟨w1.heap.size, 4, none⟩ = some (.slice na nl.length nc)) 11 (by kernel_rfl) o4 (fun hS0 => ?_)
      refine anyU_take (i := 0) (v := ?_) rfl (by kernel_rfl) (by kernel_rfl) (by kernel_rfl) (by kernel_rfl) (fun _ _ _ h => h) (Or.inl ⟨by rfl, ?_⟩) hS0 ?_
      rotate_left
      · intro u hSu; (try dsimp only at hSu); go_simp <;> with_reducible rfl
      simp only [Act.put, List.getElem_toArray, List.getElem_cons_zero, List.setIfInBounds_toArray, List.set_cons_zero, List.set_cons_succ]
      refine anyU_take (i := 2) (v := ?_) rfl (by kernel_rfl) (by kernel_rfl) (by kernel_rfl) (by kernel_rfl) (fun _ _ _ h => h) (Or.inl ⟨by rfl, ?_⟩) hS0 ?_
      rotate_left
      · intro u hSu; (try dsimp only at hSu); go_simp <;> with_reducible rfl
      simp only [Act.put, List.getElem_toArray, List.getElem_cons_zero, List.getElem_cons_succ, List.setIfInBounds_toArray, List.set_cons_zero, List.set_cons_succ]
      refine anyU_take (i := 4) (v := ?_) rfl (by kernel_rfl) (by kernel_rfl) (by kernel_rfl) (by kernel_rfl) (fun _ _ _ h => h) (Or.inl ⟨by rfl, ?_⟩) hS0 ?_
      rotate_left
      · intro u hSu; (try dsimp only at hSu); go_simp <;> with_reducible rfl
      simp only [Act.put, List.getElem_toArray, List.getElem_cons_zero, List.getElem_cons_succ, List.setIfInBounds_toArray, List.set_cons_zero, List.set_cons_succ]
      refine anyU_take (i := 1) (v := ?_) rfl (by kernel_rfl) (by kernel_rfl) (by kernel_rfl) (by kernel_rfl) (fun _ _ _ h => h) (Or.inl ⟨by rfl, ?_⟩) hS0 ?_
      rotate_left
      · intro u hSu; (try dsimp only at hSu); go_simp <;> with_reducible rfl
      simp only [Act.put, List.getElem_toArray, List.getElem_cons_zero, List.getElem_cons_succ, List.setIfInBounds_toArray, List.set_cons_zero, List.set_cons_succ]
      refine anyU_one (i := 3) (by kernel_rfl) rfl (fun K hK => ?_)
      go_simp
      refine hK.out _ _ hS0 ?_
      clear hK
      refine anyU_one (i := 5) (by kernel_rfl) rfl (fun K hK => ?_)
      go_simp
      refine hK.out _ _ hS0 ?_
      clear hK
      refine anyU_one (i := 6) (by kernel_rfl) rfl (fun K hK => ?_)
      go_simp
      refine hK.out _ _ hS0 ?_
      clear hK
      refine anyU_one (i := 7) (by kernel_rfl) rfl (fun K hK => ?_)
      go_simp
      refine Calls.mono hcall'.out ?_
      rintro e w2 ⟨ma2, mc2, va, vc, rfl, hM2, hor2, hv2, hap2, hK2⟩
      have hvl2 := renVals_length ord n.vals
      obtain ⟨vs, hvs⟩ : ∃ vs, Hid (vs = renVals ord n.vals) := ⟨_, rfl⟩
      rw [← hvs.out] at hv2
      simp only [nodeVal]
      rw [← hvs.out]
      have hKw : Kept (fun k => k = w.heap.size + 1 + 1 ∨ k = w.heap.size + 1 ∨ some ⟨gm, 0, none⟩ = some (⟨k, 0, none⟩ : Addr)) wr w2 := ((Kept.refl (fun k => k = w.heap.size + 1 + 1 ∨ k = w.heap.size + 1 ∨ some ⟨gm, 0, none⟩ = some (⟨k, 0, none⟩ : Addr)) wr).drew).trans hK2 (fun _ _ e => e)
      have hng := hD.notG
      have hnG : ¬ (w1.heap.size = w.heap.size + 1 + 1 ∨ w1.heap.size = w.heap.size + 1 ∨ some ⟨gm, 0, none⟩ = some (⟨w1.heap.size, 0, none⟩ : Addr)) := fun hp => by
        rcases hp with hp | hp | hp
        · omega
        · omega
        · exact hng.2.1.ne hp rfl
      have hO2 : Five w2 w1.heap.size (renVal [] g.root) (.slice na nl.length nc) := hD.out.kept hKw hnG
      have hS1 := hO2.c4
      have hn2 : Hid _ := hKw.owns hD.own.nodes (fun b hb hp => by
        have h8 := hD.own.nodes.lt b hb
        rcases hp with hp | hp | hp
        · omega
        · omega
        · exact hD.apm b (owns_addr hD.own.nodes hb) hp)
      have hb2 : w.heap.size + 1 + 1 + 1 ≤ w2.heap.size := by have := hKw.size; omega
      have hS2 : (w2.alloc (.cells #[.int .i64 n.tag, .slice va vs.length vc] 84)).cell? ⟨w1.heap.size, 4, none⟩ = some (.slice na nl.length nc) := ((Kept.refl (fun _ => False) w2).alloc _).cell hS1 (fun e => e)
      have hS2' : Hid _ := hS2
      clear hS2
      refine hK.out _ _ hS1 ?_
      clear hK
      refine anyU_one (i := 8) (by kernel_rfl) rfl (fun K hK => ?_)
      go_simp
      refine hK.out _ _ hS2'.out ?_
      clear hK
      refine anyU_one (i := 9) (by kernel_rfl) rfl (fun K hK => ?_)
      refine step_append_lies _ (by rfl) (.tmp 19) (.tmp 26) 25 rfl (w.heap.size + 1 + 1 + 1) 84 j0 _ 2 32 Try.underlying25 hj hy0 hy1 hy2 rfl (by decide) (.slice na nl.length nc) nl.length (nodeCells nl) (by rfl) (World.ownsRow.alloc hn2.out _) ⟨w2.heap.size, 0, none⟩ 1 1 [.int .i64 n.tag, .slice va vs.length vc] (by rfl) rfl (World.news_of_block (cs := #[.int .i64 n.tag, .slice va vs.length vc]) (t := 84) (fr := (0, 0)) (blk_new_at _ _ _ rfl)) (by simp [Value.oneCell']) (by decide) (by have h7 := hnll.out; unfold maxLen; omega) (by have h7 := hnll.out; omega) (by simp; omega) (w2.heap.size + 1) (by simp) ?_
      intro gg cc w3 hown3 hgrow3 hat3 hlt3
      have hX3 := (hO2.kept ((Kept.refl (fun _ => False) w2).alloc _) (fun e => e)).kept (Kept.of_grown hgrow3) (fun hp => hng.1.ne (owns_addr hD.own.nodes hp) rfl)
      obtain ⟨yz, y0, y1, y2, y3, y4, yf⟩ := id hX3
      refine hK.out _ _ y4 ?_
      clear hK
      simp only [Act.put, List.getElem_toArray, List.getElem_cons_zero, List.getElem_cons_succ, List.setIfInBounds_toArray, List.set_cons_zero, List.set_cons_succ]
      refine anyU_one (i := 10) (by kernel_rfl) rfl (fun K hK => ?_)
      go_simp
      refine hK.out _ _ y4 ?_
      clear hK
      refine anyU_last (by kernel_rfl) rfl (by kernel_rfl) (fun K hK => ?_)
      go_simp
      refine hK.out _ _ ?_
      clear hK
      have hfin := hD.next (n := ⟨n.tag, vs⟩) hM2 hor2 hv2 hap2 hKw hown3 hgrow3 hat3
      have hs1 : Hid (canonO g.nodes (renOrd [] g.root) (k + 1) = renOrds ord n.vals) := by show canonO _ _ _ = _; rw [canonO_succ, ← hord.out, if_pos hkl, ← hx.out, ← hnx.out]
      have hs2 : Hid (canonN g.nodes (renOrd [] g.root) (k + 1) = (nl ++ [(⟨⟨n.tag, vs⟩, va, vc⟩ : NL)]).map (·.n)) := by show canonN _ _ _ = _; rw [canonN_succ, ← hord.out, if_pos hkl, ← hx.out, ← hnx.out, ← hnl.out, hvs.out]; simp
      have hle := renOrds_le ord n.vals
      go_wp2
      go_roundw
      case rel => exact ⟨k + 1, renOrds ord n.vals, ma2, mc2, some ⟨gg, 0, none⟩, cc, nl ++ [(⟨⟨n.tag, vs⟩, va, vc⟩ : NL)], hs1.out.symm, hs2.out.symm, by have := hnll.out; show (nl ++ [(⟨⟨n.tag, vs⟩, va, vc⟩ : NL)]).length = k + 1; simp [this], by omega, by go_num, hfin⟩
      case measure => simp [intOf]; omega
    · have hce : Hid (canon g = ⟨renVal [] g.root, nl.map (·.n)⟩) := by show canon g = _; rw [canon_at (k := k) (by omega) (by rw [← hord.out]; omega), hnl.out]
      obtain ⟨oz, o0, o1, o2, o3, o4, of⟩ := hD.out
      obtain ⟨rz, r0, r1, r2, r3, r4, rf⟩ := hD.res
      have hC : Kept (fun b => b = w.heap.size) wr (((((wr.setCell ⟨w.heap.size, 0, none⟩ (.int .i64 (renVal [] g.root).kind)).setCell ⟨w.heap.size, 1, none⟩ (.int .i64 (renVal [] g.root).num)).setCell ⟨w.heap.size, 2, none⟩ (.string (renVal [] g.root).text)).setCell ⟨w.heap.size, 3, none⟩ (.int .i64 (renVal [] g.root).node)).setCell ⟨w.heap.size, 4, none⟩ (.slice na nl.length nc)) := (((((Kept.refl (fun b => b = w.heap.size) wr).set (fun _ => rfl) _).set (fun _ => rfl) _).set (fun _ => rfl) _).set (fun _ => rfl) _).set (fun _ => rfl) _
      have hown := (hD.own.kept hC (fun b hb hp => by have := hD.own.nodes.lt b (by rw [hb]; rfl); omega) (fun x hx b hb hp => by have := (hD.own.vals x hx).lt b (by rw [hb]; rfl); omega)).le (show w.heap.size ≤ w.heap.size + 1 + 1 + 1 by omega)
      have hlow := hD.low.trans (hC.below hD.low.size (fun k hk hp => by omega))
      clear hM0 hA hR0 hcells0 hK1 hA1 hR1
      go_wp2
      refine bodyPost_ret (v := .agg #[.int .i64 (renVal [] g.root).kind, .int .i64 (renVal [] g.root).num, .string (renVal [] g.root).text, .int .i64 (renVal [] g.root).node, .slice na nl.length nc]) (by simp [results, Try.results55, go_sem, r0, r1, r2, r3, r4]) rfl ⟨na, nc, nl, by rw [hce.out]; simp [GG.val], by rw [hce.out], hown, hlow⟩

end Go.Proofs.Ythjddpkegooobaa

/-
  CANONI: the program's Canon. Own work.
-/
namespace Go.Proofs.Ythjddpkegooobaa
open Go.RowKit

/-- Canon of any graph -/
def canonZ (g : GG) : GG := if okG g = true then canon g else ⟨⟨0, 0, ⟨#[]⟩, 0⟩, []⟩

/-- what Canon leaves -/
def CanonIPost (g : GG) (w : World) (e : Ending) (w' : World) : Prop :=
  ∃ (na : Option Addr) (nc : Nat) (nl : List NL), e = .returned ((canonZ g).val na nc) ∧ nl.map (·.n) = (canonZ g).nodes ∧ OwnG w' w.heap.size na nc nl ∧ Below w.heap.size w w'

set_option maxRecDepth 100000 in
theorem L2.cells {g : GG} {a : Option Addr} {cap : Nat} {w : World} {B : Nat} {tb : Nat → Nat} {ws : World} {m : Nat → Nat} {xa : Nat → Option Addr} {xc : Nat → Nat} (h : L2 g a cap w B tb ws m xa xc) {i : Nat} (hi : i < g.nodes.length) : CellsAt ws (tb i) ∧ tb i < ws.heap.size := ⟨(h.cell i hi).z, (h.cell i hi).lt⟩
theorem L2.all {g : GG} {a : Option Addr} {cap : Nat} {w : World} {B : Nat} {tb : Nat → Nat} {ws : World} {xa : Nat → Option Addr} {xc : Nat → Nat} (h : L2 g a cap w B tb ws (fun i => g.nodes[i]!.vals.length) xa xc) {i : Nat} (hi : i < g.nodes.length) : ws.ownsRow B 80 1 (.slice (xa i) g.nodes[i]!.vals.length (xc i)) g.nodes[i]!.vals.length (g.nodes[i]!.vals.map (encV tb)) := by
  have h1 := h.vals i hi
  rwa [List.take_length] at h1

set_option maxRecDepth 100000 in
theorem implCanon_any (a : Option Addr) (cap : Nat) (g : GG) (w : World) (hg : g.Ok) (ha : NodesAt w.heap.size w a g.nodes) :
    Calls Try.prog 12 #[g.val a cap] w (CanonIPost g w) := by
  have hR0 := Five.new_at (w.alloc (.cells #[.int .i64 g.root.kind, .int .i64 g.root.num, .string g.root.text, .int .i64 g.root.node, .slice a g.nodes.length cap] 27)) ⟨0, 0, ⟨#[]⟩, 0⟩ (.slice none 0 0) 27 (w.heap.size + 1) (by simp)
  have hX0 := (GBox.new w g a cap 27).grow (gal (gre _) (.cells #[.int .i64 0, .int .i64 0, .string ⟨#[]⟩, .int .i64 0, .slice none 0 0] 27))
  cases hok : okG g with
  | false =>
    have hz : Hid (canonZ g = ⟨⟨0, 0, ⟨#[]⟩, 0⟩, []⟩) := if_neg (by rw [hok]; exact Bool.false_ne_true)
    have hok' : Hid _ := hok
    go_enter Try.func12, Try.ntmps12
    go_wp2_with (go_at_call 44; refine (implGraphOk_any a cap g _ hg (ha.grow (gal (gal (gre _) _) _))).mono ?_; rintro e w1 ⟨rfl, hb1⟩; obtain ⟨rz, r0, r1, r2, r3, r4, rf⟩ := hR0.kept (Kept.of_below hb1 (fun _ => False)) (fun e => e); rw [hok'.out])
    refine bodyPost_ret (v := .agg #[.int .i64 0, .int .i64 0, .string ⟨#[]⟩, .int .i64 0, .slice none 0 0]) (by simp [results, Try.results12, go_sem, r0, r1, r2, r3, r4]) rfl ⟨none, 0, [], by rw [hz.out]; rfl, by rw [hz.out]; rfl, ⟨World.ownsRow_nil _ _ _ _, fun x hx => (by cases hx), fun x hx => (by cases hx), fun i j _ hj => absurd hj (Nat.not_lt_zero _)⟩, ?_⟩
    have hb2 := gca (gal (gal (gre w) _) _) hb1
    exact ((((hb2.setCell (by simp) _).setCell (by simp) _).setCell (by simp) _).setCell (by simp) _).setCell (by simp) _
  | true =>
    have hz : Hid (canonZ g = canon g) := if_pos hok
    have hok' : Hid _ := hok
    go_enter Try.func12, Try.ntmps12
    go_wp2_with (first
      | (go_at_call 44; refine (implGraphOk_any a cap g _ hg (ha.grow (gal (gal (gre _) _) _))).mono ?_; rintro e w1 ⟨rfl, hb1⟩; obtain ⟨xz, x0, x1, x2, x3, x4⟩ := hX0.grow hb1; rw [hok'.out])
      | (go_at_call 56; refine (linked_any a cap g _ hok'.out (ha.grow (gca (gal (gal (gre _) _) _) hb1))).mono ?_; rintro e w2 ⟨B, tb, xa, xc, rfl, hL⟩)
      | (go_at_call 55; refine (formOf_any g tb B xa xc _ hok'.out hL.inj (fun i hi => L2.cells hL hi) hL.cell (fun i hi => L2.all hL hi)).mono ?_; rintro e w3 ⟨na, nc, nl, rfl, hnl, hown, hb3⟩; have hR3 := hR0.kept (Kept.of_below (gca (gca hb1 hL.low) hb3) (fun _ => False)) (fun e => e); obtain ⟨rz, r0, r1, r2, r3, r4, rf⟩ := id hR3))
    have hw2 : w.heap.size + 1 + 1 ≤ w2.heap.size := by have h1 := hb1.size; have h2 := hL.low.size; simp at h1; omega
    have hC : Kept (fun b => b = w.heap.size + 1) w3 (((((w3.setCell ⟨w.heap.size + 1, 0, none⟩ (.int .i64 (canon g).root.kind)).setCell ⟨w.heap.size + 1, 1, none⟩ (.int .i64 (canon g).root.num)).setCell ⟨w.heap.size + 1, 2, none⟩ (.string (canon g).root.text)).setCell ⟨w.heap.size + 1, 3, none⟩ (.int .i64 (canon g).root.node)).setCell ⟨w.heap.size + 1, 4, none⟩ (.slice na (canon g).nodes.length nc)) := (((((Kept.refl (fun b => b = w.heap.size + 1) w3).set (fun _ => rfl) _).set (fun _ => rfl) _).set (fun _ => rfl) _).set (fun _ => rfl) _).set (fun _ => rfl) _
    have hown' := (hown.kept hC (fun b hb hp => by have := hown.nodes.lt b (by rw [hb]; rfl); omega) (fun x hx b hb hp => by have := (hown.vals x hx).lt b (by rw [hb]; rfl); omega)).le (show w.heap.size ≤ w2.heap.size by omega)
    have hb4 := gca (gca (gca (gal (gal (gre w) _) _) hb1) hL.low) hb3
    refine bodyPost_ret (v := (canon g).val na nc) (by simp [results, Try.results12, go_sem, r0, r1, r2, r3, r4]) rfl ⟨na, nc, nl, by rw [hz.out], by rw [hz.out]; exact hnl, hown', hb4.trans (hC.below hb4.size (fun k hk hp => by omega))⟩

end Go.Proofs.Ythjddpkegooobaa

/-
  L6G: graphs, drawn: where it stands. Own work.
-/
namespace Go.Proofs.Ythjddpkegooobaa
open Go.RowKit

/-- what stands at the head of the round -/
structure DGS (w : World) (R b : Nat) (sa : Option Addr) (bs : List Nat) (cap : Nat) (rv : GV) (G : Nat) (ws : World) (at_ : Nat) (na : Option Addr) (nc : Nat) (nl : List NL) : Prop where
  kept : Kept (fun k => k = b) w ws
  blk : b < w.heap.size ∧ w.heap.size ≤ R ∧ R < G ∧ G < ws.heap.size
  low : ∀ g off, sa = some ⟨g, off, none⟩ → g < w.heap.size
  res : Five ws R ⟨0, 0, ⟨#[]⟩, 0⟩ (.slice none 0 0)
  out : Five ws G rv (.slice na nl.length nc)
  rd : DC ws b sa bs cap at_
  own : OwnG ws (G + 1) na nc nl

theorem DGS.step {w : World} {R b : Nat} {sa : Option Addr} {bs : List Nat} {cap : Nat} {rv : GV} {G : Nat} {ws : World} {at_ : Nat} {na : Option Addr} {nc : Nat} {nl : List NL} (h : DGS w R b sa bs cap rv G ws at_ na nc nl) {n : GN} {w1 w3 : World} {at1 : Nat} {va : Option Addr} {vc : Nat} {gg cc : Nat} {o : Obj}
    (hR1 : DC w1 b sa bs cap at1) (hK1 : Kept (fun k => k = b) ws w1) (hv1 : w1.ownsRow ws.heap.size 24 4 (.slice va n.vals.length vc) n.vals.length (valCells n.vals))
    (hown : w3.ownsRow (G + 1) 84 2 (.slice (some ⟨gg, 0, none⟩) (nl.length + 1) cc) (nl.length + 1) (nodeCells nl ++ [.int .i64 n.tag, .slice va n.vals.length vc]))
    (hgrow : (w1.alloc o).grownBy w3 (Value.slice na nl.length nc).ownBlock) (hat : (Value.slice na nl.length nc).ownBlock = some gg ∨ gg = w1.heap.size + 1) :
    DGS w R b sa bs cap rv G (w3.setCell ⟨G, 4, none⟩ (.slice (some ⟨gg, 0, none⟩) (nl.length + 1) cc)) at1 (some ⟨gg, 0, none⟩) cc (nl ++ [⟨n, va, vc⟩]) := by
  obtain ⟨b0, b1, b2, b3⟩ := h.blk
  have hs1 := hK1.size
  have hA : Kept (fun _ => False) w1 (w1.alloc o) := (Kept.refl _ w1).alloc _
  have hG := Kept.of_grown hgrow
  have hs3 : w1.heap.size + 1 ≤ w3.heap.size := by have := hgrow.size; simpa using this
  have hC := (Kept.refl (fun k => k = G) w3).set (a := ⟨G, 4, none⟩) (fun _ => rfl) (.slice (some ⟨gg, 0, none⟩) (nl.length + 1) cc)
  have hnb : ∀ k, (Value.slice na nl.length nc).ownBlock = some k → G + 1 ≤ k ∧ k < ws.heap.size ∧ na = some ⟨k, 0, none⟩ := fun k hk => ⟨(h.own.nodes.lt k hk).1, (h.own.nodes.lt k hk).2, owns_addr h.own.nodes hk⟩
  have hvab : ∀ k, va = some ⟨k, 0, none⟩ → ws.heap.size ≤ k ∧ k < w1.heap.size := fun k hk => hv1.lt k (by rw [hk]; rfl)
  have hxb : ∀ x, x ∈ nl → ∀ k, x.a = some ⟨k, 0, none⟩ → G + 1 ≤ k ∧ k < ws.heap.size := fun x hx k hk => (h.own.vals x hx).lt k (by rw [hk]; rfl)
  have hggb : G + 1 ≤ gg ∧ (na = some ⟨gg, 0, none⟩ ∨ w1.heap.size < gg) := ⟨(hown.lt gg rfl).1, hat.imp (fun e => (hnb gg e).2.2) (fun e => by omega)⟩
  have hsz := h.kept.size
  exact {
    kept := (((h.kept.trans hK1 (fun _ _ e => e)).trans hA (fun _ _ e => e.elim)).trans hG (fun k hk hp => by have := hnb k hp; omega)).trans hC (fun k hk hp => by omega)
    blk := ⟨b0, b1, b2, by have := hC.size; omega⟩
    low := h.low
    res := (((h.res.kept hK1 (by omega)).kept hA (fun e => e)).kept hG (fun hp => by have := hnb _ hp; omega)).kept hC (by omega)
    out := by
      have h1 := ((h.out.kept hK1 (by omega)).kept hA (fun e => e)).kept hG (fun hp => by have := hnb _ hp; omega)
      simpa using h1.set (s' := .slice (some ⟨gg, 0, none⟩) (nl.length + 1) cc)
    rd := ((hR1.kept hA (fun e => e) (fun _ _ _ e => e)).kept hG (fun hp => by have := hnb _ hp; omega) (fun g off e hp => by have := hnb _ hp; have := h.low g off e; omega)).kept hC (by omega) (fun g off e hp => by have := h.low g off e; omega)
    own := by
      refine ⟨?_, fun x hx => ?_, fun x hx => ?_, fun i j hij hj => ?_⟩
      · have h1 := hC.owns hown (fun k hk hp => by have := (hown.lt k hk).1; omega)
        simpa [nodeCells_snoc] using h1
      · rcases List.mem_append.1 hx with hx | hx
        · have h1 := h.own.vals x hx
          refine hC.owns (hG.owns (hA.owns (hK1.owns h1 (fun k hk hp => ?_)) (fun _ _ e => e)) (fun k hk hp => h.own.apn x hx k (owns_addr h1 hk) (hnb k hp).2.2)) (fun k hk hp => ?_)
          · have := (h1.lt k hk).1; omega
          · have := (h1.lt k hk).1; omega
        · simp at hx
          subst hx
          refine hC.owns (hG.owns (hA.owns (owns_le hv1 (by omega)) (fun _ _ e => e)) (fun k hk hp => ?_)) (fun k hk hp => ?_)
          · have h2 := hvab k (owns_addr hv1 hk); have h3 := hnb k hp; omega
          · have h2 := hvab k (owns_addr hv1 hk); omega
      · intro k hk hx2
        have e := some_addr hx2
        subst e
        rcases List.mem_append.1 hx with hx | hx
        · rcases hggb.2 with e3 | e3
          · exact h.own.apn x hx gg hk e3
          · have := hxb x hx gg hk; omega
        · simp at hx
          subst hx
          have h2 := hvab gg hk
          rcases hggb.2 with e3 | e3
          · have h4 := h.own.nodes.lt gg (by rw [e3]; rfl); omega
          · omega
      · have hj' : j < nl.length + 1 := by simpa using hj
        have hi' : i < nl.length := by omega
        have ei : (nl ++ [(⟨n, va, vc⟩ : NL)])[i]! = nl[i]! := by rw [getElem!_pos _ i (by simp; omega), getElem!_pos nl i hi', List.getElem_append_left hi']
        rw [ei]
        by_cases ej : j < nl.length
        · have ej2 : (nl ++ [(⟨n, va, vc⟩ : NL)])[j]! = nl[j]! := by rw [getElem!_pos _ j hj, getElem!_pos nl j ej, List.getElem_append_left ej]
          rw [ej2]
          exact h.own.apv i j hij ej
        · have ej2 : (nl ++ [(⟨n, va, vc⟩ : NL)])[j]! = ⟨n, va, vc⟩ := by
            have e : j = nl.length := by omega
            subst e
            rw [getElem!_pos (nl ++ [(⟨n, va, vc⟩ : NL)]) nl.length hj]; simp
          rw [ej2]
          intro k hk hx2
          have h2 := hvab k hx2
          have h3 := hxb _ (mem_at hi') k hk
          omega }

/-- what stands at the head of the round -/
structure DVS (w : World) (b : Nat) (sa : Option Addr) (bs : List Nat) (cap : Nat) (tag : Int) (X : Nat) (ws : World) (at_ : Nat) (va : Option Addr) (vc : Nat) (vs : List GV) : Prop where
  kept : Kept (fun k => k = b) w ws
  blk : b < w.heap.size ∧ w.heap.size ≤ X ∧ X < ws.heap.size
  low : ∀ g off, sa = some ⟨g, off, none⟩ → g < w.heap.size
  x : Two ws X tag (.slice va vs.length vc)
  rd : DC ws b sa bs cap at_
  vals : ws.ownsRow (X + 1) 24 4 (.slice va vs.length vc) vs.length (valCells vs)

theorem DVS.step {w : World} {b : Nat} {sa : Option Addr} {bs : List Nat} {cap : Nat} {tag : Int} {X : Nat} {ws : World} {at_ : Nat} {va : Option Addr} {vc : Nat} {vs : List GV} (h : DVS w b sa bs cap tag X ws at_ va vc vs) {v : GV} {w1 w3 : World} {at1 : Nat} {gg cc : Nat} {o : Obj}
    (hR1 : DC w1 b sa bs cap at1) (hK1 : Kept (fun k => k = b) ws w1)
    (hown : w3.ownsRow (X + 1) 24 4 (.slice (some ⟨gg, 0, none⟩) (vs.length + 1) cc) (vs.length + 1) (valCells vs ++ v.four))
    (hgrow : (w1.alloc o).grownBy w3 (Value.slice va vs.length vc).ownBlock) :
    DVS w b sa bs cap tag X (w3.setCell ⟨X, 1, none⟩ (.slice (some ⟨gg, 0, none⟩) (vs.length + 1) cc)) at1 (some ⟨gg, 0, none⟩) cc (vs ++ [v]) := by
  obtain ⟨b1, b2, b3⟩ := h.blk
  have hs1 := hK1.size
  have hA : Kept (fun _ => False) w1 (w1.alloc o) := (Kept.refl _ w1).alloc _
  have hG := Kept.of_grown hgrow
  have hs3 : w1.heap.size + 1 ≤ w3.heap.size := by have := hgrow.size; simpa using this
  have hC := (Kept.refl (fun k => k = X) w3).set (a := ⟨X, 1, none⟩) (fun _ => rfl) (.slice (some ⟨gg, 0, none⟩) (vs.length + 1) cc)
  have hvb : ∀ k, (Value.slice va vs.length vc).ownBlock = some k → X + 1 ≤ k ∧ k < ws.heap.size := fun k hk => h.vals.lt k hk
  have hsz := h.kept.size
  exact {
    kept := (((h.kept.trans hK1 (fun _ _ e => e)).trans hA (fun _ _ e => e.elim)).trans hG (fun k hk hp => by have := hvb k hp; omega)).trans hC (fun k hk hp => by omega)
    blk := ⟨b1, b2, by have := hC.size; omega⟩
    low := h.low
    x := by
      have h1 := ((h.x.kept hK1 (by omega)).kept hA (fun e => e)).kept hG (fun hp => by have := hvb _ hp; omega)
      simpa using h1.set (s' := .slice (some ⟨gg, 0, none⟩) (vs.length + 1) cc)
    rd := ((hR1.kept hA (fun e => e) (fun _ _ _ e => e)).kept hG (fun hp => by have := hvb _ hp; omega) (fun g off e hp => by have := hvb _ hp; have := h.low g off e; omega)).kept hC (by omega) (fun g off e hp => by have := h.low g off e; omega)
    vals := by
      have h1 := hC.owns hown (fun k hk hp => by have := (hown.lt k hk).1; omega)
      simpa [valCells_snoc, GV.four] using h1 }



end Go.Proofs.Ythjddpkegooobaa

/-
  L6W: graphs, drawn. Own work.
-/
namespace Go.Proofs.Ythjddpkegooobaa
open Go.RowKit

theorem Five.rootS {w : World} {b : Nat} {u : GV} {s : Value} (h : Five w b u s) (v : GV) : Five ((((w.setCell ⟨b, 0, none⟩ (.int .i64 v.kind)).setCell ⟨b, 1, none⟩ (.int .i64 v.num)).setCell ⟨b, 2, none⟩ (.string v.text)).setCell ⟨b, 3, none⟩ (.int .i64 v.node)) b v s := by
  obtain ⟨hl, c0, c1, c2, c3, c4, hf⟩ := h
  refine ⟨by simpa [World.setCell] using hl, ?_, ?_, ?_, ?_, ?_, fun o => ?_⟩
  · rw [World.cell?_setCell_other _ _ _ _ (by simp), World.cell?_setCell_other _ _ _ _ (by simp), World.cell?_setCell_other _ _ _ _ (by simp)]
    exact World.cell?_setCell_same _ _ _ c0
  · rw [World.cell?_setCell_other _ _ _ _ (by simp), World.cell?_setCell_other _ _ _ _ (by simp)]
    exact World.cell?_setCell_same (u := .int .i64 u.num) _ _ _ (by rw [World.cell?_setCell_other _ _ _ _ (by simp)]; exact c1)
  · rw [World.cell?_setCell_other _ _ _ _ (by simp)]
    exact World.cell?_setCell_same (u := .string u.text) _ _ _ (by rw [World.cell?_setCell_other _ _ _ _ (by simp), World.cell?_setCell_other _ _ _ _ (by simp)]; exact c2)
  · exact World.cell?_setCell_same (u := .int .i64 u.node) _ _ _ (by rw [World.cell?_setCell_other _ _ _ _ (by simp), World.cell?_setCell_other _ _ _ _ (by simp), World.cell?_setCell_other _ _ _ _ (by simp)]; exact c3)
  · rw [World.cell?_setCell_other _ _ _ _ (by simp), World.cell?_setCell_other _ _ _ _ (by simp), World.cell?_setCell_other _ _ _ _ (by simp), World.cell?_setCell_other _ _ _ _ (by simp)]; exact c4
  · rw [World.frozen?_setCell, World.frozen?_setCell, World.frozen?_setCell, World.frozen?_setCell]; exact hf o

theorem okN_of {n : Nat} {x : GN} (h0 : 0 ≤ x.tag) (h1 : x.tag ≤ 1000) (h2 : x.vals.length ≤ 100) (h3 : ∀ v, v ∈ x.vals → okV n v = true) : okN n x = true := by
  unfold okN
  rw [decide_eq_true ⟨h0, h1, h2⟩, List.all_eq_true.2 h3]
  rfl

/-- what stands at the head of the round -/
def GInv (w : World) (b : Nat) (sa : Option Addr) (bs : List Nat) (cap G at_ n j : Nat) (ws : World) : Prop :=
  ∃ (at3 : Nat) (na : Option Addr) (nc : Nat) (nl : List NL), Hid (nl.length = j) ∧ at3 ≤ at_ + 4 + 52 * j ∧ Hid (∀ x, x ∈ nl → x.n.Ok ∧ okN n x.n = true) ∧ DGS w w.heap.size b sa bs cap ⟨0, 0, ⟨#[]⟩, 0⟩ G ws at3 na nc nl

/-- a drawn graph -/
def GraphD (w : World) (b : Nat) (sa : Option Addr) (bs : List Nat) (cap at_ : Nat) (e : Ending) (w' : World) : Prop :=
  ∃ (g : GG) (na : Option Addr) (nc : Nat) (nl : List NL) (at' : Nat), e = .returned (g.val na nc) ∧ nl.map (·.n) = g.nodes ∧ g.Ok ∧ okG g = true ∧ OwnG w' w.heap.size na nc nl ∧ at' ≤ at_ + 16000 ∧ DK w w' b sa bs cap at'

set_option maxHeartbeats 40000000 in
set_option maxRecDepth 100000 in
theorem l6graph_any (b : Nat) (sa : Option Addr) (bs : List Nat) (cap at_ : Nat) (w : World) (hc : DC w b sa bs cap at_) (hat : at_ + 16000 < 4611686018427387904) :
    Calls Try.prog 54 #[.pointer (some ⟨b, 0, none⟩)] w (GraphD w b sa bs cap at_) := by
  have hs0 := hc.lt
  obtain ⟨j0, hj, hy0, hy1, hy2'⟩ := info_parts info_implNode
  obtain ⟨i0, hi, hz0, hz1, hz2⟩ := info_parts info_implVal
  obtain ⟨wA, hwA⟩ : ∃ wA, Hid (wA = w.alloc (.cells #[.int .i64 0, .int .i64 0, .string ⟨#[]⟩, .int .i64 0, .slice none 0 0] 27)) := ⟨_, rfl⟩
  have hFA : Five wA w.heap.size ⟨0, 0, ⟨#[]⟩, 0⟩ (.slice none 0 0) := by rw [hwA.out]; exact Five.new_at w ⟨0, 0, ⟨#[]⟩, 0⟩ (.slice none 0 0) 27 w.heap.size rfl
  have hKA : Kept (fun _ => False) w wA := by rw [hwA.out]; exact (Kept.refl _ w).alloc _
  have hcA : DC wA b sa bs cap at_ := hc.kept hKA (fun e => e) (fun _ _ _ e => e)
  have hKw : DK w wA b sa bs cap at_ := ⟨hcA, hKA.mono (fun _ _ e => e.elim)⟩
  go_enter Try.func54, Try.ntmps54
  go_wp2_with (go_at_call_of 52 ((12 : Int)); rw [← hwA.out]; refine (l6pick_of b sa bs cap at_ 12 12 wA rfl hcA (by omega) (by omega) (by omega)).mono ?_; rintro e w1 ⟨x, at1, hx, ha1, rfl, hk⟩)
  refine (l6pick_of b sa bs cap at1 20 20 w1 rfl hk.dc (by omega) (by omega) (by omega)).mono ?_
  rintro e w2 ⟨y, at2, hy, ha2, rfl, hk2⟩
  have hk12 := hk.trans hk2
  have hR0 := hFA.kept hk12.kept (by omega)
  have hs12 := hk12.kept.size
  have hsA : wA.heap.size = w.heap.size + 1 := by rw [hwA.out]; simp
  have hD0 : DGS w w.heap.size b sa bs cap ⟨0, 0, ⟨#[]⟩, 0⟩ w2.heap.size (w2.alloc (.cells #[.int .i64 0, .int .i64 0, .string ⟨#[]⟩, .int .i64 0, .slice none 0 0] 27)) at2 none 0 [] :=
    ⟨(hKw.trans hk12).kept.alloc _, ⟨hs0, Nat.le_refl _, by omega, by simp⟩, hc.sl, hR0.kept ((Kept.refl (fun _ => False) _).alloc _) (fun e => e), Five.new_at w2 ⟨0, 0, ⟨#[]⟩, 0⟩ (.slice none 0 0) 27 w2.heap.size rfl, hk12.dc.kept ((Kept.refl (fun _ => False) _).alloc _) (fun e => e) (fun _ _ _ e => e), ⟨World.ownsRow_nil _ _ _ _, fun x hx => (by cases hx), fun x hx => (by cases hx), fun i j _ hj => absurd hj (Nat.not_lt_zero _)⟩⟩
  obtain ⟨a1, ha1'⟩ : ∃ a1, Hid (a1 = at_) := ⟨_, rfl⟩
  have hat2 : at2 ≤ at_ + 4 := by omega
  clear hR0
  obtain rfl | rfl | hy2 : y = 0 ∨ y = 1 ∨ 2 ≤ y := by omega
  all_goals go_wp2
  all_goals generalize w2.alloc (.cells #[.int .i64 0, .int .i64 0, .string ⟨#[]⟩, .int .i64 0, .slice none 0 0] 27) = w3 at hD0 ⊢
  all_goals generalize w2.heap.size = G at hD0 ⊢
  all_goals first
    | (obtain ⟨n, hn300, e⟩ : ∃ n : Nat, n ≤ 300 ∧ (300 : Int) = (n : Int) := ⟨300, by omega, rfl⟩; rw [e]; clear e hx)
    | (obtain ⟨n, hn300, e⟩ : ∃ n : Nat, n ≤ 300 ∧ (130 : Int) = (n : Int) := ⟨130, by omega, rfl⟩; rw [e]; clear e hx)
    | (obtain ⟨n, hn300, e⟩ : ∃ n : Nat, n ≤ 300 ∧ n = x := ⟨x, by omega, rfl⟩; subst e; clear hx)
  all_goals
    go_loopw [5] (fun i ws => ∃ j : Nat, i = .int .i64 (j : Int) ∧ j ≤ n ∧ GInv w b sa bs cap G at_ n j ws) (fun i _ => n - (intOf i).toNat)
    case atStart => exact ⟨0, rfl, Nat.zero_le _, ⟨at2, none, 0, [], rfl, by omega, fun x hx => (by cases hx), hD0⟩⟩
    case round =>
      obtain ⟨j, rfl, hjn, at3, na, nc, nl, hnl, hat3, hok, hD⟩ := hrel
      obtain ⟨q0, q1, q2, q3⟩ := hD.blk
      have hsD := hD.kept.size
      by_cases hjl : j < n
      · have hd1 : (j : Int) < (n : Int) := by omega
        go_wp2_with (first
          | (go_at_call_of 52 ((1001 : Int)); refine (l6pick_of b sa bs cap at3 1001 1001 _ rfl hD.rd (by omega) (by omega) (by omega)).mono ?_; rintro e w4 ⟨t, at4, ht, ha4, rfl, hk4⟩)
          | (go_at_call_of 52 ((5 : Int)); refine (l6pick_of b sa bs cap at4 5 5 _ rfl (hk4.dc.kept ((Kept.refl (fun _ => False) _).alloc _) (fun e => e) (fun _ _ _ e => e)) (by omega) (by omega) (by omega)).mono ?_; rintro e w5 ⟨m, at5, hm, ha5, rfl, hk5⟩))
        have hs4 := hk4.kept.size
        have hs5 : w4.heap.size + 1 ≤ w5.heap.size := by have := hk5.kept.size; simp only [World.size_alloc] at this; omega
        have hV0 : DVS wr b sa bs cap (t : Int) w4.heap.size w5 at5 none 0 [] :=
          ⟨kk (hk4.kept.alloc _) hk5.kept, ⟨by omega, by omega, by omega⟩, fun g off e => Nat.lt_of_lt_of_le (hD.low g off e) hsD, (Two.new_at w4 t (.slice none 0 0) 84 w4.heap.size rfl).kept hk5.kept (by omega), hk5.dc, World.ownsRow_nil _ _ _ _⟩
        have hx4 : wr.heap.size ≤ w4.heap.size := hs4
        generalize w4.heap.size = X at hV0 hx4 ⊢
        clear hs4 hs5 hk4 hk5
        go_loopw [7] (fun c ws => ∃ (k at6 : Nat) (va : Option Addr) (vc : Nat) (vs : List GV), c = .int .i64 (k : Int) ∧ vs.length + k ≤ 4 ∧ at6 + 12 * k ≤ at_ + 4 + 52 * j + 52 ∧ Hid (∀ v, v ∈ vs → v.Ok ∧ okV n v = true) ∧ DVS wr b sa bs cap (t : Int) X ws at6 va vc vs) (fun c _ => (intOf c).toNat)
        case atStart => exact ⟨m, at5, none, 0, [], rfl, by show 0 + m ≤ 4; omega, by omega, fun v hv => (by cases hv), hV0⟩
        case round =>
          obtain ⟨k, at6, va, vc, vs, rfl, hvl, hat6, hvok, hV⟩ := hrel
          obtain ⟨p1, p2, p3⟩ := hV.blk
          obtain ⟨tz, t0, t1, tf, _⟩ := id hV.x
          have hO6 := hD.out.kept hV.kept (by omega)
          obtain ⟨oz, o0, o1, o2, o3, o4, of_⟩ := id hO6
          have hn6 : Hid _ := hV.kept.owns hD.own.nodes (fun k hk hp => by have := (hD.own.nodes.lt k hk).1; omega)
          by_cases hk0 : 0 < k
          · have hd2 : (0 : Int) < (k : Int) := by omega
            go_wp2_with (first
              | (go_at_call 110; refine (l6val_any b sa bs cap at6 n _ hV.rd (by omega) (by omega)).mono ?_; rintro e w7 ⟨v, at7, hv, hvo, ha7, rfl, hk7⟩; have hX7 := hV.x.kept hk7.kept (by omega); obtain ⟨uz, u0, u1, uf, _⟩ := id hX7; have hs7 := hk7.kept.size; have hv7 : Hid _ := hk7.kept.owns hV.vals (fun k hk hp => by have := (hV.vals.lt k hk).1; omega))
              | (at_builtin; refine wpList_append_lies _ rfl (.tmp 35) (.tmp 37) 82 rfl (X + 1) 24 i0 _ 4 40 Try.underlying82 hi hz0 hz1 hz2 rfl (by decide) _ _ _ rfl (World.ownsRow.alloc (World.ownsRow.alloc hv7.out _) _) ⟨w7.heap.size + 1, 0, none⟩ 1 1 v.four rfl rfl (World.news_of_block (cs := #[.int .i64 v.kind, .int .i64 v.num, .string v.text, .int .i64 v.node]) (t := 24) (fr := (0, 0)) (blk_new_at _ _ _ (by simp))) (by simp [GV.four, Value.oneCell']) (by decide) (by unfold maxLen; omega) (by omega) (by simp; omega) (w7.heap.size + 2) (by simp) ?_; intro gg cc w8 hown8 hgrow8 hat8 hlt8; obtain ⟨ez, e0, e1, ef, _⟩ := (hX7.kept (((Kept.refl (fun _ => False) w7).alloc (.cells #[.int .i64 v.kind, .int .i64 v.num, .string v.text, .int .i64 v.node] 24)).alloc (.cells #[.int .i64 v.kind, .int .i64 v.num, .string v.text, .int .i64 v.node] 24)) (fun e => e)).kept (Kept.of_grown hgrow8) (fun hp => by have := (hV.vals.lt _ hp).1; omega)))
            have hfin := hV.step (v := v) (hk7.dc.kept ((Kept.refl (fun _ => False) _).alloc _) (fun e => e) (fun _ _ _ e => e)) (hk7.kept.alloc _) hown8 hgrow8
            go_roundw
            case rel =>
              refine ⟨k - 1, at7, some ⟨gg, 0, none⟩, cc, vs ++ [v], congrArg (Value.int .i64) (by omega), by simp; omega, by omega, fun x hx => ?_, hfin⟩
              rcases List.mem_append.1 hx with hx | hx
              · exact hvok.out x hx
              · simp at hx
                subst hx
                exact ⟨hv, hvo⟩
            case measure => simp [intOf]; omega
          · have hd2 : ¬ ((0 : Int) < (k : Int)) := by omega
            obtain rfl : k = 0 := by omega
            by_cases hbig : 50 < n
            · have hd3 : (50 : Int) < (n : Int) := by omega
              by_cases hlast : j + 1 < n
              · have hd4 : (j : Int) < (n : Int) - 1 := by omega
                go_wp2_with (first
                  | (at_builtin; refine wpList_append_lies _ rfl (.tmp 49) (.tmp 53) 82 rfl (X + 1) 24 i0 _ 4 40 Try.underlying82 hi hz0 hz1 hz2 rfl (by decide) _ _ _ rfl (World.ownsRow.alloc hV.vals _) ⟨wr.heap.size, 0, none⟩ 1 1 (GV.mk 4 0 ⟨#[]⟩ ((j : Int) + 1)).four rfl rfl (World.news_of_block (cs := #[.int .i64 4, .int .i64 0, .string ⟨#[]⟩, .int .i64 ((j : Int) + 1)]) (t := 24) (fr := (0, 0)) (blk_new_at _ _ _ rfl)) (by simp [GV.four, Value.oneCell']) (by decide) (by unfold maxLen; omega) (by omega) (by simp; omega) (wr.heap.size + 1) (by simp) ?_; intro gg8 cc8 w8 hown8 hgrow8 hat8 hlt8; obtain ⟨ez8, e08, e18, ef8, _⟩ := (hV.x.kept ((Kept.refl (fun _ => False) wr).alloc (.cells #[.int .i64 4, .int .i64 0, .string ⟨#[]⟩, .int .i64 ((j : Int) + 1)] 24)) (fun e => e)).kept (Kept.of_grown hgrow8) (fun hp => by have := (hV.vals.lt _ hp).1; omega); have hO8 := (hO6.kept ((Kept.refl (fun _ => False) wr).alloc (.cells #[.int .i64 4, .int .i64 0, .string ⟨#[]⟩, .int .i64 ((j : Int) + 1)] 24)) (fun e => e)).kept (Kept.of_grown hgrow8) (fun hp => by have := (hV.vals.lt _ hp).1; omega); obtain ⟨oz8, o08, o18, o28, o38, o48, of8⟩ := id hO8; have hV8 := hV.step (v := GV.mk 4 0 ⟨#[]⟩ ((j : Int) + 1)) hV.rd (Kept.refl _ _) hown8 hgrow8)
                  | (at_builtin; refine wpList_append_lies _ rfl (.tmp 57) (.tmp 59) 25 rfl (G + 1) 84 j0 _ 2 32 Try.underlying25 hj hy0 hy1 hy2' rfl (by decide) _ _ _ rfl (World.ownsRow.alloc (hV8.kept.owns hD.own.nodes (fun k hk hp => by have := (hD.own.nodes.lt k hk).1; omega)) _) ⟨w8.heap.size, 0, none⟩ 1 1 [.int .i64 (t : Int), .slice (some ⟨gg8, 0, none⟩) (vs.length + 1) cc8] rfl rfl (World.news_of_block (cs := #[.int .i64 (t : Int), .slice (some ⟨gg8, 0, none⟩) (vs.length + 1) cc8]) (t := 84) (fr := (0, 0)) (blk_new_at _ _ _ (by simp))) (by simp [Value.oneCell']) (by decide) (by have h7 := hnl.out; unfold maxLen; omega) (by have h7 := hnl.out; omega) (by simp; omega) (w8.heap.size + 1) (by simp) ?_; intro gg9 cc9 w9 hown9 hgrow9 hat9 hlt9; obtain ⟨ez, e0, e1, e2, e3, e4, ef⟩ := ((hD.out.kept hV8.kept (by omega)).kept ((Kept.refl (fun _ => False) _).alloc (.cells #[.int .i64 (t : Int), .slice (some ⟨gg8, 0, none⟩) (vs.length + 1) cc8] 84)) (fun e => e)).kept (Kept.of_grown hgrow9) (fun hp => by have := (hD.own.nodes.lt _ hp).1; omega)))
                have hvok9 : Hid (∀ u, u ∈ vs ++ [GV.mk 4 0 ⟨#[]⟩ ((j : Int) + 1)] → u.Ok ∧ okV n u = true) := fun u hu => by
                  rcases List.mem_append.1 hu with hu | hu
                  · exact hvok.out u hu
                  · simp at hu
                    subst hu
                    exact ⟨⟨by unfold I64; dsimp only; omega, by unfold I64; dsimp only; omega, by unfold maxLen; dsimp only; decide, by unfold I64; dsimp only; omega⟩, by simp [okV]; omega⟩
                rw [show vs.length + 1 = (vs ++ [GV.mk 4 0 ⟨#[]⟩ ((j : Int) + 1)]).length by simp] at hown9
                have hfin := hD.step (n := ⟨(t : Int), vs ++ [GV.mk 4 0 ⟨#[]⟩ ((j : Int) + 1)]⟩) hV8.rd hV8.kept (owns_le hV8.vals (Nat.le_succ_of_le p2)) hown9 hgrow9 (hat9.imp (fun e => e) (fun e => e.trans (by simp)))
                go_roundw
                case rel =>
                  refine ⟨j + 1, by first | omega | go_num, by omega, ?_⟩
                  unfold GInv
                  refine ⟨at6, some ⟨gg9, 0, none⟩, cc9, nl ++ [⟨⟨(t : Int), vs ++ [GV.mk 4 0 ⟨#[]⟩ ((j : Int) + 1)]⟩, (some ⟨gg8, 0, none⟩), cc8⟩], by have h7 := hnl.out; show (nl ++ [(⟨⟨(t : Int), vs ++ [GV.mk 4 0 ⟨#[]⟩ ((j : Int) + 1)]⟩, (some ⟨gg8, 0, none⟩), cc8⟩ : NL)]).length = j + 1; simp [h7], by omega, fun x hx => ?_, hfin⟩
                  rcases List.mem_append.1 hx with hx | hx
                  · exact hok.out x hx
                  · simp at hx
                    subst hx
                    refine ⟨⟨by show I64 (t : Int); unfold I64; omega, by show (vs ++ [GV.mk 4 0 ⟨#[]⟩ ((j : Int) + 1)]).length ≤ maxLen; unfold maxLen; (first | omega | (simp; omega)), fun v hv => (hvok9.out v hv).1⟩, okN_of (by show 0 ≤ (t : Int); omega) (by show (t : Int) ≤ 1000; omega) (by show (vs ++ [GV.mk 4 0 ⟨#[]⟩ ((j : Int) + 1)]).length ≤ 100; (first | omega | (simp; omega))) (fun v hv => (hvok9.out v hv).2)⟩
                case measure => simp [intOf]; omega
              · have hd4 : ¬ ((j : Int) < (n : Int) - 1) := by omega
                go_wp2_with (at_builtin; refine wpList_append_lies _ rfl (.tmp 57) (.tmp 59) 25 rfl (G + 1) 84 j0 _ 2 32 Try.underlying25 hj hy0 hy1 hy2' rfl (by decide) _ _ _ rfl (World.ownsRow.alloc hn6.out _) ⟨wr.heap.size, 0, none⟩ 1 1 [.int .i64 (t : Int), .slice va vs.length vc] rfl rfl (World.news_of_block (cs := #[.int .i64 (t : Int), .slice va vs.length vc]) (t := 84) (fr := (0, 0)) (blk_new_at _ _ _ rfl)) (by simp [Value.oneCell']) (by decide) (by have h7 := hnl.out; unfold maxLen; omega) (by have h7 := hnl.out; omega) (by simp; omega) (wr.heap.size + 1) (by simp) ?_; intro gg9 cc9 w9 hown9 hgrow9 hat9 hlt9; obtain ⟨ez, e0, e1, e2, e3, e4, ef⟩ := ((hD.out.kept hV.kept (by omega)).kept ((Kept.refl (fun _ => False) _).alloc (.cells #[.int .i64 (t : Int), .slice va vs.length vc] 84)) (fun e => e)).kept (Kept.of_grown hgrow9) (fun hp => by have := (hD.own.nodes.lt _ hp).1; omega))
                have hfin := hD.step (n := ⟨(t : Int), vs⟩) hV.rd hV.kept (owns_le hV.vals (Nat.le_succ_of_le p2)) hown9 hgrow9 hat9
                go_roundw
                case rel =>
                  refine ⟨j + 1, by first | omega | go_num, by omega, ?_⟩
                  unfold GInv
                  refine ⟨at6, some ⟨gg9, 0, none⟩, cc9, nl ++ [⟨⟨(t : Int), vs⟩, va, vc⟩], by have h7 := hnl.out; show (nl ++ [(⟨⟨(t : Int), vs⟩, va, vc⟩ : NL)]).length = j + 1; simp [h7], by omega, fun x hx => ?_, hfin⟩
                  rcases List.mem_append.1 hx with hx | hx
                  · exact hok.out x hx
                  · simp at hx
                    subst hx
                    refine ⟨⟨by show I64 (t : Int); unfold I64; omega, by show (vs).length ≤ maxLen; unfold maxLen; (first | omega | (simp; omega)), fun v hv => (hvok.out v hv).1⟩, okN_of (by show 0 ≤ (t : Int); omega) (by show (t : Int) ≤ 1000; omega) (by show (vs).length ≤ 100; (first | omega | (simp; omega))) (fun v hv => (hvok.out v hv).2)⟩
                case measure => simp [intOf]; omega
            · have hd3 : ¬ ((50 : Int) < (n : Int)) := by omega
              go_wp2_with (at_builtin; refine wpList_append_lies _ rfl (.tmp 57) (.tmp 59) 25 rfl (G + 1) 84 j0 _ 2 32 Try.underlying25 hj hy0 hy1 hy2' rfl (by decide) _ _ _ rfl (World.ownsRow.alloc hn6.out _) ⟨wr.heap.size, 0, none⟩ 1 1 [.int .i64 (t : Int), .slice va vs.length vc] rfl rfl (World.news_of_block (cs := #[.int .i64 (t : Int), .slice va vs.length vc]) (t := 84) (fr := (0, 0)) (blk_new_at _ _ _ rfl)) (by simp [Value.oneCell']) (by decide) (by have h7 := hnl.out; unfold maxLen; omega) (by have h7 := hnl.out; omega) (by simp; omega) (wr.heap.size + 1) (by simp) ?_; intro gg9 cc9 w9 hown9 hgrow9 hat9 hlt9; obtain ⟨ez, e0, e1, e2, e3, e4, ef⟩ := ((hD.out.kept hV.kept (by omega)).kept ((Kept.refl (fun _ => False) _).alloc (.cells #[.int .i64 (t : Int), .slice va vs.length vc] 84)) (fun e => e)).kept (Kept.of_grown hgrow9) (fun hp => by have := (hD.own.nodes.lt _ hp).1; omega))
              have hfin := hD.step (n := ⟨(t : Int), vs⟩) hV.rd hV.kept (owns_le hV.vals (Nat.le_succ_of_le p2)) hown9 hgrow9 hat9
              go_roundw
              case rel =>
                refine ⟨j + 1, by first | omega | go_num, by omega, ?_⟩
                unfold GInv
                refine ⟨at6, some ⟨gg9, 0, none⟩, cc9, nl ++ [⟨⟨(t : Int), vs⟩, va, vc⟩], by have h7 := hnl.out; show (nl ++ [(⟨⟨(t : Int), vs⟩, va, vc⟩ : NL)]).length = j + 1; simp [h7], by omega, fun x hx => ?_, hfin⟩
                rcases List.mem_append.1 hx with hx | hx
                · exact hok.out x hx
                · simp at hx
                  subst hx
                  refine ⟨⟨by show I64 (t : Int); unfold I64; omega, by show (vs).length ≤ maxLen; unfold maxLen; (first | omega | (simp; omega)), fun v hv => (hvok.out v hv).1⟩, okN_of (by show 0 ≤ (t : Int); omega) (by show (t : Int) ≤ 1000; omega) (by show (vs).length ≤ 100; (first | omega | (simp; omega))) (fun v hv => (hvok.out v hv).2)⟩
              case measure => simp [intOf]; omega
      · have hd1 : ¬ ((j : Int) < (n : Int)) := by omega
        obtain rfl : j = n := by omega
        have hRG : w.heap.size ≠ G := by omega
        go_upto_if 67 with (go_at_call 110; refine (l6val_any b sa bs cap at3 j _ hD.rd (by omega) (by omega)).mono ?_; rintro e w7 ⟨rv, at7, hrv, hrvo, ha7, rfl, hk7⟩; have hO7 := hD.out.kept hk7.kept (by omega); obtain ⟨oz, o0, o1, o2, o3, o4, of_⟩ := id hO7; have hR7 := hD.res.kept hk7.kept (by omega))
        have hq := hO7.rootS rv
        have hKq : Kept (fun k => k = G) w7 ((((w7.setCell ⟨G, 0, none⟩ (.int .i64 rv.kind)).setCell ⟨G, 1, none⟩ (.int .i64 rv.num)).setCell ⟨G, 2, none⟩ (.string rv.text)).setCell ⟨G, 3, none⟩ (.int .i64 rv.node)) := ((((Kept.refl (fun k => k = G) w7).set (fun _ => rfl) _).set (fun _ => rfl) _).set (fun _ => rfl) _).set (fun _ => rfl) _
        generalize (((w7.setCell ⟨G, 0, none⟩ (.int .i64 rv.kind)).setCell ⟨G, 1, none⟩ (.int .i64 rv.num)).setCell ⟨G, 2, none⟩ (.string rv.text)).setCell ⟨G, 3, none⟩ (.int .i64 rv.node) = wq at hq hKq ⊢
        clear oz o0 o1 o2 o3 o4 of_
        obtain ⟨gz, g0, g1, g2, g3, g4, gf⟩ := id hq
        go_cut [] from 68 (fun wc => ∃ u : GV, Five wc G u (.slice na nl.length nc) ∧ u.Ok ∧ okV j u = true ∧ Kept (fun k => k = G) w7 wc)
        case rest =>
          obtain ⟨u, hF, hu, huo, hKc⟩ := hcut
          clear gz g0 g1 g2 g3 g4 gf
          have hRc := hR7.kept hKc (fun e => hRG e)
          obtain ⟨fz, f0, f1, f2, f3, f4, ff⟩ := id hF
          obtain ⟨rz, r0, r1, r2, r3, r4, rf_⟩ := id hRc
          go_wp2
          have hRf := (hRc.rootS u).set (s' := .slice na nl.length nc)
          have hKR : Kept (fun k => k = w.heap.size) wc (((((wc.setCell ⟨w.heap.size, 0, none⟩ (.int .i64 u.kind)).setCell ⟨w.heap.size, 1, none⟩ (.int .i64 u.num)).setCell ⟨w.heap.size, 2, none⟩ (.string u.text)).setCell ⟨w.heap.size, 3, none⟩ (.int .i64 u.node)).setCell ⟨w.heap.size, 4, none⟩ (.slice na nl.length nc)) := (((((Kept.refl (fun k => k = w.heap.size) wc).set (fun _ => rfl) _).set (fun _ => rfl) _).set (fun _ => rfl) _).set (fun _ => rfl) _).set (fun _ => rfl) _
          generalize ((((wc.setCell ⟨w.heap.size, 0, none⟩ (.int .i64 u.kind)).setCell ⟨w.heap.size, 1, none⟩ (.int .i64 u.num)).setCell ⟨w.heap.size, 2, none⟩ (.string u.text)).setCell ⟨w.heap.size, 3, none⟩ (.int .i64 u.node)).setCell ⟨w.heap.size, 4, none⟩ (.slice na nl.length nc) = w9 at hRf hKR ⊢
          clear r0 r1 r2 r3 r4 f0 f1 f2 f3 f4
          obtain ⟨_, s0, s1, s2, s3, s4, _⟩ := hRf
          have hlj : (nl.map (·.n)).length = j := by rw [List.length_map]; exact hnl.out
          have hnb : ∀ k, na = some ⟨k, 0, none⟩ → G + 1 ≤ k := fun k e => (hD.own.nodes.lt k (by rw [e]; rfl)).1
          have hvb : ∀ x, x ∈ nl → ∀ k, x.a = some ⟨k, 0, none⟩ → G + 1 ≤ k := fun x hx k e => ((hD.own.vals x hx).lt k (by rw [e]; rfl)).1
          have hon : ∀ x, x ∈ nl.map (·.n) → x.Ok ∧ okN j x = true := fun x hx => by
            obtain ⟨y, hy, rfl⟩ := List.mem_map.1 hx
            exact hok.out y hy
          refine bodyPost_ret (v := (GG.mk u (nl.map (·.n))).val na nc) (by simp [results, Try.results54, go_sem, s0, s1, s2, s3, s4, GG.val]) rfl ⟨⟨u, nl.map (·.n)⟩, na, nc, nl, at7, rfl, rfl, ⟨hu, by show (nl.map (·.n)).length ≤ maxLen; rw [hlj]; unfold maxLen; omega, fun x hx => (hon x hx).1⟩, ?_, ?_, by omega, ?_, ?_⟩
          · show (decide ((nl.map (·.n)).length ≤ 300) && okV (nl.map (·.n)).length u && (nl.map (·.n)).all (okN (nl.map (·.n)).length)) = true
            rw [hlj, huo, decide_eq_true hn300, List.all_eq_true.2 (fun x hx => (hon x hx).2)]
            rfl
          · refine (((hD.own.kept hk7.kept (fun k e hp => ?_) (fun x hx k e hp => ?_)).kept hKc (fun k e hp => ?_) (fun x hx k e hp => ?_)).kept hKR (fun k e hp => ?_) (fun x hx k e hp => ?_)).le (by omega)
            · have := hnb k e; omega
            · have := hvb x hx k e; omega
            · have := hnb k e; omega
            · have := hvb x hx k e; omega
            · have := hnb k e; omega
            · have := hvb x hx k e; omega
          · exact (hk7.dc.kept hKc (by omega) (fun g off e hp => by have := hD.low g off e; omega)).kept hKR (by omega) (fun g off e hp => by have := hD.low g off e; omega)
          · exact ((hD.kept.trans hk7.kept (fun _ _ e => e)).trans hKc (fun k hk e => by omega)).trans hKR (fun k hk e => by omega)
        case first =>
          by_cases hbig : 50 < j
          · have hd3 : (50 : Int) < (j : Int) := by omega
            go_wp2
            go_meet
            case rel => exact ⟨⟨4, 0, ⟨#[]⟩, 0⟩, hq.rootS ⟨4, 0, ⟨#[]⟩, 0⟩, ⟨by unfold I64; dsimp only; omega, by unfold I64; dsimp only; omega, by unfold maxLen; dsimp only; decide, by unfold I64; dsimp only; omega⟩, by simp [okV]; omega, (((hKq.set (fun _ => rfl) _).set (fun _ => rfl) _).set (fun _ => rfl) _).set (fun _ => rfl) _⟩
          · have hd3 : ¬ ((50 : Int) < (j : Int)) := by omega
            go_wp2
            go_meet
            case rel => exact ⟨rv, hq, hrv, hrvo, hKq⟩

end Go.Proofs.Ythjddpkegooobaa
