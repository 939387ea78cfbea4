/-
  SPECCANON: the specification's one form, walked. Own work.
-/
import Derived.Test.YthjddpkegooobaaSpecCanonA
namespace Go.Proofs.Ythjddpkegooobaa
open Go.RowKit

/-- what the one form leaves, in memory of its own -/
def CanonNew (g : GG) (w : World) (e : Ending) (w' : World) : Prop :=
  ∃ na ncap, e = .returned ((canon g).val na ncap) ∧ (∀ p w'', Kept p w' w'' → (∀ b, p b → b < w.heap.size) → NodesAt w''.heap.size w'' na (canon g).nodes) ∧ Below w.heap.size w w'

set_option maxHeartbeats 1000000 in
set_option maxRecDepth 100000 in
theorem specCanon_new (a : Option Addr) (cap : Nat) (g : GG) (w : World) (hok : okG g = true) (ha : NodesAt w.heap.size w a g.nodes) :
    Calls Try.prog 57 #[g.val a cap] w (CanonNew g w) := by
  obtain ⟨hn, hroot, hnodes⟩ := okG_parts hok
  obtain ⟨i0, hi, hz0, hz1, hz2⟩ := info_parts info_int
  obtain ⟨j0, hj, hy0, hy1, hy2⟩ := info_parts info_implVal
  obtain ⟨m0, hm, hx0, hx1, hx2⟩ := info_parts info_implNode
  have hmk := fun u => run_make_row' (P := Try.prog) 144 3 (.int .i64 0) 8 Try.underlying144 info_int rfl .i64 .i64 g.nodes.length (by omega) (by omega) u
  go_enter Try.func57, Try.ntmps57
  go_wp2
  go_loopw [19] (fun i wr => ∃ k : Nat, k ≤ g.nodes.length ∧ i = .int .i64 k ∧ CStart g a cap w wr (fun i => if i < k then .int .i64 (-1) else .int .i64 0)) (fun i _ => g.nodes.length - (intOf i).toNat)
  case atStart =>
    refine ⟨0, Nat.zero_le _, rfl, ?_, ?_, ?_, ?_, ?_, ?_⟩
    · exact gal (gal (gal (gal (gre _) _) _) _) _
    · simp
    · exact (GBox.new w g a cap _).grow (gal (gal (gal (gre _) _) _) _)
    · exact (Five.new_at _ ⟨0, 0, .empty, 0⟩ _ _ _ (by simp)).kept (Kept.of_below (gal (gal (gre _) _) _) (fun _ => False)) (fun h => h)
    · exact (Five.new_at _ ⟨0, 0, .empty, 0⟩ _ _ _ (by simp)).kept (Kept.of_below (gal (gre _) _) (fun _ => False)) (fun h => h)
    · exact ⟨_, blk_new_at _ _ _ (by simp), size_madeCells _ _, fun i hi => by simp [madeCells, hi, Nat.mod_one]⟩
  case round =>
    obtain ⟨k, hk, rfl, hst⟩ := hrel
    by_cases hlt : k < g.nodes.length
    · have d0 := hst.wher.cell hlt
      have df := hst.wher.frozen k
      rw [if_neg (by omega)] at d0
      go_wp2
      go_roundw
      case rel =>
        have h := hst.set k (.int .i64 (-1))
        refine ⟨k + 1, by omega, by go_num, h.low, h.base, h.box, h.res, h.out, h.wher.congr fun i _ => ?_⟩
        by_cases e : i = k
        · rw [if_pos e, if_pos (by omega)]
        · rw [if_neg e]
          by_cases e2 : i < k
          · rw [if_pos e2, if_pos (by omega)]
          · rw [if_neg e2, if_neg (by omega)]
      case measure => simp [intOf]; omega
    · have e : k = g.nodes.length := by omega
      subst e
      have hw0 := hst.wher.congr (g := fun i => .int .i64 (whereOf [] i)) (fun i hi => by rw [if_pos hi, whereOf_neg (by simp)])
      have b0 := hst.box.kind
      have b1 := hst.box.num
      have b2 := hst.box.text
      have b3 := hst.box.node
      go_wp2_with (go_at_call 114; refine (l1renamed_any (w.heap.size + 1 + 1 + 1 + 1) g.nodes.length [] g.root (w.heap.size + 1 + 1 + 1) none 0 _ hroot (InvO.nil _) hn (by omega) hst.base hw0 (World.ownsRow_nil _ _ _ _)).mono ?_; rintro e w1 ⟨oa, ocap, rfl, hw1, ho1, hoa, hK1⟩; obtain ⟨zo, o0, o1, o2, o3, o4, of⟩ := hst.out.kept hK1 (by simp))
      have hS := CState.start hst hw1 ho1 hK1
      clear hst hw0 b0 b1 b2 b3 hw1 ho1 hK1 zo o0 o1 o2 o3 o4 of hoa
      go_loopw [6, 7] (fun o i ws => ∃ (k : Nat) (ord : List Nat) (oa : Option Addr) (ocap : Nat) (na : Option Addr) (ncap : Nat) (nl : List NL), Hid (ord = canonO g.nodes (renOrd [] g.root) k) ∧ Hid (nl.map (·.n) = canonN g.nodes (renOrd [] g.root) k) ∧ Hid (nl.length = k) ∧ k ≤ ord.length ∧ i = .int .i64 k ∧ o = .slice oa ord.length ocap ∧ CState g a cap w ws ord oa ocap na ncap nl) (fun _ i _ => g.nodes.length - (intOf i).toNat)
      case atStart => exact ⟨0, _, oa, ocap, none, 0, [], by unfold canonO; rfl, by unfold canonN; rfl, rfl, Nat.zero_le _, rfl, rfl, hS⟩
      case round =>
        clear hS
        rename World => wo
        obtain ⟨k, ord, oa, ocap, na, ncap, nl, hord, hnl, hnk, hkl, rfl, rfl, hS⟩ := hrel
        have hinv : InvO g.nodes.length ord := by rw [hord.out]; exact canonO_inv ((InvO.nil _).ren hroot) hnodes k
        have hol := hinv.le
        by_cases hlt : k < ord.length
        · obtain ⟨x, hx⟩ : ∃ x, Hid (x = ord[k]!) := ⟨_, rfl⟩
          have hxn : x < g.nodes.length := by rw [hx.out]; exact hinv.2 _ (mem_at hlt)
          obtain ⟨og, rfl, hog1, hog2, hoc⟩ := owns_cell hS.ordr (ints_get hlt)
          rw [← hx.out] at hoc
          obtain ⟨n, b, off, av, cv, hnx, hnm, rfl, hbs, hva⟩ := ha.get hxn
          have hva := hva.below hS.low hbs
          have c0 := hva.tag
          have c1 := hva.sl
          have hv1 : ValsAt w.heap.size wo av n.vals := hva.vals
          have hwo := hS.low.size
          have hbx := hS.box.sl
          have hbl := hS.box.lt
          have hbb : b < wo.heap.size := Nat.lt_of_lt_of_le hbs hS.low.size
          have i0' : (0 : Int) ≤ (k : Int) := by omega
          have i1' : (k : Int) < (ord.length : Int) := by omega
          have i2' : (0 : Int) ≤ (x : Int) := by omega
          have i3' : (x : Int) < (g.nodes.length : Int) := by omega
          have ne1 := World.new_ne wo _ hoc
          have ne2 := World.new_ne wo _ c0
          have ne3 := World.new_ne wo _ c1
          have ne4 := World.new_ne wo _ hbx
          go_wp2
          go_region_held3 (fun u => u.cell? ⟨w.heap.size, 4, none⟩ = some (.slice (some ⟨b, off, none⟩) g.nodes.length cap) ∧ u.cell? ⟨og, k, none⟩ = some (.int .i64 (x : Int)) ∧ u.cell? ⟨b, off + x * 2, none⟩ = some (.int .i64 n.tag) ∧ u.cell? ⟨b, off + x * 2 + 1, none⟩ = some (.slice av n.vals.length cv)) (go_keep) (fail)
          go_wp2_with fail
          have hD := DState.start hS n (.slice av n.vals.length cv)
          have hnok := okN_parts (hnodes n hnm)
          have hvl := hnok.1
          clear ne1 ne2 ne3 ne4 hoc c0 c1 hbx
          go_loopw [6, 55] (fun o i ws => ∃ (j : Nat) (ord' : List Nat) (oa' : Option Addr) (ocap' : Nat) (xa : Option Addr) (xcap : Nat) (vs : List GV), Hid (ord' = renOrds ord (n.vals.take j)) ∧ Hid (vs = renVals ord (n.vals.take j)) ∧ Hid (vs.length = j) ∧ j ≤ n.vals.length ∧ i = .int .i64 j ∧ o = .slice oa' ord'.length ocap' ∧ DState g w wo ws n ord' (some ⟨og, 0, none⟩) oa' ocap' xa xcap vs) (fun _ i _ => n.vals.length - (intOf i).toNat)
          case atStart => exact ⟨0, ord, _, ocap, none, 0, [], rfl, rfl, rfl, Nat.zero_le _, rfl, rfl, hD⟩
          case round =>
            clear hD
            obtain ⟨j, ord', oa', ocap', xa, xcap, vs, hord', hvs, hvsl, hjle, rfl, rfl, hD⟩ := hrel
            have hz := hD.size
            have hb2 : Below w.heap.size wo wr := hD.kept.below hwo (fun k hk hp => by
              rcases hp with hp | hp
              · omega
              · have e := congrArg (fun q => q.map Addr.block) hp
                simp only [Option.map_some, Option.some.injEq] at e
                omega)
            by_cases hjl : j < n.vals.length
            · obtain ⟨v, bb, oo, hvj, hvm, rfl, hbs2, hva2⟩ := (hv1.below hb2).get hjl
              have q0 := hva2.kind
              have q1 := hva2.num
              have q2 := hva2.text
              have q3 := hva2.node
              have hb3 : w.heap.size ≤ wr.heap.size := Nat.le_trans hwo hb2.size
              have hbl2 : bb < wr.heap.size := by omega
              have hinv' : InvO g.nodes.length ord' := by rw [hord'.out]; exact hinv.rens (fun v hv => hnok.2 v (List.mem_of_mem_take hv))
              have hvok := hnok.2 v hvm
              have hbase : w.heap.size + 1 + 1 + 1 + 1 ≤ wr.heap.size := by have := hS.base; omega
              have hog0 : ∀ b, (some (⟨og, 0, none⟩ : Addr)) = some ⟨b, 0, none⟩ → b < wo.heap.size := fun b hb => by
                have e := congrArg (fun q => q.map Addr.block) hb
                simp only [Option.map_some, Option.some.injEq] at e
                omega
              have hlo := hS.base
              go_wp2_with (first
                | (go_at_call 114; refine (l1renamed_any (w.heap.size + 1 + 1 + 1 + 1) g.nodes.length ord' v (w.heap.size + 1 + 1 + 1) oa' ocap' _ hvok hinv' hn (by omega) (by simp; omega) ((hD.wher.alloc _).alloc _) ((hD.ordr.alloc _).alloc _)).mono ?_; rintro e w2 ⟨oa2, ocap2, rfl, hw2, ho2, hoa2, hK2⟩; obtain ⟨hy, hx2, hv2⟩ := hD.mid hlo hog0 hK2; obtain ⟨yz, y0, y1, y2, y3, yf⟩ := hy; obtain ⟨xz, x0, x1, xf⟩ := id hx2)
                | (at_builtin; go_must (refine wpList_append_lies _ rfl (.tmp 67) (.tmp 69) 82 rfl (wo.heap.size + 1 + 1) 24 j0 _ 4 40 Try.underlying82 hj hy0 hy1 hy2 rfl (by decide) (.slice xa vs.length xcap) vs.length (valCells vs) rfl (((Kept.put4 w2 (wr.heap.size + 1) (renVal ord' v)).owns hv2 (fun k hk hp => by have h9 := hv2.lt k hk; have h8 := (hD.far hlo hog0).2 k (owns_addr hv2 hk); omega)).alloc _) ⟨w2.heap.size, 0, none⟩ 1 1 (renVal ord' v).four rfl rfl (World.news_of_block (cs := #[.int .i64 (renVal ord' v).kind, .int .i64 (renVal ord' v).num, .string (renVal ord' v).text, .int .i64 (renVal ord' v).node]) (t := 24) (fr := (0, 0)) (blk_new_at _ _ _ (by simp))) (by simp [GV.four, Value.oneCell']) (by decide) (by have h7 := hvsl.out; unfold maxLen; omega) (by have h7 := hvsl.out; omega) (by simp; omega) (w2.heap.size + 1) (by simp) ?_); intro gg cc w3 hown3 hgrow3 hat3 hlt3; obtain ⟨tz, t0, t1, tf⟩ := (hx2.kept ((Kept.put4 w2 (wr.heap.size + 1) (renVal ord' v)).alloc _) (by omega)).kept (Kept.of_grown hgrow3) (fun hp => by have h8 := (hD.far hlo hog0).2 _ (owns_addr hv2 hp); omega)))
              have hfin := hD.step hlo hog0 v hw2 ho2 hoa2 hK2 hown3 hgrow3 hat3
              have hs1 : Hid (renOrds ord (n.vals.take (j + 1)) = renOrd ord' v) := by rw [renOrds_take_succ _ _ _ hjl, ← hvj.out, ← hord'.out]; rfl
              have hs2 : Hid (renVals ord (n.vals.take (j + 1)) = vs ++ [renVal ord' v]) := by rw [renVals_take_succ _ _ _ hjl, ← hvj.out, ← hord'.out, ← hvs.out]; rfl
              go_roundw
              case rel => exact ⟨j + 1, renOrd ord' v, oa2, ocap2, some ⟨gg, 0, none⟩, cc, vs ++ [renVal ord' v], hs1.out.symm, hs2.out.symm, by have := hvsl.out; show (vs ++ [renVal ord' v]).length = j + 1; simp [this], by omega, by go_num, rfl, hfin⟩
              case measure => simp [intOf]; omega
            · have e : j = n.vals.length := by omega
              have hf1 : Hid (canonO g.nodes (renOrd [] g.root) (k + 1) = ord') := by
                rw [canonO_succ, ← hord.out, if_pos hlt, ← hx.out, ← hnx.out]
                rw [hord'.out, e, List.take_length]; rfl
              have hf2 : Hid (canonN g.nodes (renOrd [] g.root) (k + 1) = nl.map (·.n) ++ [⟨n.tag, vs⟩]) := by
                rw [canonN_succ, ← hord.out, if_pos hlt, ← hx.out, ← hnx.out, ← hnl.out]
                rw [hvs.out, e, List.take_length]; rfl
              have hf3 : ord.length ≤ ord'.length := by
                rw [hord'.out]; exact renOrds_le ord _
              obtain ⟨hout, hnr⟩ := hS.seen hD
              obtain ⟨oz, o0, o1, o2, o3, o4, ofr⟩ := id hout
              obtain ⟨xz, x0, x1, xf⟩ := hD.x
              have hlo := hS.base
              go_wp2_with (at_builtin; go_must (refine wpList_append_lies _ rfl (.tmp 74) (.tmp 76) 25 rfl (w.heap.size + 1 + 1 + 1 + 1) 84 m0 _ 2 32 Try.underlying25 hm hx0 hx1 hx2 rfl (by decide) (.slice na nl.length ncap) nl.length (nodeCells nl) rfl (hnr.alloc _) ⟨wr.heap.size, 0, none⟩ 1 1 [.int .i64 n.tag, .slice xa vs.length xcap] rfl rfl (World.news_of_block (cs := #[.int .i64 n.tag, .slice xa vs.length xcap]) (t := 84) (fr := (0, 0)) (blk_new_at _ _ _ (by simp))) (by simp [Value.oneCell']) (by decide) (by have h7 := hnk.out; unfold maxLen; omega) (by have h7 := hnk.out; omega) (by simp; omega) (wr.heap.size + 1) (by simp) ?_); intro gg cc w3 hown3 hgrow3 hat3 hlt3; obtain ⟨tz, t0, t1, t2, t3, t4, tf⟩ := (hout.kept ((Kept.refl (fun _ => False) wr).alloc _) (fun e => e)).kept (Kept.of_grown hgrow3) (fun hp => by have h8 := (hnr.lt _ hp).1; omega))
              have hfin := hS.next hD hown3 hgrow3 hat3
              go_roundw
              case rel => exact ⟨k + 1, ord', oa', ocap', some ⟨gg, 0, none⟩, cc, nl ++ [⟨⟨n.tag, vs⟩, xa, xcap⟩], hf1.out.symm, by rw [hf2.out]; simp [Hid], by have := hnk.out; show (nl ++ [_]).length = k + 1; simp [this], by omega, by go_num, rfl, hfin⟩
              case measure => simp [intOf]; omega
        · have e : ord.length = k := by omega
          have hc : Hid (canon g = ⟨renVal [] g.root, nl.map (·.n)⟩) := by
            rw [hnl.out]
            exact canon_at (by omega) (by rw [← hord.out]; omega)
          obtain ⟨oz, o0, o1, o2, o3, o4, ofr⟩ := hS.out
          obtain ⟨rz, r0, r1, r2, r3, r4, rfr⟩ := hS.res
          have hlow := hS.low
          have hC : Kept (fun k => k = w.heap.size + 1) wo (((((wo.setCell ⟨w.heap.size + 1, 0, none⟩ (.int .i64 (renVal [] g.root).kind)).setCell ⟨w.heap.size + 1, 1, none⟩ (.int .i64 (renVal [] g.root).num)).setCell ⟨w.heap.size + 1, 2, none⟩ (.string (renVal [] g.root).text)).setCell ⟨w.heap.size + 1, 3, none⟩ (.int .i64 (renVal [] g.root).node)).setCell ⟨w.heap.size + 1, 4, none⟩ (.slice na nl.length ncap)) :=
            (Kept.put4 wo (w.heap.size + 1) (renVal [] g.root)).set (fun _ => rfl) _
          have hN : ∀ p w'', Kept p (((((wo.setCell ⟨w.heap.size + 1, 0, none⟩ (.int .i64 (renVal [] g.root).kind)).setCell ⟨w.heap.size + 1, 1, none⟩ (.int .i64 (renVal [] g.root).num)).setCell ⟨w.heap.size + 1, 2, none⟩ (.string (renVal [] g.root).text)).setCell ⟨w.heap.size + 1, 3, none⟩ (.int .i64 (renVal [] g.root).node)).setCell ⟨w.heap.size + 1, 4, none⟩ (.slice na nl.length ncap)) w'' → (∀ b, p b → b < w.heap.size) → NodesAt w''.heap.size w'' na (nl.map (·.n)) := fun p w'' hk hp => owns_nodes (hk.owns (hC.owns hS.nodes (fun k hk hp => by have := (hS.nodes.lt k hk).1; omega)) (fun k hk hpk => by have h8 := hp k hpk; have := (hS.nodes.lt k hk).1; omega)) (fun x hx => owns_vals (hk.owns (hC.owns (hS.vals x hx) (fun k hk hp => by have := ((hS.vals x hx).lt k hk).1; omega)) (fun k hk hpk => by have h8 := hp k hpk; have := ((hS.vals x hx).lt k hk).1; omega)) (Nat.le_refl _))
          have hlow2 := hlow.trans (hC.below hlow.size (fun k hk hp => by omega))
          have hlen : Hid ((canon g).val na ncap = .agg #[.int .i64 (renVal [] g.root).kind, .int .i64 (renVal [] g.root).num, .string (renVal [] g.root).text, .int .i64 (renVal [] g.root).node, .slice na nl.length ncap]) := by
            rw [hc.out]; simp [Hid]
          have hN2 : Hid (canon g = ⟨renVal [] g.root, nl.map (·.n)⟩) := hc
          clear e
          go_wp2
          exact bodyPost_ret (v := .agg #[.int .i64 (renVal [] g.root).kind, .int .i64 (renVal [] g.root).num, .string (renVal [] g.root).text, .int .i64 (renVal [] g.root).node, .slice na nl.length ncap]) (by simp [results, Try.results57, go_sem, r0, r1, r2, r3, r4]) rfl
            ⟨na, ncap, by rw [hlen.out], by rw [hN2.out]; exact hN, hlow2⟩

set_option maxRecDepth 100000 in
theorem specCanon_any (a : Option Addr) (cap : Nat) (g : GG) (w : World) (hok : okG g = true) (ha : NodesAt w.heap.size w a g.nodes) :
    Calls Try.prog 57 #[g.val a cap] w (CanonPost g w) := by
  refine (specCanon_new a cap g w hok ha).mono ?_
  rintro e w' ⟨na, nc, rfl, hn, hb⟩
  exact ⟨na, nc, rfl, hn (fun _ => False) w' (Kept.refl _ _) (fun _ e => e.elim), hb⟩

end Go.Proofs.Ythjddpkegooobaa
