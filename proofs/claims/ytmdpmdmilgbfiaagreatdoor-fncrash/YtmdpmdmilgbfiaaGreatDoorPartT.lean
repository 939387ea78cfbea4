import Derived.Test.YtmdpmdmilgbfiaaGreatDoorPartK
import Derived.Test.YtmdpmdmilgbfiaaGreatDoorPartS

namespace Go.Proofs.YtmdpmdmilgbfiaaGreatDoor
open Go.RowKit

def CanonNew (g : GG) (w : World) (e : Ending) (w' : World) : Prop :=
  ∃ na ncap, e = .returned ((canon g).val na ncap) ∧ (∀ p w'', Kept p w' w'' → (∀ b, p b → b < w.heap.size) → NodesAt w''.heap.size w'' na (canon g).nodes) ∧ Below w.heap.size w w'

set_option maxHeartbeats 1000000 in
set_option maxRecDepth 100000 in
theorem specCanon_new (a : Option Addr) (cap : Nat) (g : GG) (w : World) (hok : okG g = true) (ha : NodesAt w.heap.size w a g.nodes) :
    Calls Tryz.prog 61 #[g.val a cap] w (CanonNew g w) := by
  obtain ⟨hn, hroot, hnodes⟩ := okG_parts hok
  obtain ⟨i0, hi, hz0, hz1, hz2⟩ := info_parts info_int
  obtain ⟨j0, hj, hy0, hy1, hy2⟩ := info_parts info_implVal
  obtain ⟨m0, hm, hx0, hx1, hx2⟩ := info_parts info_implNode
  have hmk := fun u => run_make_row' (P := Tryz.prog) 165 3 (.int .i64 0) 8 Tryz.underlying165 info_int rfl .i64 .i64 g.nodes.length (by omega) (by omega) u
  go_enter Tryz.func61, Tryz.ntmps61
  go_wp2
  go_loopw [19] (fun i wr => ∃ k : Nat, k ≤ g.nodes.length ∧ i = .int .i64 k ∧ CStart g a cap w wr (fun i => if i < k then .int .i64 (-1) else .int .i64 0)) (fun i _ => g.nodes.length - (intOf i).toNat)
  case atStart =>
    refine ⟨0, Nat.zero_le _, rfl, ?_, ?_, ?_, ?_, ?_, ?_⟩
    · exact gal (gal (gal (gal (gre _) _) _) _) _
    · simp
    · exact (GBox.new w g a cap _).grow (gal (gal (gal (gre _) _) _) _)
    · exact (Five.new_at _ ⟨0, 0, .empty, 0⟩ _ _ _ (by simp)).kept (Kept.of_below (gal (gal (gre _) _) _) (fun _ => False)) (fun h => h)
    · exact (Five.new_at _ ⟨0, 0, .empty, 0⟩ _ _ _ (by simp)).kept (Kept.of_below (gal (gre _) _) (fun _ => False)) (fun h => h)
    · exact ⟨_, blk_new_at _ _ _ (by simp), size_madeCells _ _, fun i hi => by simp [madeCells, hi, Nat.mod_one]⟩
  case round =>
    obtain ⟨k, hk, rfl, hst⟩ := hrel
    by_cases hlt : k < g.nodes.length
    · have d0 := hst.wher.cell hlt
      have df := hst.wher.frozen k
      rw [if_neg (by omega)] at d0
      go_wp2
      go_roundw
      case rel =>
        have h := hst.set k (.int .i64 (-1))
        refine ⟨k + 1, by omega, by go_num, h.low, h.base, h.box, h.res, h.out, h.wher.congr fun i _ => ?_⟩
        by_cases e : i = k
        · rw [if_pos e, if_pos (by omega)]
        · rw [if_neg e]
          by_cases e2 : i < k
          · rw [if_pos e2, if_pos (by omega)]
          · rw [if_neg e2, if_neg (by omega)]
      case measure => simp [intOf]; omega
    · have e : k = g.nodes.length := by omega
      subst e
      have hw0 := hst.wher.congr (g := fun i => .int .i64 (whereOf [] i)) (fun i hi => by rw [if_pos hi, whereOf_neg (by simp)])
      have b0 := hst.box.kind
      have b1 := hst.box.num
      have b2 := hst.box.text
      have b3 := hst.box.node
      go_wp2_with (go_at_call 100; refine (l1renamed_any (w.heap.size + 1 + 1 + 1 + 1) g.nodes.length [] g.root (w.heap.size + 1 + 1 + 1) none 0 _ hroot (InvO.nil _) hn (by omega) hst.base hw0 (World.ownsRow_nil _ _ _ _)).mono ?_; rintro e w1 ⟨oa, ocap, rfl, hw1, ho1, hoa, hK1⟩; obtain ⟨zo, o0, o1, o2, o3, o4, of⟩ := hst.out.kept hK1 (by simp))
      have hS := CState.start hst hw1 ho1 hK1
      clear hst hw0 b0 b1 b2 b3 hw1 ho1 hK1 zo o0 o1 o2 o3 o4 of hoa
      go_loopw [6, 7] (fun o i ws => ∃ (k : Nat) (ord : List Nat) (oa : Option Addr) (ocap : Nat) (na : Option Addr) (ncap : Nat) (nl : List NL), Hid (ord = canonO g.nodes (renOrd [] g.root) k) ∧ Hid (nl.map (·.n) = canonN g.nodes (renOrd [] g.root) k) ∧ Hid (nl.length = k) ∧ k ≤ ord.length ∧ i = .int .i64 k ∧ o = .slice oa ord.length ocap ∧ CState g a cap w ws ord oa ocap na ncap nl) (fun _ i _ => g.nodes.length - (intOf i).toNat)
      case atStart => exact ⟨0, _, oa, ocap, none, 0, [], by unfold canonO; rfl, by unfold canonN; rfl, rfl, Nat.zero_le _, rfl, rfl, hS⟩
      case round =>
        clear hS
        rename World => wo
        obtain ⟨k, ord, oa, ocap, na, ncap, nl, hord, hnl, hnk, hkl, rfl, rfl, hS⟩ := hrel
        have hinv : InvO g.nodes.length ord := by rw [hord.out]; exact canonO_inv ((InvO.nil _).ren hroot) hnodes k
        have hol := hinv.le
        by_cases hlt : k < ord.length
        · obtain ⟨x, hx⟩ : ∃ x, Hid (x = ord[k]!) := ⟨_, rfl⟩
          have hxn : x < g.nodes.length := by rw [hx.out]; exact hinv.2 _ (mem_at hlt)
          obtain ⟨og, rfl, hog1, hog2, hoc⟩ := owns_cell hS.ordr (ints_get hlt)
          rw [← hx.out] at hoc
          obtain ⟨n, b, off, av, cv, hnx, hnm, rfl, hbs, hva⟩ := ha.get hxn
          have hva := hva.below hS.low hbs
          have c0 := hva.tag
          have c1 := hva.sl
          have hv1 : ValsAt w.heap.size wo av n.vals := hva.vals
          have hwo := hS.low.size
          have hbx := hS.box.sl
          have hbl := hS.box.lt
          have hbb : b < wo.heap.size := Nat.lt_of_lt_of_le hbs hS.low.size
          have i0' : (0 : Int) ≤ (k : Int) := by omega
          have i1' : (k : Int) < (ord.length : Int) := by omega
          have i2' : (0 : Int) ≤ (x : Int) := by omega
          have i3' : (x : Int) < (g.nodes.length : Int) := by omega
          have ne1 := World.new_ne wo _ hoc
          have ne2 := World.new_ne wo _ c0
          have ne3 := World.new_ne wo _ c1
          have ne4 := World.new_ne wo _ hbx
          go_wp2
          go_region_held3 (fun u => u.cell? ⟨w.heap.size, 4, none⟩ = some (.slice (some ⟨b, off, none⟩) g.nodes.length cap) ∧ u.cell? ⟨og, k, none⟩ = some (.int .i64 (x : Int)) ∧ u.cell? ⟨b, off + x * 2, none⟩ = some (.int .i64 n.tag) ∧ u.cell? ⟨b, off + x * 2 + 1, none⟩ = some (.slice av n.vals.length cv)) (go_keep) (fail)
          go_wp2_with fail
          have hD := DState.start hS n (.slice av n.vals.length cv)
          have hnok := okN_parts (hnodes n hnm)
          have hvl := hnok.1
          clear ne1 ne2 ne3 ne4 hoc c0 c1 hbx
          go_loopw [6, 55] (fun o i ws => ∃ (j : Nat) (ord' : List Nat) (oa' : Option Addr) (ocap' : Nat) (xa : Option Addr) (xcap : Nat) (vs : List GV), Hid (ord' = renOrds ord (n.vals.take j)) ∧ Hid (vs = renVals ord (n.vals.take j)) ∧ Hid (vs.length = j) ∧ j ≤ n.vals.length ∧ i = .int .i64 j ∧ o = .slice oa' ord'.length ocap' ∧ DState g w wo ws n ord' (some ⟨og, 0, none⟩) oa' ocap' xa xcap vs) (fun _ i _ => n.vals.length - (intOf i).toNat)
          case atStart => exact ⟨0, ord, _, ocap, none, 0, [], rfl, rfl, rfl, Nat.zero_le _, rfl, rfl, hD⟩
          case round =>
            clear hD
            obtain ⟨j, ord', oa', ocap', xa, xcap, vs, hord', hvs, hvsl, hjle, rfl, rfl, hD⟩ := hrel
            have hz := hD.size
            have hb2 : Below w.heap.size wo wr := hD.kept.below hwo (fun k hk hp => by
              rcases hp with hp | hp
              · omega
              · have e := congrArg (fun q => q.map Addr.block) hp
                simp only [Option.map_some, Option.some.injEq] at e
                omega)
            by_cases hjl : j < n.vals.length
            · obtain ⟨v, bb, oo, hvj, hvm, rfl, hbs2, hva2⟩ := (hv1.below hb2).get hjl
              have q0 := hva2.kind
              have q1 := hva2.num
              have q2 := hva2.text
              have q3 := hva2.node
              have hb3 : w.heap.size ≤ wr.heap.size := Nat.le_trans hwo hb2.size
              have hbl2 : bb < wr.heap.size := by omega
              have hinv' : InvO g.nodes.length ord' := by rw [hord'.out]; exact hinv.rens (fun v hv => hnok.2 v (List.mem_of_mem_take hv))
              have hvok := hnok.2 v hvm
              have hbase : w.heap.size + 1 + 1 + 1 + 1 ≤ wr.heap.size := by have := hS.base; omega
              have hog0 : ∀ b, (some (⟨og, 0, none⟩ : Addr)) = some ⟨b, 0, none⟩ → b < wo.heap.size := fun b hb => by
                have e := congrArg (fun q => q.map Addr.block) hb
                simp only [Option.map_some, Option.some.injEq] at e
                omega
              have hlo := hS.base
              go_wp2_with (first
                | (go_at_call 100; refine (l1renamed_any (w.heap.size + 1 + 1 + 1 + 1) g.nodes.length ord' v (w.heap.size + 1 + 1 + 1) oa' ocap' _ hvok hinv' hn (by omega) (by simp; omega) ((hD.wher.alloc _).alloc _) ((hD.ordr.alloc _).alloc _)).mono ?_; rintro e w2 ⟨oa2, ocap2, rfl, hw2, ho2, hoa2, hK2⟩; obtain ⟨hy, hx2, hv2⟩ := hD.mid hlo hog0 hK2; obtain ⟨yz, y0, y1, y2, y3, yf⟩ := hy; obtain ⟨xz, x0, x1, xf⟩ := id hx2)
                | (at_builtin; go_must (refine wpList_append_lies _ rfl (.tmp 67) (.tmp 69) 35 rfl (wo.heap.size + 1 + 1) 29 j0 _ 4 40 Tryz.underlying35 hj hy0 hy1 hy2 rfl (by decide) (.slice xa vs.length xcap) vs.length (valCells vs) rfl (((Kept.put4 w2 (wr.heap.size + 1) (renVal ord' v)).owns hv2 (fun k hk hp => by have h9 := hv2.lt k hk; have h8 := (hD.far hlo hog0).2 k (owns_addr hv2 hk); omega)).alloc _) ⟨w2.heap.size, 0, none⟩ 1 1 (renVal ord' v).four rfl rfl (World.news_of_block (cs := #[.int .i64 (renVal ord' v).kind, .int .i64 (renVal ord' v).num, .string (renVal ord' v).text, .int .i64 (renVal ord' v).node]) (t := 29) (fr := (0, 0)) (blk_new_at _ _ _ (by simp))) (by simp [GV.four, Value.oneCell']) (by decide) (by have h7 := hvsl.out; unfold maxLen; omega) (by have h7 := hvsl.out; omega) (by simp; omega) (w2.heap.size + 1) (by simp) ?_); intro gg cc w3 hown3 hgrow3 hat3 hlt3; obtain ⟨tz, t0, t1, tf⟩ := (hx2.kept ((Kept.put4 w2 (wr.heap.size + 1) (renVal ord' v)).alloc _) (by omega)).kept (Kept.of_grown hgrow3) (fun hp => by have h8 := (hD.far hlo hog0).2 _ (owns_addr hv2 hp); omega)))
              have hfin := hD.step hlo hog0 v hw2 ho2 hoa2 hK2 hown3 hgrow3 hat3
              have hs1 : Hid (renOrds ord (n.vals.take (j + 1)) = renOrd ord' v) := by rw [renOrds_take_succ _ _ _ hjl, ← hvj.out, ← hord'.out]; rfl
              have hs2 : Hid (renVals ord (n.vals.take (j + 1)) = vs ++ [renVal ord' v]) := by rw [renVals_take_succ _ _ _ hjl, ← hvj.out, ← hord'.out, ← hvs.out]; rfl
              go_roundw
              case rel => exact ⟨j + 1, renOrd ord' v, oa2, ocap2, some ⟨gg, 0, none⟩, cc, vs ++ [renVal ord' v], hs1.out.symm, hs2.out.symm, by have := hvsl.out; show (vs ++ [renVal ord' v]).length = j + 1; simp [this], by omega, by go_num, rfl, hfin⟩
              case measure => simp [intOf]; omega
            · have e : j = n.vals.length := by omega
              have hf1 : Hid (canonO g.nodes (renOrd [] g.root) (k + 1) = ord') := by
                rw [canonO_succ, ← hord.out, if_pos hlt, ← hx.out, ← hnx.out]
                rw [hord'.out, e, List.take_length]; rfl
              have hf2 : Hid (canonN g.nodes (renOrd [] g.root) (k + 1) = nl.map (·.n) ++ [⟨n.tag, vs⟩]) := by
                rw [canonN_succ, ← hord.out, if_pos hlt, ← hx.out, ← hnx.out, ← hnl.out]
                rw [hvs.out, e, List.take_length]; rfl
              have hf3 : ord.length ≤ ord'.length := by
                rw [hord'.out]; exact renOrds_le ord _
              obtain ⟨hout, hnr⟩ := hS.seen hD
              obtain ⟨oz, o0, o1, o2, o3, o4, ofr⟩ := id hout
              obtain ⟨xz, x0, x1, xf⟩ := hD.x
              have hlo := hS.base
              go_wp2_with (at_builtin; go_must (refine wpList_append_lies _ rfl (.tmp 74) (.tmp 76) 30 rfl (w.heap.size + 1 + 1 + 1 + 1) 37 m0 _ 2 32 Tryz.underlying30 hm hx0 hx1 hx2 rfl (by decide) (.slice na nl.length ncap) nl.length (nodeCells nl) rfl (hnr.alloc _) ⟨wr.heap.size, 0, none⟩ 1 1 [.int .i64 n.tag, .slice xa vs.length xcap] rfl rfl (World.news_of_block (cs := #[.int .i64 n.tag, .slice xa vs.length xcap]) (t := 37) (fr := (0, 0)) (blk_new_at _ _ _ (by simp))) (by simp [Value.oneCell']) (by decide) (by have h7 := hnk.out; unfold maxLen; omega) (by have h7 := hnk.out; omega) (by simp; omega) (wr.heap.size + 1) (by simp) ?_); intro gg cc w3 hown3 hgrow3 hat3 hlt3; obtain ⟨tz, t0, t1, t2, t3, t4, tf⟩ := (hout.kept ((Kept.refl (fun _ => False) wr).alloc _) (fun e => e)).kept (Kept.of_grown hgrow3) (fun hp => by have h8 := (hnr.lt _ hp).1; omega))
              have hfin := hS.next hD hown3 hgrow3 hat3
              go_roundw
              case rel => exact ⟨k + 1, ord', oa', ocap', some ⟨gg, 0, none⟩, cc, nl ++ [⟨⟨n.tag, vs⟩, xa, xcap⟩], hf1.out.symm, by rw [hf2.out]; simp [Hid], by have := hnk.out; show (nl ++ [_]).length = k + 1; simp [this], by omega, by go_num, rfl, hfin⟩
              case measure => simp [intOf]; omega
        · have e : ord.length = k := by omega
          have hc : Hid (canon g = ⟨renVal [] g.root, nl.map (·.n)⟩) := by
            rw [hnl.out]
            exact canon_at (by omega) (by rw [← hord.out]; omega)
          obtain ⟨oz, o0, o1, o2, o3, o4, ofr⟩ := hS.out
          obtain ⟨rz, r0, r1, r2, r3, r4, rfr⟩ := hS.res
          have hlow := hS.low
          have hC : Kept (fun k => k = w.heap.size + 1) wo (((((wo.setCell ⟨w.heap.size + 1, 0, none⟩ (.int .i64 (renVal [] g.root).kind)).setCell ⟨w.heap.size + 1, 1, none⟩ (.int .i64 (renVal [] g.root).num)).setCell ⟨w.heap.size + 1, 2, none⟩ (.string (renVal [] g.root).text)).setCell ⟨w.heap.size + 1, 3, none⟩ (.int .i64 (renVal [] g.root).node)).setCell ⟨w.heap.size + 1, 4, none⟩ (.slice na nl.length ncap)) :=
            (Kept.put4 wo (w.heap.size + 1) (renVal [] g.root)).set (fun _ => rfl) _
          have hN : ∀ p w'', Kept p (((((wo.setCell ⟨w.heap.size + 1, 0, none⟩ (.int .i64 (renVal [] g.root).kind)).setCell ⟨w.heap.size + 1, 1, none⟩ (.int .i64 (renVal [] g.root).num)).setCell ⟨w.heap.size + 1, 2, none⟩ (.string (renVal [] g.root).text)).setCell ⟨w.heap.size + 1, 3, none⟩ (.int .i64 (renVal [] g.root).node)).setCell ⟨w.heap.size + 1, 4, none⟩ (.slice na nl.length ncap)) w'' → (∀ b, p b → b < w.heap.size) → NodesAt w''.heap.size w'' na (nl.map (·.n)) := fun p w'' hk hp => owns_nodes (hk.owns (hC.owns hS.nodes (fun k hk hp => by have := (hS.nodes.lt k hk).1; omega)) (fun k hk hpk => by have h8 := hp k hpk; have := (hS.nodes.lt k hk).1; omega)) (fun x hx => owns_vals (hk.owns (hC.owns (hS.vals x hx) (fun k hk hp => by have := ((hS.vals x hx).lt k hk).1; omega)) (fun k hk hpk => by have h8 := hp k hpk; have := ((hS.vals x hx).lt k hk).1; omega)) (Nat.le_refl _))
          have hlow2 := hlow.trans (hC.below hlow.size (fun k hk hp => by omega))
          have hlen : Hid ((canon g).val na ncap = .agg #[.int .i64 (renVal [] g.root).kind, .int .i64 (renVal [] g.root).num, .string (renVal [] g.root).text, .int .i64 (renVal [] g.root).node, .slice na nl.length ncap]) := by
            rw [hc.out]; simp [Hid]
          have hN2 : Hid (canon g = ⟨renVal [] g.root, nl.map (·.n)⟩) := hc
          clear e
          go_wp2
          exact bodyPost_ret (v := .agg #[.int .i64 (renVal [] g.root).kind, .int .i64 (renVal [] g.root).num, .string (renVal [] g.root).text, .int .i64 (renVal [] g.root).node, .slice na nl.length ncap]) (by simp [results, Tryz.results61, go_sem, r0, r1, r2, r3, r4]) rfl
            ⟨na, ncap, by rw [hlen.out], by rw [hN2.out]; exact hN, hlow2⟩

set_option maxRecDepth 100000 in
theorem specCanon_any (a : Option Addr) (cap : Nat) (g : GG) (w : World) (hok : okG g = true) (ha : NodesAt w.heap.size w a g.nodes) :
    Calls Tryz.prog 61 #[g.val a cap] w (CanonPost g w) := by
  refine (specCanon_new a cap g w hok ha).mono ?_
  rintro e w' ⟨na, nc, rfl, hn, hb⟩
  exact ⟨na, nc, rfl, hn (fun _ => False) w' (Kept.refl _ _) (fun _ e => e.elim), hb⟩

end Go.Proofs.YtmdpmdmilgbfiaaGreatDoor

namespace Go.Proofs.YtmdpmdmilgbfiaaGreatDoor
open Go.RowKit

set_option maxRecDepth 100000 in
theorem wpList_append_str {P : Program} {ops : Array Oper} {rest : List Oper} {o : Oper} {a : Act} {Q : Exit → Act → World → Prop} {w : World} (hgd : o.guard = none) (sl x : Operand) (t u : TypeId)
    (ho : o.op = .call { callee := .builtin .append, args := #[sl, x], argTypes := #[t, u] })
    (base : Nat) (e : TypeId) (i : TypeInfo) (ht : P.underlying t = some (.slice e)) (hu : P.underlying u = some .string) (hi : P.info? e = some i) (hz : i.zero = some (.int .u8 0))
    (hsize : i.size = 1) (hby : i.bytes = 1)
    (v : Value) (n : Nat) (xs : List Value) (hs : a.eval sl = v) (hown : w.ownsRow base e 1 v n xs) (s : ByteArray) (hx : a.eval x = .string s)
    (h63 : n + s.size ≤ maxLen) (hbytes : n + s.size ≤ 140737488355328) (hbase : base ≤ w.heap.size) (hn : 0 < n)
    (h : ∀ g cap w', w'.ownsRow base e 1 (.slice (some ⟨g, 0, none⟩) (n + s.size) cap) (n + s.size) (xs ++ Lib.strCells s) → w.grownBy w' v.ownBlock → (v.ownBlock = some g ∨ g = w.heap.size) → wpList P ops Q rest (a.put o.dst (.slice (some ⟨g, 0, none⟩) (n + s.size) cap)) w') : wpList P ops Q (o :: rest) a w := by
  refine wpList_plain hgd fun K hK => ?_
  obtain ⟨g, cap, w', hr, h2, h3, h4⟩ := append_str_lies (P := P) w base t u o.type e i ht hu hi hz hsize hby v n xs hown s h63 hbytes hbase hn
  unfold Oper.wp execOp
  simp only [ho, resolve, invoke, builtin, Sem.run_bind, Sem.run_pure, Result.andThen_ok, List.map_toArray, List.map_cons, List.map_nil, hs, hx, hr]
  exact hK _ _ (h g cap w' h2 h3 h4)

set_option maxRecDepth 100000 in

theorem strCells_bs (s : ByteArray) : Lib.strCells s = bcells (bsOf s) := by
  unfold Lib.strCells bcells bsOf
  rw [List.map_map]
  rfl

set_option maxRecDepth 100000 in
theorem l2val_text (base : Nat) (oa : Option Addr) (cap : Nat) (xs : List Nat) (text : ByteArray) (w : World) (hn : text.size ≤ 1000) (hbase : base ≤ w.heap.size) (hl : xs.length ≤ 1099511600000)
    (hO : w.ownsRow base 5 1 (.slice oa xs.length cap) xs.length (bcells xs)) :
    Calls Tryz.prog 89 #[.slice oa xs.length cap, (GV.mk 3 0 text 0).val] w (APost base oa xs (3 :: (numB text.size ++ bsOf text)) w) := by
  obtain ⟨i0, hi, hz0, hz1, hz2⟩ := info_parts info_u8
  have hF := (Four.new w ⟨3, 0, text, 0⟩ 29).alloc (.cells #[.int .u8 3] 5)
  have hn0 : ¬ ((Value.slice oa xs.length cap).ownBlock = some w.heap.size) := fun e => by have := (hO.lt _ e).2; omega
  have e6 : IntKind.u64.wrap (text.size : Int) = (text.size : Int) := by rw [IntKind.wrap_u64]; omega
  have hten := numB_ten (n := text.size) (by omega)
  have hbl := bsOf_length text
  go_enter Tryz.func89, Tryz.ntmps89
  go_wp2_with (first
    | (at_builtin; refine wpList_append_str rfl (.tmp 35) (.tmp 37) 22 9 rfl base 5 i0 Tryz.underlying22 Tryz.underlying9 hi hz0 hz1 hz2 _ _ _ rfl hRo text rfl (by unfold maxLen; omega) (by omega) (by omega) (by omega) ?_; intro g4 cap4 w4 hown4 hgrow4 hat4)
    | (at_builtin; refine wpList_append_lies _ rfl (.tmp 5) (.tmp 9) 22 rfl base 5 i0 (.int .u8 0) 1 1 Tryz.underlying22 hi hz0 hz1 hz2 rfl (by decide) _ _ _ rfl ((hO.alloc _).alloc _) ⟨w.heap.size + 1, 0, none⟩ 1 1 [.int .u8 3] rfl rfl (World.news_of_block (cs := #[.int .u8 3]) (t := 5) (fr := (0, 0)) (blk_new_at _ _ _ (by simp))) (by simp [Value.oneCell']) (by decide) (by unfold maxLen; omega) (by omega) (by simp; omega) (w.heap.size + 2) (by simp) ?_; intro g cap2 w1 hown1 hgrow hat hlt2; have hF1 := hF.kept (Kept.of_grown hgrow) hn0; obtain ⟨fz, f0, f1, f2, f3, ff⟩ := id hF1; have hP := (Ob.start hO).push (ys := [3]) (gal (gal (gre _) _) _) hown1 hgrow (hat.elim Or.inl (fun h => Or.inr (by omega))); have hs1 := hP.kept.size; have hg1 : w.heap.size ≠ g := (hat.elim (fun h => fun e => hn0 (by rw [e]; exact h)) (fun h => by omega)))
    | (go_at_call 88; refine (l2num_any base _ _ _ (xs ++ [3]) text.size _ _ (by simp) ?_ (by omega) (by omega) (by simp; omega) hP.own).mono ?_; (first | rfl | exact e6); rintro e w3 ⟨oa3, cap3, rfl, hQ⟩; obtain ⟨gz, g0, g1, g2, g3, gf⟩ := hF1.kept hQ.kept (fun e => hg1 (some_addr e).symm); have hR := hP.call hQ; have hs3 := hR.kept.size; obtain ⟨ln, hln⟩ := hid_ex (xs ++ [3] ++ numB text.size).length; have hRo := hR.own; rw [← hln.out] at hRo; rw [← hln.out]; have hln1 : ln ≤ xs.length + 11 ∧ 0 < ln := (by have h := hln.out; simp only [List.length_append, List.length_singleton] at h; omega)))
  go_ret
  have e4 : ln + text.size = (xs ++ [3] ++ numB text.size).length + (bsOf text).length := by rw [hln.out, hbl]
  rw [strCells_bs, e4] at hown4
  have hT := hR.push (wa := w3) (ys := bsOf text) (gre _) hown4 (by rw [← hln.out]; exact hgrow4) (by rw [← hln.out]; exact hat4.elim Or.inl (fun h => Or.inr (by omega)))
  have e5 : xs ++ [3] ++ numB text.size ++ bsOf text = xs ++ (3 :: (numB text.size ++ bsOf text)) := by simp
  rw [e5] at hT
  refine ⟨_, _, ?_, hT⟩
  rw [← e5, List.length_append, ← e4]
  rfl

set_option maxRecDepth 100000 in
theorem l2val_any (base n : Nat) (oa : Option Addr) (len cap : Nat) (xs : List Nat) (v : GV) (w : World) (hlen : len = xs.length) (hn : n ≤ 300) (ho : v.Ok) (hv : okV n v = true) (hbase : base ≤ w.heap.size) (hl : xs.length ≤ 1099511600000)
    (hO : w.ownsRow base 5 1 (.slice oa xs.length cap) xs.length (bcells xs)) :
    Calls Tryz.prog 89 #[.slice oa len cap, v.val] w (APost base oa xs (valB v) w) := by
  subst hlen
  rcases okV_cases hv with rfl | ⟨m, rfl⟩ | ⟨m, rfl⟩ | ⟨t, ht, rfl⟩ | ⟨k, hk, rfl⟩
  · exact l2val_nil base oa cap xs w hbase hl hO
  · exact l2val_num base oa cap xs m w ho.num hbase hl hO
  · exact l2val_bits base oa cap xs m w hbase hl hO
  · exact l2val_text base oa cap xs t w ht hbase hl hO
  · exact l2val_node base oa cap xs k w (by omega) hbase hl hO

def PackSPost (ys : List Nat) (w : World) (e : Ending) (w' : World) : Prop :=
  ∃ oa cap, e = .returned (.slice oa ys.length cap) ∧ w'.ownsRow w.heap.size 5 1 (.slice oa ys.length cap) ys.length (bcells ys) ∧ Below w.heap.size w w'

set_option maxRecDepth 100000 in
theorem owns_two (w : World) (base : Nat) (hb : base ≤ w.heap.size) : (w.alloc (.cells #[.int .u8 72, .int .u8 49] 5)).ownsRow base 5 1 (.slice (some ⟨w.heap.size, 0, none⟩) 2 2) 2 (bcells [72, 49]) :=
  ⟨rfl, Or.inr ⟨w.heap.size, 2, #[.int .u8 72, .int .u8 49], rfl, hb, blk_new_at _ _ _ rfl, by decide, by decide, rfl, rfl⟩⟩

end Go.Proofs.YtmdpmdmilgbfiaaGreatDoor

namespace Go.Proofs.YtmdpmdmilgbfiaaGreatDoor
open Go.RowKit

set_option maxRecDepth 100000 in
theorem owns_bytesO {w : World} {base : Nat} {oa : Option Addr} {len cap n : Nat} {zs : List Nat} (h : w.ownsRow base 5 1 (.slice oa len cap) n (bcells zs)) : BytesAt w oa zs := fun i hi => by
  obtain ⟨g, ha, _, _, hc⟩ := owns_cell h (bcells_get hi)
  exact ⟨g, 0, ha, by rw [Nat.zero_add]; exact hc⟩
set_option maxRecDepth 100000 in
theorem numB_bytes (n : Nat) : ∀ x, x ∈ numB n → x < 256 := fun x hx => numB_byte n x hx
theorem valB_bytes {n : Nat} {v : GV} (h : okV n v = true) : ∀ x, x ∈ valB v → x < 256 := by
  intro x hx
  rcases okV_cases h with rfl | ⟨m, rfl⟩ | ⟨m, rfl⟩ | ⟨t, ht, rfl⟩ | ⟨k, hk, rfl⟩
  · have h1 : x ∈ [0] := hx
    have := List.mem_singleton.1 h1; omega
  · have h1 : x ∈ 1 :: numB (zig m) := hx
    rcases List.mem_cons.1 h1 with h2 | h2
    · omega
    · exact numB_byte _ x h2
  · have h1 : x ∈ 2 :: lowB 8 (u64n m) := hx
    rcases List.mem_cons.1 h1 with h2 | h2
    · omega
    · exact lowB_byte _ _ x h2
  · have h1 : x ∈ 3 :: (numB t.size ++ bsOf t) := hx
    rcases List.mem_cons.1 h1 with h2 | h2
    · omega
    · rcases List.mem_append.1 h2 with h3 | h3
      · exact numB_byte _ x h3
      · exact bsOf_byte h3
  · have h1 : x ∈ 4 :: numB k := hx
    rcases List.mem_cons.1 h1 with h2 | h2
    · omega
    · exact numB_byte _ x h2
set_option maxRecDepth 100000 in
theorem valsB_bytes {n : Nat} {l : List GV} (h : ∀ v, v ∈ l → okV n v = true) : ∀ x, x ∈ valsB l → x < 256 := by
  induction l with
  | nil => intro x hx; cases hx
  | cons v r ih =>
    intro x hx
    rcases List.mem_append.1 hx with h1 | h1
    · exact valB_bytes (h v (List.mem_cons_self ..)) x h1
    · exact ih (fun y hy => h y (List.mem_cons_of_mem _ hy)) x h1
set_option maxRecDepth 100000 in
theorem nodesB_bytes {n : Nat} {l : List GN} (h : ∀ v, v ∈ l → okN n v = true) : ∀ x, x ∈ nodesB l → x < 256 := by
  induction l with
  | nil => intro x hx; cases hx
  | cons v r ih =>
    intro x hx
    rcases List.mem_append.1 hx with h1 | h1
    · rcases List.mem_append.1 h1 with h2 | h2
      · exact numB_byte _ x h2
      · rcases List.mem_append.1 h2 with h3 | h3
        · exact numB_byte _ x h3
        · exact valsB_bytes (okN_parts (h v (List.mem_cons_self ..))).2 x h3
    · exact ih (fun y hy => h y (List.mem_cons_of_mem _ hy)) x h1
set_option maxRecDepth 100000 in
theorem graphB_bytes {g : GG} (hok : okG g = true) : ∀ x, x ∈ graphB g → x < 256 := by
  obtain ⟨_, hroot, hnodes⟩ := okG_parts hok
  intro x hx
  rcases List.mem_append.1 hx with h1 | h1
  · simp at h1; omega
  · rcases List.mem_append.1 h1 with h2 | h2
    · exact numB_byte _ x h2
    · rcases List.mem_append.1 h2 with h3 | h3
      · exact valB_bytes hroot x h3
      · exact nodesB_bytes hnodes x h3
set_option maxRecDepth 100000 in
theorem formB_bytes {g : GG} (hok : okG g = true) : ∀ x, x ∈ formB g → x < 256 := by
  intro x hx
  rcases List.mem_append.1 hx with h1 | h1
  · exact graphB_bytes hok x h1
  · exact lowB_byte _ _ x h1

set_option maxRecDepth 100000 in
theorem Ob.back {w0 w1 w : World} {base b0 : Nat} {oa : Option Addr} {cap : Nat} {zs : List Nat} (h : Ob w0 base (some ⟨b0, 0, none⟩) w oa cap zs) (hb : Below w1.heap.size w1 w0) (h0 : w1.heap.size ≤ b0) : Below w1.heap.size w1 w :=
  hb.trans (h.kept.below hb.size (fun k hk e => by have := some_addr e; omega))

set_option maxRecDepth 100000 in
theorem l2pack_any (a : Option Addr) (cap : Nat) (g : GG) (w : World) (hg : g.Ok) (hok : okG g = true) (ha : NodesAt w.heap.size w a g.nodes) :
    Calls Tryz.prog 49 #[g.val a cap] w (PackSPost (imageB g) w) := by
  obtain ⟨c, hc⟩ := hid_ex (canon g)
  have hcok : okG c = true := by rw [hc.out]; exact canon_okG hok
  have hcO : c.Ok := by rw [hc.out]; exact canon_ok hg hok
  obtain ⟨hl300, hroot, hnodes⟩ := okG_parts hcok
  have hgl : Hid (graphB c = gheadB c ++ nodesB c.nodes) := graphB_head c
  have hgl2 : (graphB c).length = (gheadB c).length + (nodesB c.nodes).length := by rw [hgl.out, List.length_append]
  have hglen := graphB_len hcO hcok
  have hnum := numB_ten (n := c.nodes.length) (by omega)
  have e6 := wrap_nat (n := c.nodes.length) (by omega)
  go_enter Tryz.func49, Tryz.ntmps49
  go_wp2_with (first
    | (go_at_call 61; refine (specCanon_any a cap g _ hok (ha.grow (gal (gre _) _))).mono ?_; rintro e w1 ⟨na, nc, rfl, hN, hb1⟩; rw [← hc.out] at hN ⊢; have hF := Five.new_at w1 c.root (.slice na c.nodes.length nc) 32 w1.heap.size rfl; have hO2 := owns_two (w1.alloc (.cells #[.int .i64 c.root.kind, .int .i64 c.root.num, .string c.root.text, .int .i64 c.root.node, .slice na c.nodes.length nc] 32)) (w1.heap.size + 1) (by simp); rw [show (w1.alloc (.cells #[.int .i64 c.root.kind, .int .i64 c.root.num, .string c.root.text, .int .i64 c.root.node, .slice na c.nodes.length nc] 32)).heap.size = w1.heap.size + 1 by simp] at hO2)
    | (go_at_call 88; refine (l2num_any (w1.heap.size + 1) _ _ _ [72, 49] c.nodes.length _ _ rfl ?_ (by omega) (by simp) (by simp) hO2).mono ?_; (first | rfl | exact e6); rintro e w3 ⟨oa3, cap3, rfl, hQ3⟩; obtain ⟨l3, hl3⟩ := hid_ex ([72, 49] ++ numB c.nodes.length).length; rw [← hl3.out]; have hF3 := (hF.kept (Kept.of_below (gal (gre _) _) (fun _ => False)) (fun e => e)).kept hQ3.kept (fun e => by have := some_addr e; omega); obtain ⟨gz, g0, g1, g2, g3, g4, gf⟩ := id hF3; have hs3 := hQ3.kept.size; simp only [World.size_alloc] at hs3)
    | (go_at_call 89; refine (l2val_any (w1.heap.size + 1) c.nodes.length _ _ _ ([72, 49] ++ numB c.nodes.length) c.root _ hl3.out hl300 hcO.root hroot (by omega) (by simp only [List.length_append, List.length_cons, List.length_nil]; omega) hQ3.own).mono ?_; rintro e w4 ⟨oa4, cap4, rfl, hQ4⟩; obtain ⟨l4, hl4⟩ := hid_ex ([72, 49] ++ numB c.nodes.length ++ valB c.root).length; rw [← hl4.out]; have hF4 := hF3.kept hQ4.kept (fun e => by have := (hQ3.lt e).1; omega); obtain ⟨iz, i0, i1, i2, i3, i4, if_⟩ := id hF4))
  have hR4 := hQ3.call hQ4
  obtain ⟨W2, hB12, hW2s, hR⟩ : ∃ W2, Below w1.heap.size w1 W2 ∧ w1.heap.size + 2 ≤ W2.heap.size ∧ Ob W2 (w1.heap.size + 1) (some ⟨w1.heap.size + 1, 0, none⟩) w4 oa4 cap4 (gheadB c) := ⟨_, gal (gal (gre _) _) _, by simp, by have e : [72, 49] ++ numB c.nodes.length ++ valB c.root = gheadB c := (by unfold gheadB; simp only [List.append_assoc]); rw [← e]; exact hR4⟩
  have hl4' : Hid (l4 = (gheadB c).length) := by show _ = _; rw [hl4.out]; unfold gheadB; simp only [List.append_assoc]
  have hw01 : Below w.heap.size w w1 := gca (gal (gre _) _) hb1
  clear hR4 hQ3 hQ4 hF hF3 hF4 hO2 gz g0 g1 g2 g3 g4 gf iz i0 i1 i2 i3 i4 if_ hb1 hl4 hl3 hs3
  go_loopw [4, 25] (fun o i ws => ∃ (k : Nat) (zs : List Nat) (oa1 : Option Addr) (cap1 : Nat), o = .slice oa1 zs.length cap1 ∧ i = .int .i64 k ∧ k ≤ c.nodes.length ∧ Hid (zs = gheadB c ++ nodesB (c.nodes.take k)) ∧ Ob W2 (w1.heap.size + 1) (some ⟨w1.heap.size + 1, 0, none⟩) ws oa1 cap1 zs) (fun _ i _ => c.nodes.length - (intOf i).toNat)
  case atStart => exact ⟨0, gheadB c, oa4, cap4, by rw [hl4'.out], rfl, Nat.zero_le _, by show _ = _; rw [List.take_zero, nodesB, List.append_nil], hR⟩
  case round =>
    obtain ⟨k, zs, oa1, cap1, rfl, rfl, hk, hzs, hOb⟩ := hrel
    have hBs := hOb.back hB12 (by omega)
    have hsz := hBs.size
    have hsz0 := hOb.kept.size
    by_cases hkl : k < c.nodes.length
    · obtain ⟨n, bn, off, va, vc, hnk, hnm, rfl, hbn, hnat⟩ := hN.get hkl
      have hnat2 := hnat.below hBs hbn
      have c0 := hnat2.tag
      have c1 := hnat2.sl
      have hvals := hnat.vals
      have hnok := hnodes n hnm
      have hnO := hcO.nodes n hnm
      obtain ⟨hvl, hvok⟩ := okN_parts hnok
      obtain ⟨ht0, ht1⟩ := okN_tag hnok
      obtain ⟨tg, htg⟩ : ∃ tg : Nat, n.tag = (tg : Int) := ⟨n.tag.toNat, by omega⟩
      have hnb : Hid (nodesB (c.nodes.take (k + 1)) = nodesB (c.nodes.take k) ++ (numB tg ++ (numB n.vals.length ++ valsB n.vals))) := by
        show _ = _
        rw [nodesB_take_succ _ _ hkl, ← hnk.out, nodeB, htg]; rfl
      have hnle : (nodesB (c.nodes.take (k + 1))).length ≤ (nodesB c.nodes).length := nodesB_take_le _ _
      rw [hnb.out] at hnle
      simp only [List.length_append] at hnle
      have hzl : zs.length ≤ 40000000 - ((numB tg).length + ((numB n.vals.length).length + (valsB n.vals).length)) := by rw [hzs.out, List.length_append]; omega
      have hzl2 : (numB tg).length + ((numB n.vals.length).length + (valsB n.vals).length) ≤ 40000000 := by omega
      rw [htg] at c0
      have hT := Two.new_at wr tg (.slice va n.vals.length vc) 37 wr.heap.size rfl
      have e7 := wrap_nat (n := tg) (by omega)
      have e8 := wrap_nat (n := n.vals.length) (by omega)
      have hnp : ¬ (oa1 = some ⟨wr.heap.size, 0, none⟩) := fun e => by have := (hOb.lt e).2; omega
      go_wp2_with (first
        | (go_at_call 88; refine (l2num_any (w1.heap.size + 1) _ _ _ (zs ++ numB tg) n.vals.length _ _ hl5.out ?_ (by omega) (by omega) (by simp only [List.length_append]; omega) hQ5.own).mono ?_; (first | rfl | exact e8); rintro e w6 ⟨oa6, cap6, rfl, hQ6⟩; obtain ⟨l6, hl6⟩ := hid_ex (zs ++ numB tg ++ numB n.vals.length).length; rw [← hl6.out]; obtain ⟨uz, u0, u1, uf, _⟩ := hT5.kept hQ6.kept (fun e => hnp (hQ5.loc _ (by simp) e)))
        | (go_at_call 88; refine (l2num_any (w1.heap.size + 1) _ _ _ zs tg _ _ rfl ?_ (by omega) (by simp only [World.size_alloc]; omega) (by omega) (hOb.grow (gal (gre _) _)).own).mono ?_; (first | rfl | exact e7); rintro e w5 ⟨oa5, cap5, rfl, hQ5⟩; obtain ⟨l5, hl5⟩ := hid_ex (zs ++ numB tg).length; rw [← hl5.out]; have hT5 := hT.kept hQ5.kept hnp; obtain ⟨tz, t0, t1, tf, _⟩ := id hT5; have hs5 := hQ5.kept.size; simp only [World.size_alloc] at hs5))
      have hR6 := ((hOb.grow (gal (gre _) _)).call hQ5).call hQ6
      clear hT hT5 tz t0 t1 tf uz u0 u1 uf hQ5 hQ6 hl5
      go_loopw [4, 43] (fun o i ws => ∃ (m : Nat) (ys : List Nat) (oa2 : Option Addr) (cap2 : Nat), o = .slice oa2 ys.length cap2 ∧ i = .int .i64 m ∧ m ≤ n.vals.length ∧ Hid (ys = zs ++ numB tg ++ numB n.vals.length ++ valsB (n.vals.take m)) ∧ Ob W2 (w1.heap.size + 1) (some ⟨w1.heap.size + 1, 0, none⟩) ws oa2 cap2 ys) (fun _ i _ => n.vals.length - (intOf i).toNat)
      case atStart => exact ⟨0, _, oa6, cap6, by rw [hl6.out], rfl, Nat.zero_le _, by show _ = _; rw [List.take_zero, valsB, List.append_nil], hR6⟩
      case round =>
        obtain ⟨m, ys, oa2, cap2, rfl, rfl, hm, hys, hOb2⟩ := hrel
        have hBs2 := hOb2.back hB12 (by omega)
        have hsz2 := hBs2.size
        by_cases hml : m < n.vals.length
        · obtain ⟨v, bv, ov, hvk, hvm, rfl, hbv, hvc⟩ := hvals.get hml
          obtain ⟨d0, d1, d2, d3⟩ := hvc.below hBs2 hbv
          have hvb : Hid (valsB (n.vals.take (m + 1)) = valsB (n.vals.take m) ++ valB v) := by show _ = _; rw [valsB_take_succ _ _ hml, ← hvk.out]
          have hvle : (valsB (n.vals.take (m + 1))).length ≤ (valsB n.vals).length := valsB_take_le _ _
          rw [hvb.out, List.length_append] at hvle
          have hyl : ys.length ≤ 40000000 := by rw [hys.out]; simp only [List.length_append]; omega
          go_wp2_with (go_at_call 89; refine (l2val_any (w1.heap.size + 1) c.nodes.length _ _ _ ys v _ rfl hl300 (hnO.vals v hvm) (hvok v hvm) (by simp only [World.size_alloc]; omega) (by omega) (hOb2.grow (gal (gre _) _)).own).mono ?_; rintro e w7 ⟨oa7, cap7, rfl, hQ7⟩; obtain ⟨l7, hl7⟩ := hid_ex (ys ++ valB v).length; rw [← hl7.out])
          go_roundw
          case rel => exact ⟨m + 1, ys ++ valB v, oa7, cap7, by rw [hl7.out], by go_num, by omega, by show _ = _; rw [hvb.out, ← List.append_assoc, ← hys.out], (hOb2.grow (gal (gre _) _)).call hQ7⟩
          case measure => simp [intOf]; omega
        · obtain rfl : m = n.vals.length := by omega
          have hfin : Hid (ys = gheadB c ++ nodesB (c.nodes.take (k + 1))) := by
            show _ = _
            rw [hnb.out, hys.out, List.take_length, hzs.out]
            simp only [List.append_assoc]
          go_wp2
          go_roundw
          case rel =>
            exact ⟨k + 1, ys, oa2, cap2, rfl, by go_num, by omega, hfin, hOb2⟩
          case measure => simp [intOf]; omega
    · obtain rfl : k = c.nodes.length := by omega
      have e9 : Hid (zs = graphB c) := by show _ = _; rw [hzs.out, List.take_length, hgl.out]
      have hzl : zs.length ≤ 40000000 := by rw [e9.out]; exact hglen
      go_wp2_with (first
        | (go_at_call 91; refine (l2sum_any oa1 zs cap1 _ (owns_bytesO hOb.own) (by unfold maxLen; omega) (by rw [e9.out]; exact graphB_bytes hcok)).mono ?_; rintro e w8 ⟨rfl, hb8⟩; have hOb8 := hOb.grow hb8; have hs8 := hb8.size)
        | (go_at_call 90; refine (l2eight_any (w1.heap.size + 1) _ _ _ zs (sumN zs) _ _ rfl rfl (sumN_lt _) (by omega) (by omega) hOb8.own).mono ?_; rintro e w9 ⟨oa9, cap9, rfl, hQ9⟩; obtain ⟨l9, hl9⟩ := hid_ex (zs ++ lowB 8 (sumN zs)).length; rw [← hl9.out]))
      go_ret
      have hR9 := hOb8.call hQ9
      have e10 : zs ++ lowB 8 (sumN zs) = imageB g := by unfold imageB formB; rw [← hc.out, e9.out]
      have hB9 := hR9.back hB12 (by omega)
      rw [e10] at hR9 hl9
      exact ⟨oa9, cap9, by rw [← hl9.out]; rfl, owns_le hR9.own (by have := hw01.size; omega), hw01.trans (hB9.mono hw01.size)⟩


set_option maxRecDepth 100000 in
theorem specPack_any (a : Option Addr) (cap : Nat) (g : GG) (w : World) (hg : g.Ok) (ha : NodesAt w.heap.size w a g.nodes) :
    Calls Tryz.prog 16 #[g.val a cap] w (PackSPost (packB g) w) := by
  have hX0 := GBox.new w g a cap 32
  cases hok : okG g with
  | false =>
    have hz : Hid (packB g = []) := if_neg (by rw [hok]; simp)
    have hok' : Hid _ := hok
    go_enter Tryz.func16, Tryz.ntmps16
    go_wp2_with (go_at_call 48; refine (specGraphOk_any a cap g _ hg (ha.grow (gal (gre _) _))).mono ?_; rintro e w1 ⟨rfl, hb1⟩; rw [hok'.out])
    go_ret
    exact ⟨none, 0, by rw [hz.out]; rfl, by rw [hz.out]; exact World.ownsRow_nil _ _ _ _, gca (gal (gre _) _) hb1⟩
  | true =>
    have hok' : Hid _ := hok
    by_cases hl : (imageB g).length ≤ 4096
    · have hz : Hid (packB g = imageB g) := if_pos ⟨hok, hl⟩
      have hd : ¬ ((4096 : Int) < ((imageB g).length : Int)) := by omega
      go_enter Tryz.func16, Tryz.ntmps16
      go_wp2_with (first
        | (go_at_call 48; refine (specGraphOk_any a cap g _ hg (ha.grow (gal (gre _) _))).mono ?_; rintro e w1 ⟨rfl, hb1⟩; obtain ⟨xz, x0, x1, x2, x3, x4⟩ := hX0.grow hb1; rw [hok'.out])
        | (go_at_call 49; refine (l2pack_any a cap g _ hg hok'.out (ha.grow (gca (gal (gre _) _) hb1))).mono ?_; rintro e w2 ⟨oa, cap2, rfl, hown, hb2⟩))
      go_ret
      exact ⟨oa, cap2, by rw [hz.out]; rfl, by rw [hz.out]; exact owns_le hown (by have := hb1.size; simp at this; omega), gca (gca (gal (gre _) _) hb1) hb2⟩
    · have hz : Hid (packB g = []) := if_neg (fun h => hl h.2)
      have hd : ((4096 : Int) < ((imageB g).length : Int)) := by omega
      go_enter Tryz.func16, Tryz.ntmps16
      go_wp2_with (first
        | (go_at_call 48; refine (specGraphOk_any a cap g _ hg (ha.grow (gal (gre _) _))).mono ?_; rintro e w1 ⟨rfl, hb1⟩; obtain ⟨xz, x0, x1, x2, x3, x4⟩ := hX0.grow hb1; rw [hok'.out])
        | (go_at_call 49; refine (l2pack_any a cap g _ hg hok'.out (ha.grow (gca (gal (gre _) _) hb1))).mono ?_; rintro e w2 ⟨oa, cap2, rfl, hown, hb2⟩))
      go_ret
      exact ⟨none, 0, by rw [hz.out]; rfl, by rw [hz.out]; exact World.ownsRow_nil _ _ _ _, gca (gca (gal (gre _) _) hb1) hb2⟩

end Go.Proofs.YtmdpmdmilgbfiaaGreatDoor
