import Derived.Test.YthjddpkegooobacGreatDoorPartS
namespace Go.Proofs.YthjddpkegooobacGreatDoor
open Go.RowKit
set_option maxRecDepth 100000
set_option maxHeartbeats 8000000
theorem SInv.of_bad {α : Type} {F G G' : Option (α × List Nat)} {bad : Bool} (h : SInv F G bad true) : SInv F G' bad true := ⟨fun _ => rfl, ⟨fun _ hc => (by cases hc), h.2.2⟩⟩
def cont (k : Nat) (rv : GV) (ns : List GN) (x : GN × List Nat) : Option (GG × List Nat) := (sNodes k x.2).map fun y => (⟨rv, (ns ++ [x.1]) ++ y.1⟩, y.2)
def gout (k : Nat) (rv : GV) (ns : List GN) (q : List Nat) : Option (GG × List Nat) := (sNodes k q).map fun y => (⟨rv, ns ++ y.1⟩, y.2)
def gin (k m : Nat) (rv : GV) (ns : List GN) (t : Int) (vs : List GV) (q : List Nat) : Option (GG × List Nat) := ((sVals m q).map fun y => ((⟨t, vs ++ y.1⟩ : GN), y.2)).bind (cont k rv ns)
theorem gout_succ (k : Nat) (rv : GV) (ns : List GN) (q : List Nat) : gout (k + 1) rv ns q = (sNode q).bind (cont k rv ns) := by
 unfold gout cont
 rw [sNodes]
 cases sNode q with
 | none => rfl
 | some x =>
  simp only [Option.bind_some, Option.map_map]
  congr 1
  funext y
  simp
theorem gin_done (k : Nat) (rv : GV) (ns : List GN) (t : Int) (vs : List GV) (q : List Nat) : gin k 0 rv ns t vs q = gout k rv (ns ++ [⟨t, vs⟩]) q := by
 unfold gin gout cont
 simp [sVals]
theorem gin_next {k m : Nat} {rv : GV} {ns : List GN} {t : Int} {vs : List GV} {q q1 : List Nat} {v : GV} (h : sVal q = some (v, q1)) : gin k (m + 1) rv ns t vs q = gin k m rv ns t (vs ++ [v]) q1 := by
 unfold gin
 rw [sVals, h]
 simp only [Option.bind_some, Option.map_map]
 congr 2
 funext y
 simp
theorem gin_none {k m : Nat} {rv : GV} {ns : List GN} {t : Int} {vs : List GV} {q : List Nat} (h : sVal q = none) : gin k (m + 1) rv ns t vs q = none := by
 unfold gin
 rw [sVals, h]
 rfl
theorem Five.root {w : World} {b : Nat} {u : GV} {s : Value} (h : Five w b u s) (v : GV) : Five ((((w.setCell ⟨b, 0, none⟩ (.int .i64 v.kind)).setCell ⟨b, 1, none⟩ (.int .i64 v.num)).setCell ⟨b, 2, none⟩ (.string v.text)).setCell ⟨b, 3, none⟩ (.int .i64 v.node)) b v s := by
 obtain ⟨hl, c0, c1, c2, c3, c4, hf⟩ := h
 refine ⟨by simpa [World.setCell] using hl, ?_, ?_, ?_, ?_, ?_, fun o => ?_⟩
 ·
  rw [World.cell?_setCell_other _ _ _ _ (by simp), World.cell?_setCell_other _ _ _ _ (by simp), World.cell?_setCell_other _ _ _ _ (by simp)]
  exact World.cell?_setCell_same _ _ _ c0
 ·
  rw [World.cell?_setCell_other _ _ _ _ (by simp), World.cell?_setCell_other _ _ _ _ (by simp)]
  exact World.cell?_setCell_same (u := .int .i64 u.num) _ _ _ (by rw [World.cell?_setCell_other _ _ _ _ (by simp)]; exact c1)
 ·
  rw [World.cell?_setCell_other _ _ _ _ (by simp)]
  exact World.cell?_setCell_same (u := .string u.text) _ _ _ (by rw [World.cell?_setCell_other _ _ _ _ (by simp), World.cell?_setCell_other _ _ _ _ (by simp)]; exact c2)
 · exact World.cell?_setCell_same (u := .int .i64 u.node) _ _ _ (by rw [World.cell?_setCell_other _ _ _ _ (by simp), World.cell?_setCell_other _ _ _ _ (by simp), World.cell?_setCell_other _ _ _ _ (by simp)]; exact c3)
 · rw [World.cell?_setCell_other _ _ _ _ (by simp), World.cell?_setCell_other _ _ _ _ (by simp), World.cell?_setCell_other _ _ _ _ (by simp), World.cell?_setCell_other _ _ _ _ (by simp)]; exact c4
 · rw [World.frozen?_setCell, World.frozen?_setCell, World.frozen?_setCell, World.frozen?_setCell]; exact hf o
theorem sr_new (w : World) (sa : Option Addr) (bs : List Nat) (cap : Nat) (ha : BytesAt w sa bs) (hc : bs.length ≤ cap) (hl : bs.length ≤ 4096) (hb : ∀ x, x ∈ bs → x < 256) : SR (w.alloc (.cells #[.slice sa bs.length cap, .int .i64 2, .bool false] 106)) w.heap.size sa cap bs 2 false :=
 ⟨by simp, by simp, by simp, by simp, fun o => by simp, (ha.low).below (gal (gre _) _), hc, hl, hb, by omega⟩
def USPostK (bs : List Nat) (w : World) (e : Ending) (w' : World) : Prop :=
 ∃ na nc, e = .returned (unVal (sUnB bs).1 (sUnB bs).2 na nc) ∧ NodesAt w'.heap.size w' na (sUnB bs).2.nodes ∧ (∀ w2, Kept (fun z => z < w.heap.size) w' w2 → NodesAt w2.heap.size w2 na (sUnB bs).2.nodes) ∧ (∀ g q, sGraph (bs.drop 2) = some (g, q) → bs.length ≤ 4096 → g.Ok) ∧ Below w.heap.size w w'
theorem specUnpack_K (sa : Option Addr) (cap : Nat) (bs : List Nat) (w : World) (ha : BytesAt w sa bs) (hc : bs.length ≤ cap) (hlm : bs.length ≤ maxLen) (hbyte : ∀ x, x ∈ bs → x < 256) :
  Calls Tryz.prog 27 #[.slice sa bs.length cap] w (USPostK bs w) := by
 unfold maxLen at hlm
 have hS0 := Six.new w false ⟨0, 0, ⟨#[]⟩, 0⟩ (.slice none 0 0) 63
 by_cases hlen : 4096 < bs.length
 ·
  have hd : (4096 : Int) < (bs.length : Int) := by omega
  have hun : sUnB bs = (false, zeroG) := if_pos hlen
  go_enter Tryz.func27, Tryz.ntmps27
  go_wp2
  refine bodyPost_ret (v := unVal false zeroG none 0) (by simp [results, Tryz.results27, go_sem, zeroG]) rfl ?_
  exact ⟨none, 0, by rw [hun], by rw [hun]; exact fun i hi => absurd hi (Nat.not_lt_zero _), (fun _ _ => by rw [hun]; exact fun i hi => absurd hi (Nat.not_lt_zero _)), fun g q _ h => absurd h (by omega), gal (gre _) _⟩
 ·
  have hd : ¬ ((4096 : Int) < (bs.length : Int)) := by omega
  have hR0 := sr_new (w.alloc (.cells #[.bool false, .int .i64 0, .int .i64 0, .string ⟨#[]⟩, .int .i64 0, .slice none 0 0] 63)) sa bs cap (ha.grow (gal (gre _) _)) hc (by omega) hbyte
  simp only [World.size_alloc] at hR0
  obtain ⟨j0, hj, hy0, hy1, hy2⟩ := info_parts info_implNode
  obtain ⟨i0, hi, hz0, hz1, hz2⟩ := info_parts info_implVal
  go_enter Tryz.func27, Tryz.ntmps27
  go_wp2_with (first
   | (go_at_call 53; refine (sSmall_any (w.heap.size + 1) sa cap bs 2 false _ hR0).mono ?_; rintro e w1 ⟨hK1, n, at1, bad1, rfl, hn, hR1, _, hrel1⟩)
   | (go_at_call 54; refine (sVal_any (w.heap.size + 1) sa cap bs at1 bad1 _ (hR1.grow (gal (gre _) _))).mono ?_; rintro e w2 ⟨hK2, rv, at2, bad2, rfl, hrv, hR2, _, hrel2⟩; obtain ⟨fz, f0, f1, f2, f3, f4, ff⟩ := (Five.new_at w1 ⟨0, 0, ⟨#[]⟩, 0⟩ (.slice none 0 0) 31 w1.heap.size rfl).kept hK2 (by have := hK1.size; simp only [World.size_alloc] at this; omega)))
  have hs1 : w.heap.size + 2 ≤ w1.heap.size := by have := hK1.size; simp only [World.size_alloc] at this; omega
  obtain ⟨wB, hBB, hwBs, hSB, hKB⟩ : ∃ wB, Below w.heap.size w wB ∧ wB.heap.size = w.heap.size + 2 ∧ Six wB w.heap.size false ⟨0, 0, ⟨#[]⟩, 0⟩ (.slice none 0 0) ∧ Kept (fun k => k = w.heap.size + 1) wB w1 := ⟨_, gal (gal (gre _) _) _, by simp, hS0.kept ((Kept.refl (fun _ => False) _).alloc _) (fun e => e), hK1⟩
  have hsz2 : w1.heap.size + 1 ≤ w2.heap.size := by have := hK2.size; simp only [World.size_alloc] at this; omega
  have hCG : Kept (fun k => k = w1.heap.size) w2 ((((w2.setCell ⟨w1.heap.size, 0, none⟩ (.int .i64 rv.kind)).setCell ⟨w1.heap.size, 1, none⟩ (.int .i64 rv.num)).setCell ⟨w1.heap.size, 2, none⟩ (.string rv.text)).setCell ⟨w1.heap.size, 3, none⟩ (.int .i64 rv.node)) := ((((Kept.refl (fun k => k = w1.heap.size) w2).set (fun _ => rfl) _).set (fun _ => rfl) _).set (fun _ => rfl) _).set (fun _ => rfl) _
  have hD0 : SGS wB w.heap.size (w.heap.size + 1) sa cap bs rv w1.heap.size ((((w2.setCell ⟨w1.heap.size, 0, none⟩ (.int .i64 rv.kind)).setCell ⟨w1.heap.size, 1, none⟩ (.int .i64 rv.num)).setCell ⟨w1.heap.size, 2, none⟩ (.string rv.text)).setCell ⟨w1.heap.size, 3, none⟩ (.int .i64 rv.node)) at2 bad2 none 0 [] :=
   ⟨(kk (hKB.alloc _) hK2).trans hCG (fun k hk e => by omega), ⟨by omega, by omega, by omega, by have := hCG.size; omega⟩, ((hSB.kept (hKB.alloc _) (by omega)).kept hK2 (by omega)).kept hCG (by omega),
    ((Five.new_at w1 ⟨0, 0, ⟨#[]⟩, 0⟩ (.slice none 0 0) 31 w1.heap.size rfl).kept hK2 (by omega)).root rv, hR2.kept hCG (fun k hk e => by omega), own_nil _ _⟩
  obtain ⟨F, hF⟩ := hid_ex (sGraph (bs.drop 2))
  have hI0 : Hid (SInv F (gout n rv [] (bs.drop at2)) false bad2) := by
   show SInv F _ false bad2
   rw [hF.out]
   exact ((SInv.start (sGraph (bs.drop 2)) false).comp (G' := (sVal (bs.drop at1)).bind fun x => (sNodes n x.2).map fun y => (⟨x.1, y.1⟩, y.2)) hrel1.out (fun h => by unfold sGraph; rw [h]; rfl) (fun h => by unfold sGraph; rw [h]; rfl)).comp (G' := gout n rv [] (bs.drop at2)) hrel2.out (fun h => by rw [h]; rfl) (fun h => by rw [h]; rfl)
  generalize (((w2.setCell ⟨w1.heap.size, 0, none⟩ (.int .i64 rv.kind)).setCell ⟨w1.heap.size, 1, none⟩ (.int .i64 rv.num)).setCell ⟨w1.heap.size, 2, none⟩ (.string rv.text)).setCell ⟨w1.heap.size, 3, none⟩ (.int .i64 rv.node) = w3 at hD0 ⊢
  generalize w1.heap.size = G at hD0 ⊢
  clear hK1 hK2 hKB hSB hCG hR0 hR1 hR2 hrel1 hrel2 fz f0 f1 f2 f3 f4 ff hs1 hsz2 hS0
  go_loopw [6] (fun i ws => ∃ (j at1 : Nat) (bad1 : Bool) (na : Option Addr) (nc : Nat) (nl : List NL), i = .int .i64 j ∧ j ≤ n ∧ Hid (nl.length = j) ∧ Hid (SInv F (gout (n - j) rv (nl.map (·.n)) (bs.drop at1)) false bad1) ∧ (∀ x, x ∈ nl → x.n.Ok) ∧ SGS wB w.heap.size (w.heap.size + 1) sa cap bs rv G ws at1 bad1 na nc nl) (fun i _ => n - (intOf i).toNat)
  case atStart => exact ⟨0, at2, bad2, none, 0, [], rfl, Nat.zero_le _, rfl, hI0, fun x hx => (by cases hx), hD0⟩
  case round =>
   obtain ⟨j, at1, bad1, na, nc, nl, rfl, hjn, hnl, hinv, hok, hD⟩ := hrel
   obtain ⟨k0, k1, k2, k3⟩ := hD.blk
   obtain ⟨z1, z2, z3, z4, z5, _⟩ := id hD.rd
   obtain ⟨sz, s0, s1, s2, s3, s4, s5, sf⟩ := id hD.res
   have hBr : Below w.heap.size w wr := hBB.trans (hD.kept.below hBB.size (fun k hk e => by omega))
   by_cases hjl : j < n
   ·
    have hd1 : (j : Int) < (n : Int) := by omega
    cases bad1 with
    | true =>
     have hFn : F = none := hinv.out.2.2 rfl rfl
     have hun : sUnB bs = (false, zeroG) := by unfold sUnB; rw [if_neg hlen, ← hF.out, hFn]
     have hokp : ∀ g' q, sGraph (bs.drop 2) = some (g', q) → bs.length ≤ 4096 → g'.Ok := fun g' q h _ => by rw [← hF.out, hFn] at h; cases h
     go_wp2
     have hC : Kept (fun k => k = w.heap.size) wr ((((((wr.setCell ⟨w.heap.size, 0, none⟩ (.bool false)).setCell ⟨w.heap.size, 1, none⟩ (.int .i64 0)).setCell ⟨w.heap.size, 2, none⟩ (.int .i64 0)).setCell ⟨w.heap.size, 3, none⟩ (.string ⟨#[]⟩)).setCell ⟨w.heap.size, 4, none⟩ (.int .i64 0)).setCell ⟨w.heap.size, 5, none⟩ (.slice none 0 0)) := ((((((Kept.refl (fun k => k = w.heap.size) wr).set (fun _ => rfl) _).set (fun _ => rfl) _).set (fun _ => rfl) _).set (fun _ => rfl) _).set (fun _ => rfl) _).set (fun _ => rfl) _
     refine bodyPost_ret (v := unVal false zeroG none 0) (by simp [results, Tryz.results27, go_sem, s0, s1, s2, s3, s4, s5, zeroG]) rfl ?_
     exact ⟨none, 0, by rw [hun], by rw [hun]; exact fun i hi => absurd hi (Nat.not_lt_zero _), (fun _ _ => by rw [hun]; exact fun i hi => absurd hi (Nat.not_lt_zero _)), hokp, (hBr).trans (hC.below (hBr).size (fun k hk e => by omega))⟩
    | false =>
     have hgs : Hid (gout (n - j) rv (nl.map (·.n)) (bs.drop at1) = (sNode (bs.drop at1)).bind (cont (n - (j + 1)) rv (nl.map (·.n)))) := by show _ = _; rw [show n - j = (n - (j + 1)) + 1 by omega, gout_succ]
     go_wp2_with (first
      | (go_at_call 53; refine (sSmall_any (w.heap.size + 1) sa cap bs at4 bad4 _ (hR4.grow (gal (gre _) _))).mono ?_; rintro e w5 ⟨hK5, m, at5, bad5, rfl, hm, hR5, _, hrel5⟩)
      | (go_at_call 53; refine (sSmall_any (w.heap.size + 1) sa cap bs at1 false _ hD.rd).mono ?_; rintro e w4 ⟨hK4, t, at4, bad4, rfl, ht, hR4, _, hrel4⟩))
     have hs4 := hK4.size
     have hs5 : w4.heap.size + 1 ≤ w5.heap.size := by have := hK5.size; simp only [World.size_alloc] at this; omega
     have hV0 : SVS wr (w.heap.size + 1) sa cap bs (t : Int) w4.heap.size w5 at5 bad5 none 0 [] :=
      ⟨kk (hK4.alloc _) hK5, ⟨by omega, by omega, by omega⟩, (Two.new_at w4 t (.slice none 0 0) 111 w4.heap.size rfl).kept hK5 (by omega), hR5, World.ownsRow_nil _ _ _ _⟩
     have hI5 : Hid (SInv F (gin (n - (j + 1)) m rv (nl.map (·.n)) (t : Int) [] (bs.drop at5)) false bad5) := by
      show SInv F _ false bad5
      refine (hinv.out.comp (G' := ((sSmall (bs.drop at4)).bind fun m => (sVals m.1 m.2).map fun y => ((⟨(t : Int), y.1⟩ : GN), y.2)).bind (cont (n - (j + 1)) rv (nl.map (·.n)))) hrel4.out (fun h => ?_) (fun h => ?_)).comp hrel5.out (fun h => ?_) (fun h => ?_)
      · rw [hgs.out]; unfold sNode; rw [h]; rfl
      · rw [hgs.out]; unfold sNode; rw [h]; rfl
      · rw [h]; rfl
      · rw [h]; rfl
     generalize w4.heap.size = X at hV0 ⊢
     clear hK4 hK5 hR4 hR5 hrel4 hrel5 hs4 hs5
     go_loopw [8] (fun c ws => ∃ (k at6 : Nat) (bad6 : Bool) (va : Option Addr) (vc : Nat) (vs : List GV), c = .int .i64 k ∧ k ≤ m ∧ Hid (vs.length = m - k) ∧ Hid (SInv F (gin (n - (j + 1)) k rv (nl.map (·.n)) (t : Int) vs (bs.drop at6)) false bad6) ∧ (∀ v, v ∈ vs → v.Ok) ∧ SVS wr (w.heap.size + 1) sa cap bs (t : Int) X ws at6 bad6 va vc vs) (fun c _ => (intOf c).toNat)
     case atStart => exact ⟨m, at5, bad5, none, 0, [], rfl, Nat.le_refl _, by show 0 = _; omega, hI5, fun v hv => (by cases hv), hV0⟩
     case round =>
      obtain ⟨k, at6, bad6, va, vc, vs, rfl, hkm, hvl, hinv6, hvok, hV⟩ := hrel
      obtain ⟨q1, q2, q3⟩ := hV.blk
      obtain ⟨y1, y2, y3, y4, y5, _⟩ := id hV.rd
      obtain ⟨tz, t0, t1, tf, _⟩ := id hV.x
      have hO6 := hD.out.kept hV.kept (by omega)
      obtain ⟨oz, o0, o1, o2, o3, o4, of_⟩ := id hO6
      have hn6 : Hid _ := hV.kept.owns hD.own.nodes (fun k hk hp => by have := (hD.own.nodes.lt k hk).1; omega)
      by_cases hk0 : 0 < k
      ·
       have hd2 : (0 : Int) < (k : Int) := by omega
       cases bad6 with
       | true =>
        have hI6 : Hid (SInv F (gout (n - (j + 1)) rv (nl.map (·.n) ++ [⟨(t : Int), vs⟩]) (bs.drop at6)) false true) := hinv6.out.of_bad
        go_wp2_with (at_builtin; refine wpList_append_lies _ rfl (.tmp 60) (.tmp 62) 29 rfl (G + 1) 111 j0 _ 2 32 Tryz.underlying29 hj hy0 hy1 hy2 rfl (by decide) _ _ _ rfl (World.ownsRow.alloc hn6.out _) ⟨wr.heap.size, 0, none⟩ 1 1 [.int .i64 (t : Int), .slice va vs.length vc] rfl rfl (World.news_of_block (cs := #[.int .i64 (t : Int), .slice va vs.length vc]) (t := 111) (fr := (0, 0)) (blk_new_at _ _ _ rfl)) (by simp [Value.oneCell']) (by decide) (by have h7 := hnl.out; unfold maxLen; omega) (by have h7 := hnl.out; omega) (by simp; omega) (wr.heap.size + 1) (by simp) ?_; intro gg cc w8 hown8 hgrow8 hat8 hlt8; obtain ⟨ez, e0, e1, e2, e3, e4, ef⟩ := (hO6.kept ((Kept.refl (fun _ => False) _).alloc (.cells #[.int .i64 (t : Int), .slice va vs.length vc] 111)) (fun e => e)).kept (Kept.of_grown hgrow8) (fun hp => by have := (hD.own.nodes.lt _ hp).1; omega))
        have hfin := hD.step (n := ⟨(t : Int), vs⟩) hV.rd hV.kept (owns_le hV.vals (Nat.le_succ_of_le q2)) hown8 hgrow8 hat8
        have hI8 : Hid (SInv F (gout (n - (j + 1)) rv ((nl ++ [(⟨⟨(t : Int), vs⟩, va, vc⟩ : NL)]).map (·.n)) (bs.drop at6)) false true) := by show SInv F _ false _; rw [List.map_append]; exact hI6.out
        go_roundw
        case rel =>
         refine ⟨j + 1, at6, true, some ⟨gg, 0, none⟩, cc, nl ++ [⟨⟨(t : Int), vs⟩, va, vc⟩], by go_num, by omega, by have h7 := hnl.out; show (nl ++ [(⟨⟨(t : Int), vs⟩, va, vc⟩ : NL)]).length = j + 1; simp [h7], hI8, fun x hx => ?_, hfin⟩
         rcases List.mem_append.1 hx with hx | hx
         · exact hok x hx
         ·
          simp at hx
          subst hx
          exact ⟨small_i64 (by show 0 ≤ (t : Int) ∧ (t : Int) ≤ 1000000; omega), by show vs.length ≤ maxLen; have h7 := hvl.out; unfold maxLen; omega, hvok⟩
        case measure => simp [intOf]; omega
       | false =>
        go_wp2_with (first
         | (go_at_call 54; refine (sVal_any (w.heap.size + 1) sa cap bs at6 false _ hV.rd).mono ?_; rintro e w7 ⟨hK7, v, at7, bad7, rfl, hv, hR7, _, hrel7⟩; have hX7 := hV.x.kept hK7 (by omega); obtain ⟨uz, u0, u1, uf, _⟩ := id hX7; have hs7 := hK7.size; have hv7 : Hid _ := hK7.owns hV.vals (fun k hk hp => by have := (hV.vals.lt k hk).1; omega))
         | (at_builtin; refine wpList_append_lies _ rfl (.tmp 54) (.tmp 56) 109 rfl (X + 1) 28 i0 _ 4 40 Tryz.underlying109 hi hz0 hz1 hz2 rfl (by decide) _ _ _ rfl (World.ownsRow.alloc (World.ownsRow.alloc hv7.out _) _) ⟨w7.heap.size + 1, 0, none⟩ 1 1 v.four rfl rfl (World.news_of_block (cs := #[.int .i64 v.kind, .int .i64 v.num, .string v.text, .int .i64 v.node]) (t := 28) (fr := (0, 0)) (blk_new_at _ _ _ (by simp))) (by simp [GV.four, Value.oneCell']) (by decide) (by have h7 := hvl.out; unfold maxLen; omega) (by have h7 := hvl.out; omega) (by simp; omega) (w7.heap.size + 2) (by simp) ?_; intro gg cc w8 hown8 hgrow8 hat8 hlt8; obtain ⟨ez, e0, e1, ef, _⟩ := (hX7.kept (((Kept.refl (fun _ => False) w7).alloc (.cells #[.int .i64 v.kind, .int .i64 v.num, .string v.text, .int .i64 v.node] 28)).alloc (.cells #[.int .i64 v.kind, .int .i64 v.num, .string v.text, .int .i64 v.node] 28)) (fun e => e)).kept (Kept.of_grown hgrow8) (fun hp => by have := (hV.vals.lt _ hp).1; omega)))
        have hfin := hV.step (v := v) (hR7.grow (gal (gre _) _)) (hK7.alloc _) hown8 hgrow8
        have hI7 : Hid (SInv F (gin (n - (j + 1)) (k - 1) rv (nl.map (·.n)) (t : Int) (vs ++ [v]) (bs.drop at7)) false bad7) := by
         show SInv F _ false bad7
         refine hinv6.out.comp hrel7.out (fun h => ?_) (fun h => ?_)
         · rw [show k = (k - 1) + 1 by omega, gin_next h, Nat.add_sub_cancel]
         · rw [show k = (k - 1) + 1 by omega, gin_none h]
        go_roundw
        case rel =>
         refine ⟨k - 1, at7, bad7, some ⟨gg, 0, none⟩, cc, vs ++ [v], by go_num, by omega, by have h7 := hvl.out; show (vs ++ [v]).length = m - (k - 1); simp [h7]; omega, hI7, fun x hx => ?_, hfin⟩
         rcases List.mem_append.1 hx with hx | hx
         · exact hvok x hx
         ·
          simp at hx
          subst hx
          exact hv
        case measure => simp [intOf]; omega
      ·
       have hd2 : ¬ ((0 : Int) < (k : Int)) := by omega
       obtain rfl : k = 0 := by omega
       have hI6 : Hid (SInv F (gout (n - (j + 1)) rv (nl.map (·.n) ++ [⟨(t : Int), vs⟩]) (bs.drop at6)) false bad6) := by have := hinv6.out; rw [gin_done] at this; exact this
       go_wp2_with (at_builtin; refine wpList_append_lies _ rfl (.tmp 60) (.tmp 62) 29 rfl (G + 1) 111 j0 _ 2 32 Tryz.underlying29 hj hy0 hy1 hy2 rfl (by decide) _ _ _ rfl (World.ownsRow.alloc hn6.out _) ⟨wr.heap.size, 0, none⟩ 1 1 [.int .i64 (t : Int), .slice va vs.length vc] rfl rfl (World.news_of_block (cs := #[.int .i64 (t : Int), .slice va vs.length vc]) (t := 111) (fr := (0, 0)) (blk_new_at _ _ _ rfl)) (by simp [Value.oneCell']) (by decide) (by have h7 := hnl.out; unfold maxLen; omega) (by have h7 := hnl.out; omega) (by simp; omega) (wr.heap.size + 1) (by simp) ?_; intro gg cc w8 hown8 hgrow8 hat8 hlt8; obtain ⟨ez, e0, e1, e2, e3, e4, ef⟩ := (hO6.kept ((Kept.refl (fun _ => False) _).alloc (.cells #[.int .i64 (t : Int), .slice va vs.length vc] 111)) (fun e => e)).kept (Kept.of_grown hgrow8) (fun hp => by have := (hD.own.nodes.lt _ hp).1; omega))
       have hfin := hD.step (n := ⟨(t : Int), vs⟩) hV.rd hV.kept (owns_le hV.vals (Nat.le_succ_of_le q2)) hown8 hgrow8 hat8
       have hI8 : Hid (SInv F (gout (n - (j + 1)) rv ((nl ++ [(⟨⟨(t : Int), vs⟩, va, vc⟩ : NL)]).map (·.n)) (bs.drop at6)) false bad6) := by show SInv F _ false _; rw [List.map_append]; exact hI6.out
       go_roundw
       case rel =>
        refine ⟨j + 1, at6, bad6, some ⟨gg, 0, none⟩, cc, nl ++ [⟨⟨(t : Int), vs⟩, va, vc⟩], by go_num, by omega, by have h7 := hnl.out; show (nl ++ [(⟨⟨(t : Int), vs⟩, va, vc⟩ : NL)]).length = j + 1; simp [h7], hI8, fun x hx => ?_, hfin⟩
        rcases List.mem_append.1 hx with hx | hx
        · exact hok x hx
        ·
         simp at hx
         subst hx
         exact ⟨small_i64 (by show 0 ≤ (t : Int) ∧ (t : Int) ≤ 1000000; omega), by show vs.length ≤ maxLen; have h7 := hvl.out; unfold maxLen; omega, hvok⟩
       case measure => simp [intOf]; omega
   ·
    have hd1 : ¬ ((j : Int) < (n : Int)) := by omega
    obtain rfl : j = n := by omega
    cases bad1 with
    | true =>
     have hFn : F = none := hinv.out.2.2 rfl rfl
     have hun : sUnB bs = (false, zeroG) := by unfold sUnB; rw [if_neg hlen, ← hF.out, hFn]
     have hokp : ∀ g' q, sGraph (bs.drop 2) = some (g', q) → bs.length ≤ 4096 → g'.Ok := fun g' q h _ => by rw [← hF.out, hFn] at h; cases h
     go_wp2
     have hC : Kept (fun k => k = w.heap.size) wr ((((((wr.setCell ⟨w.heap.size, 0, none⟩ (.bool false)).setCell ⟨w.heap.size, 1, none⟩ (.int .i64 0)).setCell ⟨w.heap.size, 2, none⟩ (.int .i64 0)).setCell ⟨w.heap.size, 3, none⟩ (.string ⟨#[]⟩)).setCell ⟨w.heap.size, 4, none⟩ (.int .i64 0)).setCell ⟨w.heap.size, 5, none⟩ (.slice none 0 0)) := ((((((Kept.refl (fun k => k = w.heap.size) wr).set (fun _ => rfl) _).set (fun _ => rfl) _).set (fun _ => rfl) _).set (fun _ => rfl) _).set (fun _ => rfl) _).set (fun _ => rfl) _
     refine bodyPost_ret (v := unVal false zeroG none 0) (by simp [results, Tryz.results27, go_sem, s0, s1, s2, s3, s4, s5, zeroG]) rfl ?_
     exact ⟨none, 0, by rw [hun], by rw [hun]; exact fun i hi => absurd hi (Nat.not_lt_zero _), (fun _ _ => by rw [hun]; exact fun i hi => absurd hi (Nat.not_lt_zero _)), hokp, (hBr).trans (hC.below (hBr).size (fun k hk e => by omega))⟩
    | false =>
     obtain ⟨g, hg⟩ := hid_ex (⟨rv, nl.map (·.n)⟩ : GG)
     have hFs : F = some (g, bs.drop at1) := by
      have h1 := hinv.out.2.1 rfl rfl
      rw [Nat.sub_self] at h1
      rw [h1, hg.out]
      simp [gout, sNodes]
     have hgok : g.Ok := by
      rw [hg.out]
      refine ⟨hrv, ?_, fun x hx => ?_⟩
      ·
       show (nl.map (·.n)).length ≤ maxLen
       rw [List.length_map, hnl.out]; unfold maxLen; omega
      ·
       obtain ⟨y, hy, rfl⟩ := List.mem_map.1 hx
       exact hok y hy
     have hokp : ∀ g' q, sGraph (bs.drop 2) = some (g', q) → bs.length ≤ 4096 → g'.Ok := fun g' q h _ => by
      rw [← hF.out, hFs] at h
      cases h
      exact hgok
     have hNg : NodesAt wr.heap.size wr na g.nodes := by rw [hg.out]; exact hD.own.at_
     have er : rv = g.root := by rw [hg.out]
     have el : nl.length = g.nodes.length := by rw [hg.out]; simp
     have hX0 : GBox wr G g na nc := by
      obtain ⟨xz, x0, x1, x2, x3, x4, xf⟩ := id hD.out
      rw [er] at x0 x1 x2 x3
      rw [el] at x4
      exact ⟨xz, x0, x1, x2, x3, x4⟩
     clear er el hinv
     obtain ⟨xz, x0, x1, x2, x3, x4⟩ := id hX0
     cases hgk : okG g with
     | false =>
      have hgk' : Hid _ := hgk
      have hun : sUnB bs = (false, zeroG) := by unfold sUnB; rw [if_neg hlen, ← hF.out, hFs]; exact if_neg (fun h => by rw [hgk] at h; cases h.1)
      go_wp2_with (go_at_call 55; refine (specGraphOk_any na nc g _ hgok hNg).mono ?_; rintro e w9 ⟨rfl, hb9⟩; rw [hgk'.out]; obtain ⟨pz, p0, p1, p2, p3, p4, p5, pf⟩ := hD.res.kept (Kept.of_below hb9 (fun _ => False)) (fun e => e))
      have hC : Kept (fun k => k = w.heap.size) w9 ((((((w9.setCell ⟨w.heap.size, 0, none⟩ (.bool false)).setCell ⟨w.heap.size, 1, none⟩ (.int .i64 0)).setCell ⟨w.heap.size, 2, none⟩ (.int .i64 0)).setCell ⟨w.heap.size, 3, none⟩ (.string ⟨#[]⟩)).setCell ⟨w.heap.size, 4, none⟩ (.int .i64 0)).setCell ⟨w.heap.size, 5, none⟩ (.slice none 0 0)) := ((((((Kept.refl (fun k => k = w.heap.size) w9).set (fun _ => rfl) _).set (fun _ => rfl) _).set (fun _ => rfl) _).set (fun _ => rfl) _).set (fun _ => rfl) _).set (fun _ => rfl) _
      refine bodyPost_ret (v := unVal false zeroG none 0) (by simp [results, Tryz.results27, go_sem, p0, p1, p2, p3, p4, p5, zeroG]) rfl ?_
      exact ⟨none, 0, by rw [hun], by rw [hun]; exact fun i hi => absurd hi (Nat.not_lt_zero _), (fun _ _ => by rw [hun]; exact fun i hi => absurd hi (Nat.not_lt_zero _)), hokp, (gca hBr hb9).trans (hC.below (gca hBr hb9).size (fun k hk e => by omega))⟩
     | true =>
      have hgk' : Hid _ := hgk
      obtain ⟨im, him⟩ := hid_ex (imageB g)
      have himl : im.length ≤ maxLen := by
       rw [him.out]
       have h1 := graphB_len (canon_ok hgok hgk) (canon_okG hgk)
       unfold imageB formB maxLen
       rw [List.length_append, lowB_length]
       omega
      have hlm' : bs.length ≤ maxLen := by unfold maxLen; omega
      have hlr : ∀ {w9 w10 : World}, Below wr.heap.size wr w9 → Below w9.heap.size w9 w10 → BytesAt w10 sa bs := fun h1 h2 => ha.grow (gca (gca hBr h1) h2)
      by_cases heq : im = bs
      ·
       have hun : sUnB bs = (true, g) := by unfold sUnB; rw [if_neg hlen, ← hF.out, hFs]; exact if_pos ⟨hgk, by rw [← him.out]; exact heq⟩
       have heq' : Hid (decide (im = bs) = true) := decide_eq_true heq
       clear heq
       go_wp2_with (first
        | (go_at_call 55; refine (specGraphOk_any na nc g _ hgok hNg).mono ?_; rintro e w9 ⟨rfl, hb9⟩; rw [hgk'.out]; obtain ⟨yz, y0, y1, y2, y3, y4⟩ := hX0.grow hb9)
        | (go_at_call 56; refine (l2pack_any na nc g _ hgok hgk'.out (hNg.grow hb9)).mono ?_; rintro e w10 ⟨oa10, cap10, rfl, hO10, hb10⟩; rw [← him.out] at hO10 ⊢)
        | (go_at_call 57; refine (l2equal_any oa10 sa im bs cap10 cap _ himl hlm' (owns_bytesO hO10) (hlr hb9 hb10)).mono ?_; rintro e w11 ⟨rfl, hb11⟩; rw [heq'.out]; obtain ⟨vz, v0, v1, v2, v3, v4⟩ := hX0.grow (gca (gca hb9 hb10) hb11); obtain ⟨pz, p0, p1, p2, p3, p4, p5, pf⟩ := hD.res.kept (Kept.of_below (gca (gca hb9 hb10) hb11) (fun _ => False)) (fun e => e)))
       have hC : Kept (fun k => k = w.heap.size) w11 ((((((w11.setCell ⟨w.heap.size, 0, none⟩ (.bool true)).setCell ⟨w.heap.size, 1, none⟩ (.int .i64 g.root.kind)).setCell ⟨w.heap.size, 2, none⟩ (.int .i64 g.root.num)).setCell ⟨w.heap.size, 3, none⟩ (.string g.root.text)).setCell ⟨w.heap.size, 4, none⟩ (.int .i64 g.root.node)).setCell ⟨w.heap.size, 5, none⟩ (.slice na g.nodes.length nc)) := ((((((Kept.refl (fun k => k = w.heap.size) w11).set (fun _ => rfl) _).set (fun _ => rfl) _).set (fun _ => rfl) _).set (fun _ => rfl) _).set (fun _ => rfl) _).set (fun _ => rfl) _
       refine bodyPost_ret (v := unVal true g na nc) (by simp [results, Tryz.results27, go_sem, p0, p1, p2, p3, p4, p5]) rfl ?_
       have hB11 := gca (gca (gca hBr hb9) hb10) hb11
       have hN11 := ((hNg.grow hb9).grow hb10).grow hb11
       have hOw := (hD.own.kept (Kept.of_below (gca (gca hb9 hb10) hb11) (fun _ => False)) (fun _ _ e => e) (fun _ _ _ _ e => e)).kept hC (fun k hk hp => by have := hD.own.nodes.lt k (by rw [hk]; rfl); omega) (fun x hx k hk hp => by have := (hD.own.vals x hx).lt k (by rw [hk]; rfl); omega)
       have hO11 := hOw.at_
       have egn : nl.map (·.n) = g.nodes := by rw [hg.out]
       rw [egn] at hO11
       exact ⟨na, nc, by rw [hun], by rw [hun]; exact hO11, (fun w2 hK2 => by rw [hun]; have h := (hOw.kept hK2 (fun k hk hp => by have := hD.own.nodes.lt k (by rw [hk]; rfl); omega) (fun x hx k hk hp => by have := (hD.own.vals x hx).lt k (by rw [hk]; rfl); omega)).at_; rw [egn] at h; exact h), hokp, hB11.trans (hC.below hB11.size (fun k hk e => by omega))⟩
      ·
       have hun : sUnB bs = (false, zeroG) := by unfold sUnB; rw [if_neg hlen, ← hF.out, hFs]; exact if_neg (fun h => heq (by rw [him.out]; exact h.2))
       have heq' : Hid (decide (im = bs) = false) := decide_eq_false heq
       clear heq
       go_wp2_with (first
        | (go_at_call 55; refine (specGraphOk_any na nc g _ hgok hNg).mono ?_; rintro e w9 ⟨rfl, hb9⟩; rw [hgk'.out]; obtain ⟨yz, y0, y1, y2, y3, y4⟩ := hX0.grow hb9)
        | (go_at_call 56; refine (l2pack_any na nc g _ hgok hgk'.out (hNg.grow hb9)).mono ?_; rintro e w10 ⟨oa10, cap10, rfl, hO10, hb10⟩; rw [← him.out] at hO10 ⊢)
        | (go_at_call 57; refine (l2equal_any oa10 sa im bs cap10 cap _ himl hlm' (owns_bytesO hO10) (hlr hb9 hb10)).mono ?_; rintro e w11 ⟨rfl, hb11⟩; rw [heq'.out]; obtain ⟨vz, v0, v1, v2, v3, v4⟩ := hX0.grow (gca (gca hb9 hb10) hb11); obtain ⟨pz, p0, p1, p2, p3, p4, p5, pf⟩ := hD.res.kept (Kept.of_below (gca (gca hb9 hb10) hb11) (fun _ => False)) (fun e => e)))
       have hC : Kept (fun k => k = w.heap.size) w11 ((((((w11.setCell ⟨w.heap.size, 0, none⟩ (.bool false)).setCell ⟨w.heap.size, 1, none⟩ (.int .i64 0)).setCell ⟨w.heap.size, 2, none⟩ (.int .i64 0)).setCell ⟨w.heap.size, 3, none⟩ (.string ⟨#[]⟩)).setCell ⟨w.heap.size, 4, none⟩ (.int .i64 0)).setCell ⟨w.heap.size, 5, none⟩ (.slice none 0 0)) := ((((((Kept.refl (fun k => k = w.heap.size) w11).set (fun _ => rfl) _).set (fun _ => rfl) _).set (fun _ => rfl) _).set (fun _ => rfl) _).set (fun _ => rfl) _).set (fun _ => rfl) _
       refine bodyPost_ret (v := unVal false zeroG none 0) (by simp [results, Tryz.results27, go_sem, p0, p1, p2, p3, p4, p5, zeroG]) rfl ?_
       exact ⟨none, 0, by rw [hun], by rw [hun]; exact fun i hi => absurd hi (Nat.not_lt_zero _), (fun _ _ => by rw [hun]; exact fun i hi => absurd hi (Nat.not_lt_zero _)), hokp, (gca (gca (gca hBr hb9) hb10) hb11).trans (hC.below (gca (gca (gca hBr hb9) hb10) hb11).size (fun k hk e => by omega))⟩
structure TK where
 code : Int
 gen : Int
 g : GG
abbrev TK.val (t : TK) (na : Option Addr) (nc : Nat) : Value := .agg #[.int .i64 t.code, .int .i64 t.gen, .int .i64 t.g.root.kind, .int .i64 t.g.root.num, .string t.g.root.text, .int .i64 t.g.root.node, .slice na t.g.nodes.length nc]
def DD.takeT (d : DD) : TK := if d.ok = false then ⟨3, 0, zeroG⟩ else if d.newestOf.ok = false then ⟨1, 0, zeroG⟩ else if (unB d.newestOf.bytes).1 = false then ⟨2, d.newestOf.gen, zeroG⟩ else ⟨0, d.newestOf.gen, (unB d.newestOf.bytes).2⟩
structure V7 (w : World) (b : Nat) (x0 x1 x2 x3 x4 x5 x6 : Value) : Prop where
 lt : b < w.heap.size
 c0 : w.cell? ⟨b, 0, none⟩ = some x0
 c1 : w.cell? ⟨b, 1, none⟩ = some x1
 c2 : w.cell? ⟨b, 2, none⟩ = some x2
 c3 : w.cell? ⟨b, 3, none⟩ = some x3
 c4 : w.cell? ⟨b, 4, none⟩ = some x4
 c5 : w.cell? ⟨b, 5, none⟩ = some x5
 c6 : w.cell? ⟨b, 6, none⟩ = some x6
 f : ∀ o, w.frozen? ⟨b, o, none⟩ = false
theorem V7.kept {p : Nat → Prop} {w w' : World} {b : Nat} {x0 x1 x2 x3 x4 x5 x6 : Value} (h : V7 w b x0 x1 x2 x3 x4 x5 x6) (k : Kept p w w') (hn : ¬ p b) : V7 w' b x0 x1 x2 x3 x4 x5 x6 :=
 ⟨Nat.lt_of_lt_of_le h.lt k.size, k.cell h.c0 hn, k.cell h.c1 hn, k.cell h.c2 hn, k.cell h.c3 hn, k.cell h.c4 hn, k.cell h.c5 hn, k.cell h.c6 hn, fun o => (World.frozen?_of_block (w := w) (a := ⟨b, o, none⟩) (k.block b h.lt hn)).trans (h.f o)⟩
theorem V7.grow {w w' : World} {b : Nat} {x0 x1 x2 x3 x4 x5 x6 : Value} (h : V7 w b x0 x1 x2 x3 x4 x5 x6) (k : Below w.heap.size w w') : V7 w' b x0 x1 x2 x3 x4 x5 x6 := h.kept (Kept.of_below k (fun _ => False)) (fun e => e)
theorem V7.new_at (w : World) (x0 x1 x2 x3 x4 x5 x6 : Value) (t : TypeId) (b : Nat) (hb : b = w.heap.size) : V7 (w.alloc (.cells #[x0, x1, x2, x3, x4, x5, x6] t)) b x0 x1 x2 x3 x4 x5 x6 := by
 subst hb
 exact ⟨by simp, by simp, by simp, by simp, by simp, by simp, by simp, by simp, fun o => by simp⟩
theorem V7.set0 {w : World} {b : Nat} {x0 x1 x2 x3 x4 x5 x6 : Value} (h : V7 w b x0 x1 x2 x3 x4 x5 x6) (y : Value) : V7 (w.setCell ⟨b, 0, none⟩ y) b y x1 x2 x3 x4 x5 x6 :=
 ⟨by simpa [World.setCell] using h.lt, World.cell?_setCell_same _ _ _ h.c0, (World.cell?_setCell_other _ _ _ _ (by simp)).trans h.c1, (World.cell?_setCell_other _ _ _ _ (by simp)).trans h.c2, (World.cell?_setCell_other _ _ _ _ (by simp)).trans h.c3, (World.cell?_setCell_other _ _ _ _ (by simp)).trans h.c4, (World.cell?_setCell_other _ _ _ _ (by simp)).trans h.c5, (World.cell?_setCell_other _ _ _ _ (by simp)).trans h.c6, fun o => (World.frozen?_setCell ..).trans (h.f o)⟩
theorem V7.set1 {w : World} {b : Nat} {x0 x1 x2 x3 x4 x5 x6 : Value} (h : V7 w b x0 x1 x2 x3 x4 x5 x6) (y : Value) : V7 (w.setCell ⟨b, 1, none⟩ y) b x0 y x2 x3 x4 x5 x6 :=
 ⟨by simpa [World.setCell] using h.lt, (World.cell?_setCell_other _ _ _ _ (by simp)).trans h.c0, World.cell?_setCell_same _ _ _ h.c1, (World.cell?_setCell_other _ _ _ _ (by simp)).trans h.c2, (World.cell?_setCell_other _ _ _ _ (by simp)).trans h.c3, (World.cell?_setCell_other _ _ _ _ (by simp)).trans h.c4, (World.cell?_setCell_other _ _ _ _ (by simp)).trans h.c5, (World.cell?_setCell_other _ _ _ _ (by simp)).trans h.c6, fun o => (World.frozen?_setCell ..).trans (h.f o)⟩
theorem V7.set2 {w : World} {b : Nat} {x0 x1 x2 x3 x4 x5 x6 : Value} (h : V7 w b x0 x1 x2 x3 x4 x5 x6) (y : Value) : V7 (w.setCell ⟨b, 2, none⟩ y) b x0 x1 y x3 x4 x5 x6 :=
 ⟨by simpa [World.setCell] using h.lt, (World.cell?_setCell_other _ _ _ _ (by simp)).trans h.c0, (World.cell?_setCell_other _ _ _ _ (by simp)).trans h.c1, World.cell?_setCell_same _ _ _ h.c2, (World.cell?_setCell_other _ _ _ _ (by simp)).trans h.c3, (World.cell?_setCell_other _ _ _ _ (by simp)).trans h.c4, (World.cell?_setCell_other _ _ _ _ (by simp)).trans h.c5, (World.cell?_setCell_other _ _ _ _ (by simp)).trans h.c6, fun o => (World.frozen?_setCell ..).trans (h.f o)⟩
theorem V7.set3 {w : World} {b : Nat} {x0 x1 x2 x3 x4 x5 x6 : Value} (h : V7 w b x0 x1 x2 x3 x4 x5 x6) (y : Value) : V7 (w.setCell ⟨b, 3, none⟩ y) b x0 x1 x2 y x4 x5 x6 :=
 ⟨by simpa [World.setCell] using h.lt, (World.cell?_setCell_other _ _ _ _ (by simp)).trans h.c0, (World.cell?_setCell_other _ _ _ _ (by simp)).trans h.c1, (World.cell?_setCell_other _ _ _ _ (by simp)).trans h.c2, World.cell?_setCell_same _ _ _ h.c3, (World.cell?_setCell_other _ _ _ _ (by simp)).trans h.c4, (World.cell?_setCell_other _ _ _ _ (by simp)).trans h.c5, (World.cell?_setCell_other _ _ _ _ (by simp)).trans h.c6, fun o => (World.frozen?_setCell ..).trans (h.f o)⟩
theorem V7.set4 {w : World} {b : Nat} {x0 x1 x2 x3 x4 x5 x6 : Value} (h : V7 w b x0 x1 x2 x3 x4 x5 x6) (y : Value) : V7 (w.setCell ⟨b, 4, none⟩ y) b x0 x1 x2 x3 y x5 x6 :=
 ⟨by simpa [World.setCell] using h.lt, (World.cell?_setCell_other _ _ _ _ (by simp)).trans h.c0, (World.cell?_setCell_other _ _ _ _ (by simp)).trans h.c1, (World.cell?_setCell_other _ _ _ _ (by simp)).trans h.c2, (World.cell?_setCell_other _ _ _ _ (by simp)).trans h.c3, World.cell?_setCell_same _ _ _ h.c4, (World.cell?_setCell_other _ _ _ _ (by simp)).trans h.c5, (World.cell?_setCell_other _ _ _ _ (by simp)).trans h.c6, fun o => (World.frozen?_setCell ..).trans (h.f o)⟩
theorem V7.set5 {w : World} {b : Nat} {x0 x1 x2 x3 x4 x5 x6 : Value} (h : V7 w b x0 x1 x2 x3 x4 x5 x6) (y : Value) : V7 (w.setCell ⟨b, 5, none⟩ y) b x0 x1 x2 x3 x4 y x6 :=
 ⟨by simpa [World.setCell] using h.lt, (World.cell?_setCell_other _ _ _ _ (by simp)).trans h.c0, (World.cell?_setCell_other _ _ _ _ (by simp)).trans h.c1, (World.cell?_setCell_other _ _ _ _ (by simp)).trans h.c2, (World.cell?_setCell_other _ _ _ _ (by simp)).trans h.c3, (World.cell?_setCell_other _ _ _ _ (by simp)).trans h.c4, World.cell?_setCell_same _ _ _ h.c5, (World.cell?_setCell_other _ _ _ _ (by simp)).trans h.c6, fun o => (World.frozen?_setCell ..).trans (h.f o)⟩
theorem V7.set6 {w : World} {b : Nat} {x0 x1 x2 x3 x4 x5 x6 : Value} (h : V7 w b x0 x1 x2 x3 x4 x5 x6) (y : Value) : V7 (w.setCell ⟨b, 6, none⟩ y) b x0 x1 x2 x3 x4 x5 y :=
 ⟨by simpa [World.setCell] using h.lt, (World.cell?_setCell_other _ _ _ _ (by simp)).trans h.c0, (World.cell?_setCell_other _ _ _ _ (by simp)).trans h.c1, (World.cell?_setCell_other _ _ _ _ (by simp)).trans h.c2, (World.cell?_setCell_other _ _ _ _ (by simp)).trans h.c3, (World.cell?_setCell_other _ _ _ _ (by simp)).trans h.c4, (World.cell?_setCell_other _ _ _ _ (by simp)).trans h.c5, World.cell?_setCell_same _ _ _ h.c6, fun o => (World.frozen?_setCell ..).trans (h.f o)⟩
theorem V7.put {w : World} {b : Nat} {x0 x1 x2 x3 x4 x5 x6 : Value} (h : V7 w b x0 x1 x2 x3 x4 x5 x6) (y0 y1 y2 y3 y4 y5 y6 : Value) : V7 (((((((w.setCell ⟨b, 0, none⟩ (y0)).setCell ⟨b, 1, none⟩ (y1)).setCell ⟨b, 2, none⟩ (y2)).setCell ⟨b, 3, none⟩ (y3)).setCell ⟨b, 4, none⟩ (y4)).setCell ⟨b, 5, none⟩ (y5)).setCell ⟨b, 6, none⟩ (y6)) b y0 y1 y2 y3 y4 y5 y6 ∧ Kept (fun z => z = b) w (((((((w.setCell ⟨b, 0, none⟩ (y0)).setCell ⟨b, 1, none⟩ (y1)).setCell ⟨b, 2, none⟩ (y2)).setCell ⟨b, 3, none⟩ (y3)).setCell ⟨b, 4, none⟩ (y4)).setCell ⟨b, 5, none⟩ (y5)).setCell ⟨b, 6, none⟩ (y6)) :=
 ⟨((((((h.set0 y0).set1 y1).set2 y2).set3 y3).set4 y4).set5 y5).set6 y6, (((((((Kept.refl (fun z => z = b) w).set (a := ⟨b, 0, none⟩) (fun _ => rfl) _).set (a := ⟨b, 1, none⟩) (fun _ => rfl) _).set (a := ⟨b, 2, none⟩) (fun _ => rfl) _).set (a := ⟨b, 3, none⟩) (fun _ => rfl) _).set (a := ⟨b, 4, none⟩) (fun _ => rfl) _).set (a := ⟨b, 5, none⟩) (fun _ => rfl) _).set (a := ⟨b, 6, none⟩) (fun _ => rfl) _⟩
theorem answered_nil (t : TK) (na : Option Addr) (nc : Nat) (w : World) :
  Calls Tryz.prog 30 #[t.val na nc, .nilIface] w fun e w' => e = .returned (t.val na nc) ∧ Below w.heap.size w w' := by
 have hT := (V7.new_at w (.int .i64 t.code) (.int .i64 t.gen) (.int .i64 t.g.root.kind) (.int .i64 t.g.root.num) (.string t.g.root.text) (.int .i64 t.g.root.node) (.slice na t.g.nodes.length nc) 33 w.heap.size rfl).grow (gal (gal (gre _) (.cells #[.int .i64 0, .int .i64 0, .int .i64 0, .int .i64 0, .string ⟨#[]⟩, .int .i64 0, .slice none 0 0] 33)) (.cells #[.int .i64 0, .int .i64 0] 118))
 have hR := (V7.new_at (w.alloc (.cells #[.int .i64 t.code, .int .i64 t.gen, .int .i64 t.g.root.kind, .int .i64 t.g.root.num, .string t.g.root.text, .int .i64 t.g.root.node, .slice na t.g.nodes.length nc] 33)) (.int .i64 0) (.int .i64 0) (.int .i64 0) (.int .i64 0) (.string ⟨#[]⟩) (.int .i64 0) (.slice none 0 0) 33 (w.heap.size + 1) (by simp)).grow (gal (gre _) (.cells #[.int .i64 0, .int .i64 0] 118))
 have hA : Below w.heap.size w (((w.alloc (.cells #[.int .i64 t.code, .int .i64 t.gen, .int .i64 t.g.root.kind, .int .i64 t.g.root.num, .string t.g.root.text, .int .i64 t.g.root.node, .slice na t.g.nodes.length nc] 33)).alloc (.cells #[.int .i64 0, .int .i64 0, .int .i64 0, .int .i64 0, .string ⟨#[]⟩, .int .i64 0, .slice none 0 0] 33)).alloc (.cells #[.int .i64 0, .int .i64 0] 118)) := gal (gal (gal (gre w) _) _) _
 go_enter Tryz.func30, Tryz.ntmps30
 go_upto_region 2 with fail
 generalize ((w.alloc (.cells #[.int .i64 t.code, .int .i64 t.gen, .int .i64 t.g.root.kind, .int .i64 t.g.root.num, .string t.g.root.text, .int .i64 t.g.root.node, .slice na t.g.nodes.length nc] 33)).alloc (.cells #[.int .i64 0, .int .i64 0, .int .i64 0, .int .i64 0, .string ⟨#[]⟩, .int .i64 0, .slice none 0 0] 33)).alloc (.cells #[.int .i64 0, .int .i64 0] 118) = w1 at hT hR hA ⊢
 obtain ⟨_, t0, t1, t2, t3, t4, t5, t6, _⟩ := id hT
 obtain ⟨_, r0, r1, r2, r3, r4, r5, r6, rf_⟩ := id hR
 go_wp2_with (go_at_call 60; refine (as_nilR _ w1).mono ?_; rintro e w2 ⟨rfl, rfl⟩)
 obtain ⟨hV9, hK9⟩ := hR.put (.int .i64 t.code) (.int .i64 t.gen) (.int .i64 t.g.root.kind) (.int .i64 t.g.root.num) (.string t.g.root.text) (.int .i64 t.g.root.node) (.slice na t.g.nodes.length nc)
 generalize (((((((w2.setCell ⟨w.heap.size + 1, 0, none⟩ (.int .i64 t.code)).setCell ⟨w.heap.size + 1, 1, none⟩ (.int .i64 t.gen)).setCell ⟨w.heap.size + 1, 2, none⟩ (.int .i64 t.g.root.kind)).setCell ⟨w.heap.size + 1, 3, none⟩ (.int .i64 t.g.root.num)).setCell ⟨w.heap.size + 1, 4, none⟩ (.string t.g.root.text)).setCell ⟨w.heap.size + 1, 5, none⟩ (.int .i64 t.g.root.node)).setCell ⟨w.heap.size + 1, 6, none⟩ (.slice na t.g.nodes.length nc)) = w9 at hV9 hK9 ⊢
 obtain ⟨_, q0, q1, q2, q3, q4, q5, q6, _⟩ := id hV9
 exact bodyPost_ret (v := t.val na nc) (by simp [results, Tryz.results30, go_sem, q0, q1, q2, q3, q4, q5, q6]) rfl ⟨rfl, hA.trans (hK9.below hA.size (fun z hz e => by omega))⟩
theorem answered_hit (t : TK) (na : Option Addr) (nc : Nat) (x y : Int) (w : World) (hg : w.cell? ⟨0, 0, none⟩ = some (.iface 204 (.agg #[.pointer (some ⟨1, 69, none⟩)]))) :
  Calls Tryz.prog 30 #[t.val na nc, .iface 118 (.agg #[.int .i64 x, .int .i64 y])] w fun e w' => e = .returned ((TK.mk x y zeroG).val none 0) ∧ Below w.heap.size w w' := by
 have hR := (V7.new_at (w.alloc (.cells #[.int .i64 t.code, .int .i64 t.gen, .int .i64 t.g.root.kind, .int .i64 t.g.root.num, .string t.g.root.text, .int .i64 t.g.root.node, .slice na t.g.nodes.length nc] 33)) (.int .i64 0) (.int .i64 0) (.int .i64 0) (.int .i64 0) (.string ⟨#[]⟩) (.int .i64 0) (.slice none 0 0) 33 (w.heap.size + 1) (by simp)).grow (gal (gre _) (.cells #[.int .i64 0, .int .i64 0] 118))
 have hA : Below w.heap.size w (((w.alloc (.cells #[.int .i64 t.code, .int .i64 t.gen, .int .i64 t.g.root.kind, .int .i64 t.g.root.num, .string t.g.root.text, .int .i64 t.g.root.node, .slice na t.g.nodes.length nc] 33)).alloc (.cells #[.int .i64 0, .int .i64 0, .int .i64 0, .int .i64 0, .string ⟨#[]⟩, .int .i64 0, .slice none 0 0] 33)).alloc (.cells #[.int .i64 0, .int .i64 0] 118)) := gal (gal (gal (gre w) _) _) _
 have hP := VB.new_at ((w.alloc (.cells #[.int .i64 t.code, .int .i64 t.gen, .int .i64 t.g.root.kind, .int .i64 t.g.root.num, .string t.g.root.text, .int .i64 t.g.root.node, .slice na t.g.nodes.length nc] 33)).alloc (.cells #[.int .i64 0, .int .i64 0, .int .i64 0, .int .i64 0, .string ⟨#[]⟩, .int .i64 0, .slice none 0 0] 33)) (.int .i64 0) (.int .i64 0) 118 (w.heap.size + 1 + 1) (by simp)
 go_enter Tryz.func30, Tryz.ntmps30
 go_upto_region 2 with fail
 generalize ((w.alloc (.cells #[.int .i64 t.code, .int .i64 t.gen, .int .i64 t.g.root.kind, .int .i64 t.g.root.num, .string t.g.root.text, .int .i64 t.g.root.node, .slice na t.g.nodes.length nc] 33)).alloc (.cells #[.int .i64 0, .int .i64 0, .int .i64 0, .int .i64 0, .string ⟨#[]⟩, .int .i64 0, .slice none 0 0] 33)).alloc (.cells #[.int .i64 0, .int .i64 0] 118) = w1 at hR hA hP ⊢
 go_wp2_with (go_at_call 60; refine (as_hitR (w.heap.size + 1 + 1) x y _ _ w1 (cell_later hA hg) hP.v0 hP.v1 hP.vf).mono ?_; rintro e w2 ⟨rfl, hK2, q0, q1⟩; have hR2 := hR.kept hK2 (by omega); obtain ⟨_, r0, r1, r2, r3, r4, r5, r6, rf_⟩ := id hR2)
 have hA2 : Below w.heap.size w w2 := hA.trans (hK2.below hA.size (fun z hz e => by omega))
 obtain ⟨hV9, hK9⟩ := hR2.put (.int .i64 x) (.int .i64 y) (.int .i64 0) (.int .i64 0) (.string ⟨#[]⟩) (.int .i64 0) (.slice none 0 0)
 generalize (((((((w2.setCell ⟨w.heap.size + 1, 0, none⟩ (.int .i64 x)).setCell ⟨w.heap.size + 1, 1, none⟩ (.int .i64 y)).setCell ⟨w.heap.size + 1, 2, none⟩ (.int .i64 0)).setCell ⟨w.heap.size + 1, 3, none⟩ (.int .i64 0)).setCell ⟨w.heap.size + 1, 4, none⟩ (.string ⟨#[]⟩)).setCell ⟨w.heap.size + 1, 5, none⟩ (.int .i64 0)).setCell ⟨w.heap.size + 1, 6, none⟩ (.slice none 0 0)) = w9 at hV9 hK9 ⊢
 obtain ⟨_, q0, q1, q2, q3, q4, q5, q6, _⟩ := id hV9
 exact bodyPost_ret (v := (TK.mk x y zeroG).val none 0) (by simp [results, Tryz.results30, go_sem, q0, q1, q2, q3, q4, q5, q6, zeroG]) rfl ⟨rfl, hA2.trans (hK9.below hA2.size (fun z hz e => by omega))⟩
theorem mb_atT {w : World} {lo : Nat} {oa : Option Addr} {ys : List Nat} (h : MB w lo oa ys) : BytesAt w oa ys := by
 rcases h with rfl | ⟨G, n, rfl, _, hB⟩
 · exact fun i hi => absurd hi (Nat.not_lt_zero _)
 · exact brow_bytes hB
theorem newest_byteT {d : DD} (h : d.Fit) (ho : d.Ok) : (∀ x, x ∈ d.newestOf.bytes → x < 256) ∧ d.newestOf.bytes.length ≤ 4096 := by
 have hs : ∀ m, m < 2 → (∀ x, x ∈ (d.slotOf m).bytes → x < 256) := fun m hm => by
  unfold DD.slotOf
  split
  · exact DD.img_byte h ho hm
  · intro x hx; cases hx
 unfold DD.newestOf
 split
 · exact ⟨hs 1 (by omega), (DD.slot_fine h (slot := 1) (by omega)).len⟩
 · exact ⟨hs 0 (by omega), (DD.slot_fine h (slot := 0) (by omega)).len⟩
def TUp (d : DD) (w : World) (e : Ending) (w' : World) : Prop :=
 Below w.heap.size w w' ∧ ((∃ na nc nl, d.takeT.code = 0 ∧ e = .returned (.tuple #[d.takeT.val na nc, .nilIface]) ∧ nl.map (·.n) = d.takeT.g.nodes ∧ OwnG w' w.heap.size na nc nl) ∨ (d.takeT.g = zeroG ∧ e = .returned (.tuple #[(TK.mk 0 0 zeroG).val none 0, .iface 118 (.agg #[.int .i64 d.takeT.code, .int .i64 d.takeT.gen])])))
theorem takeUp_any (d : DD) (l : DL) (w : World) (hd : d.Ok) (ha : DAt w l d) : Calls Tryz.prog 31 #[d.val l] w (TUp d w) := by
 have hA := gal (gal (gre w) (.cells #[.slice l.ba d.blocks.length l.bc, .slice l.wa d.waiting.length l.wc] 37)) (.cells #[.int .i64 0, .int .i64 0, .int .i64 0, .int .i64 0, .string ⟨#[]⟩, .int .i64 0, .slice none 0 0] 33)
 have hX0 := (DBox.new w d l 37).grow (gal (gre _) (.cells #[.int .i64 0, .int .i64 0, .int .i64 0, .int .i64 0, .string ⟨#[]⟩, .int .i64 0, .slice none 0 0] 33))
 have hR0 := V7.new_at (w.alloc (.cells #[.slice l.ba d.blocks.length l.bc, .slice l.wa d.waiting.length l.wc] 37)) (.int .i64 0) (.int .i64 0) (.int .i64 0) (.int .i64 0) (.string ⟨#[]⟩) (.int .i64 0) (.slice none 0 0) 33 (w.heap.size + 1) (by simp)
 cases hok : d.ok with
 | false =>
  have ht : d.takeT = ⟨3, 0, zeroG⟩ := if_pos hok
  have ht' : Hid _ := ht
  have hok' : Hid _ := hok
  clear hok ht
  go_enter Tryz.func31, Tryz.ntmps31
  go_wp2_with (go_at_call 61; refine (implDiskOk_any d l _ hd (ha.grow hA)).mono ?_; rintro e w2 ⟨rfl, hb2⟩; rw [hok'.out]; have hR2 := hR0.grow hb2; obtain ⟨_, r0, r1, r2, r3, r4, r5, r6, rf_⟩ := id hR2)
  obtain ⟨hV9, hK9⟩ := hR2.put (.int .i64 0) (.int .i64 0) (.int .i64 0) (.int .i64 0) (.string ⟨#[]⟩) (.int .i64 0) (.slice none 0 0)
  generalize (((((((w2.setCell ⟨w.heap.size + 1, 0, none⟩ (.int .i64 0)).setCell ⟨w.heap.size + 1, 1, none⟩ (.int .i64 0)).setCell ⟨w.heap.size + 1, 2, none⟩ (.int .i64 0)).setCell ⟨w.heap.size + 1, 3, none⟩ (.int .i64 0)).setCell ⟨w.heap.size + 1, 4, none⟩ (.string ⟨#[]⟩)).setCell ⟨w.heap.size + 1, 5, none⟩ (.int .i64 0)).setCell ⟨w.heap.size + 1, 6, none⟩ (.slice none 0 0)) = w9 at hV9 hK9 ⊢
  obtain ⟨_, q0, q1, q2, q3, q4, q5, q6, _⟩ := id hV9
  exact bodyPost_ret (v := .tuple #[(TK.mk 0 0 zeroG).val none 0, .iface 118 (.agg #[.int .i64 3, .int .i64 0])]) (by simp [results, Tryz.results31, go_sem, q0, q1, q2, q3, q4, q5, q6, zeroG]) rfl ⟨(gca hA hb2).trans (hK9.below (gca hA hb2).size (fun z hz e => by omega)), Or.inr ⟨by rw [ht'.out], by rw [ht'.out]⟩⟩
 | true =>
  have hok' : Hid _ := hok
  have hf := DD.fit hok
  obtain ⟨k, hk⟩ := hid_ex d.newestOf
  have hne : d.newest = k := by rw [hk.out]; exact if_pos hok
  cases hko : k.ok with
  | false =>
   have ht : d.takeT = ⟨1, 0, zeroG⟩ := (if_neg (by rw [hok]; simp)).trans (if_pos (by rw [← hk.out]; exact hko))
   have ht' : Hid _ := ht
   have hko' : Hid _ := hko
   clear hok ht hko
   go_enter Tryz.func31, Tryz.ntmps31
   go_upto_region 4 with (first
    | (go_at_call 61; refine (implDiskOk_any d l _ hd (ha.grow hA)).mono ?_; rintro e w2 ⟨rfl, hb2⟩; rw [hok'.out]; obtain ⟨_, x0, x1⟩ := hX0.grow hb2)
    | (go_at_call 62; refine (implNewest_any d l _ hd (ha.grow (gca hA hb2))).mono ?_; rw [hne]; rintro e w3 ⟨oa, oc, rfl, hcp, hM3, hb3⟩))
   have hV4 := V4.new_at w3 (.bool k.ok) (.int .i64 k.gen) (.int .i64 k.slot) (.slice oa k.bytes.length oc) 60 w3.heap.size rfl
   have hb4 := gal (gca (gca hA hb2) hb3) (.cells #[.bool k.ok, .int .i64 k.gen, .int .i64 k.slot, .slice oa k.bytes.length oc] 60)
   have hR4 := (hR0.grow hb2).grow (gal hb3 (.cells #[.bool k.ok, .int .i64 k.gen, .int .i64 k.slot, .slice oa k.bytes.length oc] 60))
   generalize w3.alloc (.cells #[.bool k.ok, .int .i64 k.gen, .int .i64 k.slot, .slice oa k.bytes.length oc] 60) = w4 at hV4 hb4 hR4 ⊢
   rw [hko'.out] at hV4
   obtain ⟨_, v0, v1, v2, v3, vf⟩ := id hV4
   obtain ⟨_, r0, r1, r2, r3, r4, r5, r6, rf_⟩ := id hR4
   clear x0 x1
   go_wp2
   obtain ⟨hV9, hK9⟩ := hR4.put (.int .i64 0) (.int .i64 0) (.int .i64 0) (.int .i64 0) (.string ⟨#[]⟩) (.int .i64 0) (.slice none 0 0)
   generalize (((((((w4.setCell ⟨w.heap.size + 1, 0, none⟩ (.int .i64 0)).setCell ⟨w.heap.size + 1, 1, none⟩ (.int .i64 0)).setCell ⟨w.heap.size + 1, 2, none⟩ (.int .i64 0)).setCell ⟨w.heap.size + 1, 3, none⟩ (.int .i64 0)).setCell ⟨w.heap.size + 1, 4, none⟩ (.string ⟨#[]⟩)).setCell ⟨w.heap.size + 1, 5, none⟩ (.int .i64 0)).setCell ⟨w.heap.size + 1, 6, none⟩ (.slice none 0 0)) = w9 at hV9 hK9 ⊢
   obtain ⟨_, q0, q1, q2, q3, q4, q5, q6, _⟩ := id hV9
   exact bodyPost_ret (v := .tuple #[(TK.mk 0 0 zeroG).val none 0, .iface 118 (.agg #[.int .i64 1, .int .i64 0])]) (by simp [results, Tryz.results31, go_sem, q0, q1, q2, q3, q4, q5, q6, zeroG]) rfl ⟨hb4.trans (hK9.below hb4.size (fun z hz e => by omega)), Or.inr ⟨by rw [ht'.out], by rw [ht'.out]⟩⟩
  | true =>
   obtain ⟨ok, hbo⟩ := hid_ex (unB k.bytes).1
   obtain ⟨u, hu⟩ := hid_ex (unB k.bytes).2
   have hkb := newest_byteT hf hd
   rw [← hk.out] at hkb
   obtain ⟨hkb1, hkb2⟩ := hkb
   have hcp0 : True := trivial
   have hko' : Hid _ := hko
   go_enter Tryz.func31, Tryz.ntmps31
   go_upto_region 7 with (first
    | (go_at_call 61; refine (implDiskOk_any d l _ hd (ha.grow hA)).mono ?_; rintro e w2 ⟨rfl, hb2⟩; rw [hok'.out]; obtain ⟨_, x0, x1⟩ := hX0.grow hb2)
    | (go_at_call 62; refine (implNewest_any d l _ hd (ha.grow (gca hA hb2))).mono ?_; rw [hne]; rintro e w3 ⟨oa, oc, rfl, hcp, hM3, hb3⟩)
    | (go_at_call 63; refine (implUnpack_any oa oc k.bytes _ ((mb_atT hM3).grow (gal (gre _) (.cells #[.bool true, .int .i64 k.gen, .int .i64 k.slot, .slice oa k.bytes.length oc] 60))) hcp.out (by omega) hkb1).mono ?_; rintro e w5 ⟨ua, uc, ul, rfl, hul, huO, hb5⟩; rw [← hu.out] at hul; rw [← hbo.out, ← hu.out]))
   have hV4 := V4.new_at w3 (.bool true) (.int .i64 k.gen) (.int .i64 k.slot) (.slice oa k.bytes.length oc) 60 w3.heap.size rfl
   have hb4 := gal (gca (gca hA hb2) hb3) (.cells #[.bool true, .int .i64 k.gen, .int .i64 k.slot, .slice oa k.bytes.length oc] 60)
   have hR4 := (hR0.grow hb2).grow (gal hb3 (.cells #[.bool true, .int .i64 k.gen, .int .i64 k.slot, .slice oa k.bytes.length oc] 60))
   have hs3 : w3.heap.size < (w3.alloc (.cells #[.bool true, .int .i64 k.gen, .int .i64 k.slot, .slice oa k.bytes.length oc] 60)).heap.size := by simp
   generalize w3.alloc (.cells #[.bool true, .int .i64 k.gen, .int .i64 k.slot, .slice oa k.bytes.length oc] 60) = w4 at hV4 hb4 hR4 hb5 huO hs3 ⊢
   have hRP : w.heap.size + 1 < w3.heap.size := ((hR0.grow hb2).grow hb3).lt
   generalize w3.heap.size = PK at hV4 hs3 hRP ⊢
   have hS6 := Six.new w5 ok u.root (.slice ua u.nodes.length uc) 63
   have hb6 := gal hb5 (.cells #[.bool ok, .int .i64 u.root.kind, .int .i64 u.root.num, .string u.root.text, .int .i64 u.root.node, .slice ua u.nodes.length uc] 63)
   have hV6 := hV4.grow hb6
   have hR6 := hR4.grow hb6
   have hA6 := gca hb4 hb6
   have huO6 := huO.kept ((Kept.refl (fun _ => False) w5).alloc (.cells #[.bool ok, .int .i64 u.root.kind, .int .i64 u.root.num, .string u.root.text, .int .i64 u.root.node, .slice ua u.nodes.length uc] 63)) (fun _ _ e => e) (fun _ _ _ _ e => e)
   have hs45 := hb5.size
   generalize w5.alloc (.cells #[.bool ok, .int .i64 u.root.kind, .int .i64 u.root.num, .string u.root.text, .int .i64 u.root.node, .slice ua u.nodes.length uc] 63) = w6 at hS6 hb6 hV6 hR6 hA6 huO6 ⊢
   generalize w5.heap.size = PU at hS6 hs45 ⊢
   obtain ⟨_, v0, v1, v2, v3, vf⟩ := id hV6
   obtain ⟨_, s0, s1, s2, s3, s4, s5, sf⟩ := id hS6
   obtain ⟨_, r0, r1, r2, r3, r4, r5, r6, rf_⟩ := id hR6
   have hRl := hR4.lt
   cases ok with
   | false =>
    have ht : d.takeT = ⟨2, k.gen, zeroG⟩ := (if_neg (by rw [hok]; simp)).trans ((if_neg (by rw [← hk.out, hko]; simp)).trans ((if_pos (by rw [← hk.out]; exact hbo.out.symm)).trans (by rw [← hk.out])))
    have ht' : Hid _ := ht
    clear ht hok hko
    go_upto_region 8 with fail
    have hS0 : V4 w6.drew PK (.bool true) (.int .i64 k.gen) (.int .i64 k.slot) (.slice oa k.bytes.length oc) := hV6.grow (gdr (gre _))
    have hRd := hR6.grow (gdr (gre _))
    refine wp_regionU (fun u => V4 u PK (.bool true) (.int .i64 k.gen) (.int .i64 k.slot) (.slice oa k.bytes.length oc)) 99 (by kernel_rfl) hS0 (fun _ => ?_)
    have hAd : Below w.heap.size w w6.drew := gdr hA6
    generalize w6.drew = wd at hS0 hRd hAd ⊢
    refine anyU_tk (i := 0) rfl hS0 (fun u hSu => by obtain ⟨_, s0, s1, s2, s3, _⟩ := hSu; go_simp <;> with_reducible rfl) ?_
    refine anyU_tk (i := 1) rfl hS0 (fun u hSu => by obtain ⟨_, s0, s1, s2, s3, _⟩ := hSu; go_simp <;> with_reducible rfl) ?_
    refine anyU_tk (i := 2) rfl hS0 (fun u hSu => by obtain ⟨_, s0, s1, s2, s3, _⟩ := hSu; go_simp <;> with_reducible rfl) ?_
    refine anyU_tk (i := 3) rfl hS0 (fun u hSu => by obtain ⟨_, s0, s1, s2, s3, _⟩ := hSu; go_simp <;> with_reducible rfl) ?_
    refine anyU_tk (i := 4) rfl hS0 (fun u hSu => by obtain ⟨_, s0, s1, s2, s3, _⟩ := hSu; go_simp <;> with_reducible rfl) ?_
    simp only [Act.put, List.getElem_toArray, List.getElem_cons_zero, List.getElem_cons_succ, List.setIfInBounds_toArray, List.set_cons_zero, List.set_cons_succ]
    obtain ⟨_, d0, d1, d2, d3, d4, d5, d6, df_⟩ := id hRd
    refine anyU_one (i := 5) (by kernel_rfl) rfl (fun K hK => ?_)
    go_simp
    obtain ⟨hV9, hK9⟩ := hRd.put (.int .i64 0) (.int .i64 0) (.int .i64 0) (.int .i64 0) (.string ⟨#[]⟩) (.int .i64 0) (.slice none 0 0)
    refine hK.out _ _ (hS0.kept hK9 (by omega)) ?_
    clear hK
    have hS9 := hS0.kept hK9 (by omega)
    generalize (((((((wd.setCell ⟨w.heap.size + 1, 0, none⟩ (.int .i64 0)).setCell ⟨w.heap.size + 1, 1, none⟩ (.int .i64 0)).setCell ⟨w.heap.size + 1, 2, none⟩ (.int .i64 0)).setCell ⟨w.heap.size + 1, 3, none⟩ (.int .i64 0)).setCell ⟨w.heap.size + 1, 4, none⟩ (.string ⟨#[]⟩)).setCell ⟨w.heap.size + 1, 5, none⟩ (.int .i64 0)).setCell ⟨w.heap.size + 1, 6, none⟩ (.slice none 0 0)) = w9 at hV9 hK9 hS9 ⊢
    refine anyU_one (i := 6) (by kernel_rfl) rfl (fun K hK => ?_)
    go_simp
    refine hK.out _ _ hS9 ?_
    clear hK
    refine anyU_done (by kernel_rfl) ?_
    go_wp2
    obtain ⟨_, q0, q1, q2, q3, q4, q5, q6, _⟩ := id hV9
    exact bodyPost_ret (v := .tuple #[(TK.mk 0 0 zeroG).val none 0, .iface 118 (.agg #[.int .i64 2, .int .i64 k.gen])]) (by simp [results, Tryz.results31, go_sem, q0, q1, q2, q3, q4, q5, q6, zeroG]) rfl ⟨hAd.trans (hK9.below hAd.size (fun z hz e => by omega)), Or.inr ⟨by rw [ht'.out], by rw [ht'.out]⟩⟩
   | true =>
    have ht : d.takeT = ⟨0, k.gen, u⟩ := (if_neg (by rw [hok]; simp)).trans ((if_neg (by rw [← hk.out, hko]; simp)).trans ((if_neg (by rw [← hk.out, ← hbo.out]; simp)).trans (by rw [← hk.out, ← hu.out])))
    have ht' : Hid _ := ht
    clear ht hok hko
    go_wp2
    obtain ⟨hV9, hK9⟩ := hR6.put (.int .i64 0) (.int .i64 k.gen) (.int .i64 u.root.kind) (.int .i64 u.root.num) (.string u.root.text) (.int .i64 u.root.node) (.slice ua u.nodes.length uc)
    have hO9 := huO6.kept hK9 (fun j e hp => by have := (huO.nodes.lt j (by rw [e]; rfl)).1; omega) (fun x hx j e hp => by have := ((huO.vals x hx).lt j (by rw [e]; rfl)).1; omega)
    generalize (((((((w6.setCell ⟨w.heap.size + 1, 0, none⟩ (.int .i64 0)).setCell ⟨w.heap.size + 1, 1, none⟩ (.int .i64 k.gen)).setCell ⟨w.heap.size + 1, 2, none⟩ (.int .i64 u.root.kind)).setCell ⟨w.heap.size + 1, 3, none⟩ (.int .i64 u.root.num)).setCell ⟨w.heap.size + 1, 4, none⟩ (.string u.root.text)).setCell ⟨w.heap.size + 1, 5, none⟩ (.int .i64 u.root.node)).setCell ⟨w.heap.size + 1, 6, none⟩ (.slice ua u.nodes.length uc)) = w9 at hV9 hK9 hO9 ⊢
    obtain ⟨_, q0, q1, q2, q3, q4, q5, q6, _⟩ := id hV9
    exact bodyPost_ret (v := .tuple #[(TK.mk 0 k.gen u).val ua uc, .nilIface]) (by simp [results, Tryz.results31, go_sem, q0, q1, q2, q3, q4, q5, q6]) rfl ⟨hA6.trans (hK9.below hA6.size (fun z hz e => by omega)), Or.inl ⟨ua, uc, ul, by rw [ht'.out], by rw [ht'.out], by rw [ht'.out]; exact hul, hO9.le (by have := hb4.size; omega)⟩⟩

end Go.Proofs.YthjddpkegooobacGreatDoor
