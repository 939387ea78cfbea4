import Derived.Laws.BytesArg
import Derived.Deep.OwnRows
import Derived.Test.YthjddpkegooobabPartUnJ

/-
  SUNP: the specification's Unpack, walked. Own work.
-/
namespace Go.Proofs.Ythjddpkegooobab
open Go.RowKit

theorem SInv.of_bad {α : Type} {F G G' : Option (α × List Nat)} {bad : Bool} (h : SInv F G bad true) : SInv F G' bad true := ⟨fun _ => rfl, ⟨fun _ hc => (by cases hc), h.2.2⟩⟩
/-- the nodes that are still to come -/
def cont (k : Nat) (rv : GV) (ns : List GN) (x : GN × List Nat) : Option (GG × List Nat) := (sNodes k x.2).map fun y => (⟨rv, (ns ++ [x.1]) ++ y.1⟩, y.2)
def gout (k : Nat) (rv : GV) (ns : List GN) (q : List Nat) : Option (GG × List Nat) := (sNodes k q).map fun y => (⟨rv, ns ++ y.1⟩, y.2)
def gin (k m : Nat) (rv : GV) (ns : List GN) (t : Int) (vs : List GV) (q : List Nat) : Option (GG × List Nat) := ((sVals m q).map fun y => ((⟨t, vs ++ y.1⟩ : GN), y.2)).bind (cont k rv ns)
theorem gout_succ (k : Nat) (rv : GV) (ns : List GN) (q : List Nat) : gout (k + 1) rv ns q = (sNode q).bind (cont k rv ns) := by
  unfold gout cont
  rw [sNodes]
  cases sNode q with
  | none => rfl
  | some x =>
    simp only [Option.bind_some, Option.map_map]
    congr 1
    funext y
    simp
theorem gin_done (k : Nat) (rv : GV) (ns : List GN) (t : Int) (vs : List GV) (q : List Nat) : gin k 0 rv ns t vs q = gout k rv (ns ++ [⟨t, vs⟩]) q := by
  unfold gin gout cont
  simp [sVals]
theorem gin_next {k m : Nat} {rv : GV} {ns : List GN} {t : Int} {vs : List GV} {q q1 : List Nat} {v : GV} (h : sVal q = some (v, q1)) : gin k (m + 1) rv ns t vs q = gin k m rv ns t (vs ++ [v]) q1 := by
  unfold gin
  rw [sVals, h]
  simp only [Option.bind_some, Option.map_map]
  congr 2
  funext y
  simp
theorem gin_none {k m : Nat} {rv : GV} {ns : List GN} {t : Int} {vs : List GV} {q : List Nat} (h : sVal q = none) : gin k (m + 1) rv ns t vs q = none := by
  unfold gin
  rw [sVals, h]
  rfl

theorem Five.root {w : World} {b : Nat} {u : GV} {s : Value} (h : Five w b u s) (v : GV) : Five ((((w.setCell ⟨b, 0, none⟩ (.int .i64 v.kind)).setCell ⟨b, 1, none⟩ (.int .i64 v.num)).setCell ⟨b, 2, none⟩ (.string v.text)).setCell ⟨b, 3, none⟩ (.int .i64 v.node)) b v s := by
  obtain ⟨hl, c0, c1, c2, c3, c4, hf⟩ := h
  refine ⟨by simpa [World.setCell] using hl, ?_, ?_, ?_, ?_, ?_, fun o => ?_⟩
  · rw [World.cell?_setCell_other _ _ _ _ (by simp), World.cell?_setCell_other _ _ _ _ (by simp), World.cell?_setCell_other _ _ _ _ (by simp)]
    exact World.cell?_setCell_same _ _ _ c0
  · rw [World.cell?_setCell_other _ _ _ _ (by simp), World.cell?_setCell_other _ _ _ _ (by simp)]
    exact World.cell?_setCell_same (u := .int .i64 u.num) _ _ _ (by rw [World.cell?_setCell_other _ _ _ _ (by simp)]; exact c1)
  · rw [World.cell?_setCell_other _ _ _ _ (by simp)]
    exact World.cell?_setCell_same (u := .string u.text) _ _ _ (by rw [World.cell?_setCell_other _ _ _ _ (by simp), World.cell?_setCell_other _ _ _ _ (by simp)]; exact c2)
  · exact World.cell?_setCell_same (u := .int .i64 u.node) _ _ _ (by rw [World.cell?_setCell_other _ _ _ _ (by simp), World.cell?_setCell_other _ _ _ _ (by simp), World.cell?_setCell_other _ _ _ _ (by simp)]; exact c3)
  · rw [World.cell?_setCell_other _ _ _ _ (by simp), World.cell?_setCell_other _ _ _ _ (by simp), World.cell?_setCell_other _ _ _ _ (by simp), World.cell?_setCell_other _ _ _ _ (by simp)]; exact c4
  · rw [World.frozen?_setCell, World.frozen?_setCell, World.frozen?_setCell, World.frozen?_setCell]; exact hf o

theorem sr_new (w : World) (sa : Option Addr) (bs : List Nat) (cap : Nat) (ha : BytesAt w sa bs) (hc : bs.length ≤ cap) (hl : bs.length ≤ 4096) (hb : ∀ x, x ∈ bs → x < 256) : SR (w.alloc (.cells #[.slice sa bs.length cap, .int .i64 2, .bool false] 111)) w.heap.size sa cap bs 2 false :=
  ⟨by simp, by simp, by simp, by simp, fun o => by simp, (ha.low).below (gal (gre _) _), hc, hl, hb, by omega⟩

/-- what the specification's Unpack leaves -/
def USPostK (bs : List Nat) (w : World) (e : Ending) (w' : World) : Prop :=
  ∃ na nc, e = .returned (unVal (sUnB bs).1 (sUnB bs).2 na nc) ∧ NodesAt w'.heap.size w' na (sUnB bs).2.nodes ∧ (∀ w2, Kept (fun z => z < w.heap.size) w' w2 → NodesAt w2.heap.size w2 na (sUnB bs).2.nodes) ∧ (∀ g q, sGraph (bs.drop 2) = some (g, q) → bs.length ≤ 4096 → g.Ok) ∧ Below w.heap.size w w'
def USPost (bs : List Nat) (w : World) (e : Ending) (w' : World) : Prop :=
  ∃ na nc, e = .returned (unVal (sUnB bs).1 (sUnB bs).2 na nc) ∧ NodesAt w'.heap.size w' na (sUnB bs).2.nodes ∧ (∀ g q, sGraph (bs.drop 2) = some (g, q) → bs.length ≤ 4096 → g.Ok) ∧ Below w.heap.size w w'

set_option maxHeartbeats 4000000 in
set_option maxRecDepth 100000 in
theorem specUnpack_K (sa : Option Addr) (cap : Nat) (bs : List Nat) (w : World) (ha : BytesAt w sa bs) (hc : bs.length ≤ cap) (hlm : bs.length ≤ maxLen) (hbyte : ∀ x, x ∈ bs → x < 256) :
    Calls Try.prog 24 #[.slice sa bs.length cap] w (USPostK bs w) := by
  unfold maxLen at hlm
  have hS0 := Six.new w false ⟨0, 0, ⟨#[]⟩, 0⟩ (.slice none 0 0) 41
  by_cases hlen : 4096 < bs.length
  · have hd : (4096 : Int) < (bs.length : Int) := by omega
    have hun : sUnB bs = (false, zeroG) := if_pos hlen
    go_enter Try.func24, Try.ntmps24
    go_wp2
    refine bodyPost_ret (v := unVal false zeroG none 0) (by simp [results, Try.results24, go_sem, zeroG]) rfl ?_
    exact ⟨none, 0, by rw [hun], by rw [hun]; exact fun i hi => absurd hi (Nat.not_lt_zero _), (fun _ _ => by rw [hun]; exact fun i hi => absurd hi (Nat.not_lt_zero _)), fun g q _ h => absurd h (by omega), gal (gre _) _⟩
  · have hd : ¬ ((4096 : Int) < (bs.length : Int)) := by omega
    have hR0 := sr_new (w.alloc (.cells #[.bool false, .int .i64 0, .int .i64 0, .string ⟨#[]⟩, .int .i64 0, .slice none 0 0] 41)) sa bs cap (ha.grow (gal (gre _) _)) hc (by omega) hbyte
    simp only [World.size_alloc] at hR0
    obtain ⟨j0, hj, hy0, hy1, hy2⟩ := info_parts info_implNode
    obtain ⟨i0, hi, hz0, hz1, hz2⟩ := info_parts info_implVal
    go_enter Try.func24, Try.ntmps24
    go_wp2_with (first
      | (go_at_call 83; refine (sSmall_any (w.heap.size + 1) sa cap bs 2 false _ hR0).mono ?_; rintro e w1 ⟨hK1, n, at1, bad1, rfl, hn, hR1, _, hrel1⟩)
      | (go_at_call 84; refine (sVal_any (w.heap.size + 1) sa cap bs at1 bad1 _ (hR1.grow (gal (gre _) _))).mono ?_; rintro e w2 ⟨hK2, rv, at2, bad2, rfl, hrv, hR2, _, hrel2⟩; obtain ⟨fz, f0, f1, f2, f3, f4, ff⟩ := (Five.new_at w1 ⟨0, 0, ⟨#[]⟩, 0⟩ (.slice none 0 0) 33 w1.heap.size rfl).kept hK2 (by have := hK1.size; simp only [World.size_alloc] at this; omega)))
    have hs1 : w.heap.size + 2 ≤ w1.heap.size := by have := hK1.size; simp only [World.size_alloc] at this; omega
    obtain ⟨wB, hBB, hwBs, hSB, hKB⟩ : ∃ wB, Below w.heap.size w wB ∧ wB.heap.size = w.heap.size + 2 ∧ Six wB w.heap.size false ⟨0, 0, ⟨#[]⟩, 0⟩ (.slice none 0 0) ∧ Kept (fun k => k = w.heap.size + 1) wB w1 := ⟨_, gal (gal (gre _) _) _, by simp, hS0.kept ((Kept.refl (fun _ => False) _).alloc _) (fun e => e), hK1⟩
    have hsz2 : w1.heap.size + 1 ≤ w2.heap.size := by have := hK2.size; simp only [World.size_alloc] at this; omega
    have hCG : Kept (fun k => k = w1.heap.size) w2 ((((w2.setCell ⟨w1.heap.size, 0, none⟩ (.int .i64 rv.kind)).setCell ⟨w1.heap.size, 1, none⟩ (.int .i64 rv.num)).setCell ⟨w1.heap.size, 2, none⟩ (.string rv.text)).setCell ⟨w1.heap.size, 3, none⟩ (.int .i64 rv.node)) := ((((Kept.refl (fun k => k = w1.heap.size) w2).set (fun _ => rfl) _).set (fun _ => rfl) _).set (fun _ => rfl) _).set (fun _ => rfl) _
    have hD0 : SGS wB w.heap.size (w.heap.size + 1) sa cap bs rv w1.heap.size ((((w2.setCell ⟨w1.heap.size, 0, none⟩ (.int .i64 rv.kind)).setCell ⟨w1.heap.size, 1, none⟩ (.int .i64 rv.num)).setCell ⟨w1.heap.size, 2, none⟩ (.string rv.text)).setCell ⟨w1.heap.size, 3, none⟩ (.int .i64 rv.node)) at2 bad2 none 0 [] :=
      ⟨(kk (hKB.alloc _) hK2).trans hCG (fun k hk e => by omega), ⟨by omega, by omega, by omega, by have := hCG.size; omega⟩, ((hSB.kept (hKB.alloc _) (by omega)).kept hK2 (by omega)).kept hCG (by omega),
        ((Five.new_at w1 ⟨0, 0, ⟨#[]⟩, 0⟩ (.slice none 0 0) 33 w1.heap.size rfl).kept hK2 (by omega)).root rv, hR2.kept hCG (fun k hk e => by omega), own_nil _ _⟩
    obtain ⟨F, hF⟩ := hid_ex (sGraph (bs.drop 2))
    have hI0 : Hid (SInv F (gout n rv [] (bs.drop at2)) false bad2) := by
      show SInv F _ false bad2
      rw [hF.out]
      exact ((SInv.start (sGraph (bs.drop 2)) false).comp (G' := (sVal (bs.drop at1)).bind fun x => (sNodes n x.2).map fun y => (⟨x.1, y.1⟩, y.2)) hrel1.out (fun h => by unfold sGraph; rw [h]; rfl) (fun h => by unfold sGraph; rw [h]; rfl)).comp (G' := gout n rv [] (bs.drop at2)) hrel2.out (fun h => by rw [h]; rfl) (fun h => by rw [h]; rfl)
    generalize (((w2.setCell ⟨w1.heap.size, 0, none⟩ (.int .i64 rv.kind)).setCell ⟨w1.heap.size, 1, none⟩ (.int .i64 rv.num)).setCell ⟨w1.heap.size, 2, none⟩ (.string rv.text)).setCell ⟨w1.heap.size, 3, none⟩ (.int .i64 rv.node) = w3 at hD0 ⊢
    generalize w1.heap.size = G at hD0 ⊢
    clear hK1 hK2 hKB hSB hCG hR0 hR1 hR2 hrel1 hrel2 fz f0 f1 f2 f3 f4 ff hs1 hsz2 hS0
    go_loopw [6] (fun i ws => ∃ (j at1 : Nat) (bad1 : Bool) (na : Option Addr) (nc : Nat) (nl : List NL), i = .int .i64 j ∧ j ≤ n ∧ Hid (nl.length = j) ∧ Hid (SInv F (gout (n - j) rv (nl.map (·.n)) (bs.drop at1)) false bad1) ∧ (∀ x, x ∈ nl → x.n.Ok) ∧ SGS wB w.heap.size (w.heap.size + 1) sa cap bs rv G ws at1 bad1 na nc nl) (fun i _ => n - (intOf i).toNat)
    case atStart => exact ⟨0, at2, bad2, none, 0, [], rfl, Nat.zero_le _, rfl, hI0, fun x hx => (by cases hx), hD0⟩
    case round =>
      obtain ⟨j, at1, bad1, na, nc, nl, rfl, hjn, hnl, hinv, hok, hD⟩ := hrel
      obtain ⟨k0, k1, k2, k3⟩ := hD.blk
      obtain ⟨z1, z2, z3, z4, z5, _⟩ := id hD.rd
      obtain ⟨sz, s0, s1, s2, s3, s4, s5, sf⟩ := id hD.res
      have hBr : Below w.heap.size w wr := hBB.trans (hD.kept.below hBB.size (fun k hk e => by omega))
      by_cases hjl : j < n
      · have hd1 : (j : Int) < (n : Int) := by omega
        cases bad1 with
        | true =>
          have hFn : F = none := hinv.out.2.2 rfl rfl
          have hun : sUnB bs = (false, zeroG) := by unfold sUnB; rw [if_neg hlen, ← hF.out, hFn]
          have hokp : ∀ g' q, sGraph (bs.drop 2) = some (g', q) → bs.length ≤ 4096 → g'.Ok := fun g' q h _ => by rw [← hF.out, hFn] at h; cases h
          go_wp2
          have hC : Kept (fun k => k = w.heap.size) wr ((((((wr.setCell ⟨w.heap.size, 0, none⟩ (.bool false)).setCell ⟨w.heap.size, 1, none⟩ (.int .i64 0)).setCell ⟨w.heap.size, 2, none⟩ (.int .i64 0)).setCell ⟨w.heap.size, 3, none⟩ (.string ⟨#[]⟩)).setCell ⟨w.heap.size, 4, none⟩ (.int .i64 0)).setCell ⟨w.heap.size, 5, none⟩ (.slice none 0 0)) := ((((((Kept.refl (fun k => k = w.heap.size) wr).set (fun _ => rfl) _).set (fun _ => rfl) _).set (fun _ => rfl) _).set (fun _ => rfl) _).set (fun _ => rfl) _).set (fun _ => rfl) _
          refine bodyPost_ret (v := unVal false zeroG none 0) (by simp [results, Try.results24, go_sem, s0, s1, s2, s3, s4, s5, zeroG]) rfl ?_
          exact ⟨none, 0, by rw [hun], by rw [hun]; exact fun i hi => absurd hi (Nat.not_lt_zero _), (fun _ _ => by rw [hun]; exact fun i hi => absurd hi (Nat.not_lt_zero _)), hokp, (hBr).trans (hC.below (hBr).size (fun k hk e => by omega))⟩
        | false =>
          have hgs : Hid (gout (n - j) rv (nl.map (·.n)) (bs.drop at1) = (sNode (bs.drop at1)).bind (cont (n - (j + 1)) rv (nl.map (·.n)))) := by show _ = _; rw [show n - j = (n - (j + 1)) + 1 by omega, gout_succ]
          go_wp2_with (first
            | (go_at_call 83; refine (sSmall_any (w.heap.size + 1) sa cap bs at4 bad4 _ (hR4.grow (gal (gre _) _))).mono ?_; rintro e w5 ⟨hK5, m, at5, bad5, rfl, hm, hR5, _, hrel5⟩)
            | (go_at_call 83; refine (sSmall_any (w.heap.size + 1) sa cap bs at1 false _ hD.rd).mono ?_; rintro e w4 ⟨hK4, t, at4, bad4, rfl, ht, hR4, _, hrel4⟩))
          have hs4 := hK4.size
          have hs5 : w4.heap.size + 1 ≤ w5.heap.size := by have := hK5.size; simp only [World.size_alloc] at this; omega
          have hV0 : SVS wr (w.heap.size + 1) sa cap bs (t : Int) w4.heap.size w5 at5 bad5 none 0 [] :=
            ⟨kk (hK4.alloc _) hK5, ⟨by omega, by omega, by omega⟩, (Two.new_at w4 t (.slice none 0 0) 116 w4.heap.size rfl).kept hK5 (by omega), hR5, World.ownsRow_nil _ _ _ _⟩
          have hI5 : Hid (SInv F (gin (n - (j + 1)) m rv (nl.map (·.n)) (t : Int) [] (bs.drop at5)) false bad5) := by
            show SInv F _ false bad5
            refine (hinv.out.comp (G' := ((sSmall (bs.drop at4)).bind fun m => (sVals m.1 m.2).map fun y => ((⟨(t : Int), y.1⟩ : GN), y.2)).bind (cont (n - (j + 1)) rv (nl.map (·.n)))) hrel4.out (fun h => ?_) (fun h => ?_)).comp hrel5.out (fun h => ?_) (fun h => ?_)
            · rw [hgs.out]; unfold sNode; rw [h]; rfl
            · rw [hgs.out]; unfold sNode; rw [h]; rfl
            · rw [h]; rfl
            · rw [h]; rfl
          generalize w4.heap.size = X at hV0 ⊢
          clear hK4 hK5 hR4 hR5 hrel4 hrel5 hs4 hs5
          go_loopw [8] (fun c ws => ∃ (k at6 : Nat) (bad6 : Bool) (va : Option Addr) (vc : Nat) (vs : List GV), c = .int .i64 k ∧ k ≤ m ∧ Hid (vs.length = m - k) ∧ Hid (SInv F (gin (n - (j + 1)) k rv (nl.map (·.n)) (t : Int) vs (bs.drop at6)) false bad6) ∧ (∀ v, v ∈ vs → v.Ok) ∧ SVS wr (w.heap.size + 1) sa cap bs (t : Int) X ws at6 bad6 va vc vs) (fun c _ => (intOf c).toNat)
          case atStart => exact ⟨m, at5, bad5, none, 0, [], rfl, Nat.le_refl _, by show 0 = _; omega, hI5, fun v hv => (by cases hv), hV0⟩
          case round =>
            obtain ⟨k, at6, bad6, va, vc, vs, rfl, hkm, hvl, hinv6, hvok, hV⟩ := hrel
            obtain ⟨q1, q2, q3⟩ := hV.blk
            obtain ⟨y1, y2, y3, y4, y5, _⟩ := id hV.rd
            obtain ⟨tz, t0, t1, tf, _⟩ := id hV.x
            have hO6 := hD.out.kept hV.kept (by omega)
            obtain ⟨oz, o0, o1, o2, o3, o4, of_⟩ := id hO6
            have hn6 : Hid _ := hV.kept.owns hD.own.nodes (fun k hk hp => by have := (hD.own.nodes.lt k hk).1; omega)
            by_cases hk0 : 0 < k
            · have hd2 : (0 : Int) < (k : Int) := by omega
              cases bad6 with
              | true =>
                have hI6 : Hid (SInv F (gout (n - (j + 1)) rv (nl.map (·.n) ++ [⟨(t : Int), vs⟩]) (bs.drop at6)) false true) := hinv6.out.of_bad
                go_wp2_with (at_builtin; refine wpList_append_lies _ rfl (.tmp 60) (.tmp 62) 31 rfl (G + 1) 116 j0 _ 2 32 Try.underlying31 hj hy0 hy1 hy2 rfl (by decide) _ _ _ rfl (World.ownsRow.alloc hn6.out _) ⟨wr.heap.size, 0, none⟩ 1 1 [.int .i64 (t : Int), .slice va vs.length vc] rfl rfl (World.news_of_block (cs := #[.int .i64 (t : Int), .slice va vs.length vc]) (t := 116) (fr := (0, 0)) (blk_new_at _ _ _ rfl)) (by simp [Value.oneCell']) (by decide) (by have h7 := hnl.out; unfold maxLen; omega) (by have h7 := hnl.out; omega) (by simp; omega) (wr.heap.size + 1) (by simp) ?_; intro gg cc w8 hown8 hgrow8 hat8 hlt8; obtain ⟨ez, e0, e1, e2, e3, e4, ef⟩ := (hO6.kept ((Kept.refl (fun _ => False) _).alloc (.cells #[.int .i64 (t : Int), .slice va vs.length vc] 116)) (fun e => e)).kept (Kept.of_grown hgrow8) (fun hp => by have := (hD.own.nodes.lt _ hp).1; omega))
                have hfin := hD.step (n := ⟨(t : Int), vs⟩) hV.rd hV.kept (owns_le hV.vals (Nat.le_succ_of_le q2)) hown8 hgrow8 hat8
                have hI8 : Hid (SInv F (gout (n - (j + 1)) rv ((nl ++ [(⟨⟨(t : Int), vs⟩, va, vc⟩ : NL)]).map (·.n)) (bs.drop at6)) false true) := by show SInv F _ false _; rw [List.map_append]; exact hI6.out
                go_roundw
                case rel =>
                  refine ⟨j + 1, at6, true, some ⟨gg, 0, none⟩, cc, nl ++ [⟨⟨(t : Int), vs⟩, va, vc⟩], by go_num, by omega, by have h7 := hnl.out; show (nl ++ [(⟨⟨(t : Int), vs⟩, va, vc⟩ : NL)]).length = j + 1; simp [h7], hI8, fun x hx => ?_, hfin⟩
                  rcases List.mem_append.1 hx with hx | hx
                  · exact hok x hx
                  · simp at hx
                    subst hx
                    exact ⟨small_i64 (by show 0 ≤ (t : Int) ∧ (t : Int) ≤ 1000000; omega), by show vs.length ≤ maxLen; have h7 := hvl.out; unfold maxLen; omega, hvok⟩
                case measure => simp [intOf]; omega
              | false =>
                go_wp2_with (first
                  | (go_at_call 84; refine (sVal_any (w.heap.size + 1) sa cap bs at6 false _ hV.rd).mono ?_; rintro e w7 ⟨hK7, v, at7, bad7, rfl, hv, hR7, _, hrel7⟩; have hX7 := hV.x.kept hK7 (by omega); obtain ⟨uz, u0, u1, uf, _⟩ := id hX7; have hs7 := hK7.size; have hv7 : Hid _ := hK7.owns hV.vals (fun k hk hp => by have := (hV.vals.lt k hk).1; omega))
                  | (at_builtin; refine wpList_append_lies _ rfl (.tmp 54) (.tmp 56) 114 rfl (X + 1) 30 i0 _ 4 40 Try.underlying114 hi hz0 hz1 hz2 rfl (by decide) _ _ _ rfl (World.ownsRow.alloc (World.ownsRow.alloc hv7.out _) _) ⟨w7.heap.size + 1, 0, none⟩ 1 1 v.four rfl rfl (World.news_of_block (cs := #[.int .i64 v.kind, .int .i64 v.num, .string v.text, .int .i64 v.node]) (t := 30) (fr := (0, 0)) (blk_new_at _ _ _ (by simp))) (by simp [GV.four, Value.oneCell']) (by decide) (by have h7 := hvl.out; unfold maxLen; omega) (by have h7 := hvl.out; omega) (by simp; omega) (w7.heap.size + 2) (by simp) ?_; intro gg cc w8 hown8 hgrow8 hat8 hlt8; obtain ⟨ez, e0, e1, ef, _⟩ := (hX7.kept (((Kept.refl (fun _ => False) w7).alloc (.cells #[.int .i64 v.kind, .int .i64 v.num, .string v.text, .int .i64 v.node] 30)).alloc (.cells #[.int .i64 v.kind, .int .i64 v.num, .string v.text, .int .i64 v.node] 30)) (fun e => e)).kept (Kept.of_grown hgrow8) (fun hp => by have := (hV.vals.lt _ hp).1; omega)))
                have hfin := hV.step (v := v) (hR7.grow (gal (gre _) _)) (hK7.alloc _) hown8 hgrow8
                have hI7 : Hid (SInv F (gin (n - (j + 1)) (k - 1) rv (nl.map (·.n)) (t : Int) (vs ++ [v]) (bs.drop at7)) false bad7) := by
                  show SInv F _ false bad7
                  refine hinv6.out.comp hrel7.out (fun h => ?_) (fun h => ?_)
                  · rw [show k = (k - 1) + 1 by omega, gin_next h, Nat.add_sub_cancel]
                  · rw [show k = (k - 1) + 1 by omega, gin_none h]
                go_roundw
                case rel =>
                  refine ⟨k - 1, at7, bad7, some ⟨gg, 0, none⟩, cc, vs ++ [v], by go_num, by omega, by have h7 := hvl.out; show (vs ++ [v]).length = m - (k - 1); simp [h7]; omega, hI7, fun x hx => ?_, hfin⟩
                  rcases List.mem_append.1 hx with hx | hx
                  · exact hvok x hx
                  · simp at hx
                    subst hx
                    exact hv
                case measure => simp [intOf]; omega
            · have hd2 : ¬ ((0 : Int) < (k : Int)) := by omega
              obtain rfl : k = 0 := by omega
              have hI6 : Hid (SInv F (gout (n - (j + 1)) rv (nl.map (·.n) ++ [⟨(t : Int), vs⟩]) (bs.drop at6)) false bad6) := by have := hinv6.out; rw [gin_done] at this; exact this
              go_wp2_with (at_builtin; refine wpList_append_lies _ rfl (.tmp 60) (.tmp 62) 31 rfl (G + 1) 116 j0 _ 2 32 Try.underlying31 hj hy0 hy1 hy2 rfl (by decide) _ _ _ rfl (World.ownsRow.alloc hn6.out _) ⟨wr.heap.size, 0, none⟩ 1 1 [.int .i64 (t : Int), .slice va vs.length vc] rfl rfl (World.news_of_block (cs := #[.int .i64 (t : Int), .slice va vs.length vc]) (t := 116) (fr := (0, 0)) (blk_new_at _ _ _ rfl)) (by simp [Value.oneCell']) (by decide) (by have h7 := hnl.out; unfold maxLen; omega) (by have h7 := hnl.out; omega) (by simp; omega) (wr.heap.size + 1) (by simp) ?_; intro gg cc w8 hown8 hgrow8 hat8 hlt8; obtain ⟨ez, e0, e1, e2, e3, e4, ef⟩ := (hO6.kept ((Kept.refl (fun _ => False) _).alloc (.cells #[.int .i64 (t : Int), .slice va vs.length vc] 116)) (fun e => e)).kept (Kept.of_grown hgrow8) (fun hp => by have := (hD.own.nodes.lt _ hp).1; omega))
              have hfin := hD.step (n := ⟨(t : Int), vs⟩) hV.rd hV.kept (owns_le hV.vals (Nat.le_succ_of_le q2)) hown8 hgrow8 hat8
              have hI8 : Hid (SInv F (gout (n - (j + 1)) rv ((nl ++ [(⟨⟨(t : Int), vs⟩, va, vc⟩ : NL)]).map (·.n)) (bs.drop at6)) false bad6) := by show SInv F _ false _; rw [List.map_append]; exact hI6.out
              go_roundw
              case rel =>
                refine ⟨j + 1, at6, bad6, some ⟨gg, 0, none⟩, cc, nl ++ [⟨⟨(t : Int), vs⟩, va, vc⟩], by go_num, by omega, by have h7 := hnl.out; show (nl ++ [(⟨⟨(t : Int), vs⟩, va, vc⟩ : NL)]).length = j + 1; simp [h7], hI8, fun x hx => ?_, hfin⟩
                rcases List.mem_append.1 hx with hx | hx
                · exact hok x hx
                · simp at hx
                  subst hx
                  exact ⟨small_i64 (by show 0 ≤ (t : Int) ∧ (t : Int) ≤ 1000000; omega), by show vs.length ≤ maxLen; have h7 := hvl.out; unfold maxLen; omega, hvok⟩
              case measure => simp [intOf]; omega
      · have hd1 : ¬ ((j : Int) < (n : Int)) := by omega
        obtain rfl : j = n := by omega
        cases bad1 with
        | true =>
          have hFn : F = none := hinv.out.2.2 rfl rfl
          have hun : sUnB bs = (false, zeroG) := by unfold sUnB; rw [if_neg hlen, ← hF.out, hFn]
          have hokp : ∀ g' q, sGraph (bs.drop 2) = some (g', q) → bs.length ≤ 4096 → g'.Ok := fun g' q h _ => by rw [← hF.out, hFn] at h; cases h
          go_wp2
          have hC : Kept (fun k => k = w.heap.size) wr ((((((wr.setCell ⟨w.heap.size, 0, none⟩ (.bool false)).setCell ⟨w.heap.size, 1, none⟩ (.int .i64 0)).setCell ⟨w.heap.size, 2, none⟩ (.int .i64 0)).setCell ⟨w.heap.size, 3, none⟩ (.string ⟨#[]⟩)).setCell ⟨w.heap.size, 4, none⟩ (.int .i64 0)).setCell ⟨w.heap.size, 5, none⟩ (.slice none 0 0)) := ((((((Kept.refl (fun k => k = w.heap.size) wr).set (fun _ => rfl) _).set (fun _ => rfl) _).set (fun _ => rfl) _).set (fun _ => rfl) _).set (fun _ => rfl) _).set (fun _ => rfl) _
          refine bodyPost_ret (v := unVal false zeroG none 0) (by simp [results, Try.results24, go_sem, s0, s1, s2, s3, s4, s5, zeroG]) rfl ?_
          exact ⟨none, 0, by rw [hun], by rw [hun]; exact fun i hi => absurd hi (Nat.not_lt_zero _), (fun _ _ => by rw [hun]; exact fun i hi => absurd hi (Nat.not_lt_zero _)), hokp, (hBr).trans (hC.below (hBr).size (fun k hk e => by omega))⟩
        | false =>
          obtain ⟨g, hg⟩ := hid_ex (⟨rv, nl.map (·.n)⟩ : GG)
          have hFs : F = some (g, bs.drop at1) := by
            have h1 := hinv.out.2.1 rfl rfl
            rw [Nat.sub_self] at h1
            rw [h1, hg.out]
            simp [gout, sNodes]
          have hgok : g.Ok := by
            rw [hg.out]
            refine ⟨hrv, ?_, fun x hx => ?_⟩
            · show (nl.map (·.n)).length ≤ maxLen
              rw [List.length_map, hnl.out]; unfold maxLen; omega
            · obtain ⟨y, hy, rfl⟩ := List.mem_map.1 hx
              exact hok y hy
          have hokp : ∀ g' q, sGraph (bs.drop 2) = some (g', q) → bs.length ≤ 4096 → g'.Ok := fun g' q h _ => by
            rw [← hF.out, hFs] at h
            cases h
            exact hgok
          have hNg : NodesAt wr.heap.size wr na g.nodes := by rw [hg.out]; exact hD.own.at_
          have er : rv = g.root := by rw [hg.out]
          have el : nl.length = g.nodes.length := by rw [hg.out]; simp
          have hX0 : GBox wr G g na nc := by
            obtain ⟨xz, x0, x1, x2, x3, x4, xf⟩ := id hD.out
            rw [er] at x0 x1 x2 x3
            rw [el] at x4
            exact ⟨xz, x0, x1, x2, x3, x4⟩
          clear er el hinv
          obtain ⟨xz, x0, x1, x2, x3, x4⟩ := id hX0
          cases hgk : okG g with
          | false =>
            have hgk' : Hid _ := hgk
            have hun : sUnB bs = (false, zeroG) := by unfold sUnB; rw [if_neg hlen, ← hF.out, hFs]; exact if_neg (fun h => by rw [hgk] at h; cases h.1)
            go_wp2_with (go_at_call 68; refine (specGraphOk_any na nc g _ hgok hNg).mono ?_; rintro e w9 ⟨rfl, hb9⟩; rw [hgk'.out]; obtain ⟨pz, p0, p1, p2, p3, p4, p5, pf⟩ := hD.res.kept (Kept.of_below hb9 (fun _ => False)) (fun e => e))
            have hC : Kept (fun k => k = w.heap.size) w9 ((((((w9.setCell ⟨w.heap.size, 0, none⟩ (.bool false)).setCell ⟨w.heap.size, 1, none⟩ (.int .i64 0)).setCell ⟨w.heap.size, 2, none⟩ (.int .i64 0)).setCell ⟨w.heap.size, 3, none⟩ (.string ⟨#[]⟩)).setCell ⟨w.heap.size, 4, none⟩ (.int .i64 0)).setCell ⟨w.heap.size, 5, none⟩ (.slice none 0 0)) := ((((((Kept.refl (fun k => k = w.heap.size) w9).set (fun _ => rfl) _).set (fun _ => rfl) _).set (fun _ => rfl) _).set (fun _ => rfl) _).set (fun _ => rfl) _).set (fun _ => rfl) _
            refine bodyPost_ret (v := unVal false zeroG none 0) (by simp [results, Try.results24, go_sem, p0, p1, p2, p3, p4, p5, zeroG]) rfl ?_
            exact ⟨none, 0, by rw [hun], by rw [hun]; exact fun i hi => absurd hi (Nat.not_lt_zero _), (fun _ _ => by rw [hun]; exact fun i hi => absurd hi (Nat.not_lt_zero _)), hokp, (gca hBr hb9).trans (hC.below (gca hBr hb9).size (fun k hk e => by omega))⟩
          | true =>
            have hgk' : Hid _ := hgk
            obtain ⟨im, him⟩ := hid_ex (imageB g)
            have himl : im.length ≤ maxLen := by
              rw [him.out]
              have h1 := graphB_len (canon_ok hgok hgk) (canon_okG hgk)
              unfold imageB formB maxLen
              rw [List.length_append, lowB_length]
              omega
            have hlm' : bs.length ≤ maxLen := by unfold maxLen; omega
            have hlr : ∀ {w9 w10 : World}, Below wr.heap.size wr w9 → Below w9.heap.size w9 w10 → BytesAt w10 sa bs := fun h1 h2 => ha.grow (gca (gca hBr h1) h2)
            by_cases heq : im = bs
            · have hun : sUnB bs = (true, g) := by unfold sUnB; rw [if_neg hlen, ← hF.out, hFs]; exact if_pos ⟨hgk, by rw [← him.out]; exact heq⟩
              have heq' : Hid (decide (im = bs) = true) := decide_eq_true heq
              clear heq
              go_wp2_with (first
                | (go_at_call 68; refine (specGraphOk_any na nc g _ hgok hNg).mono ?_; rintro e w9 ⟨rfl, hb9⟩; rw [hgk'.out]; obtain ⟨yz, y0, y1, y2, y3, y4⟩ := hX0.grow hb9)
                | (go_at_call 69; refine (l2pack_any na nc g _ hgok hgk'.out (hNg.grow hb9)).mono ?_; rintro e w10 ⟨oa10, cap10, rfl, hO10, hb10⟩; rw [← him.out] at hO10 ⊢)
                | (go_at_call 85; refine (l2equal_any oa10 sa im bs cap10 cap _ himl hlm' (owns_bytesO hO10) (hlr hb9 hb10)).mono ?_; rintro e w11 ⟨rfl, hb11⟩; rw [heq'.out]; obtain ⟨vz, v0, v1, v2, v3, v4⟩ := hX0.grow (gca (gca hb9 hb10) hb11); obtain ⟨pz, p0, p1, p2, p3, p4, p5, pf⟩ := hD.res.kept (Kept.of_below (gca (gca hb9 hb10) hb11) (fun _ => False)) (fun e => e)))
              have hC : Kept (fun k => k = w.heap.size) w11 ((((((w11.setCell ⟨w.heap.size, 0, none⟩ (.bool true)).setCell ⟨w.heap.size, 1, none⟩ (.int .i64 g.root.kind)).setCell ⟨w.heap.size, 2, none⟩ (.int .i64 g.root.num)).setCell ⟨w.heap.size, 3, none⟩ (.string g.root.text)).setCell ⟨w.heap.size, 4, none⟩ (.int .i64 g.root.node)).setCell ⟨w.heap.size, 5, none⟩ (.slice na g.nodes.length nc)) := ((((((Kept.refl (fun k => k = w.heap.size) w11).set (fun _ => rfl) _).set (fun _ => rfl) _).set (fun _ => rfl) _).set (fun _ => rfl) _).set (fun _ => rfl) _).set (fun _ => rfl) _
              refine bodyPost_ret (v := unVal true g na nc) (by simp [results, Try.results24, go_sem, p0, p1, p2, p3, p4, p5]) rfl ?_
              have hB11 := gca (gca (gca hBr hb9) hb10) hb11
              have hN11 := ((hNg.grow hb9).grow hb10).grow hb11
              have hOw := (hD.own.kept (Kept.of_below (gca (gca hb9 hb10) hb11) (fun _ => False)) (fun _ _ e => e) (fun _ _ _ _ e => e)).kept hC (fun k hk hp => by have := hD.own.nodes.lt k (by rw [hk]; rfl); omega) (fun x hx k hk hp => by have := (hD.own.vals x hx).lt k (by rw [hk]; rfl); omega)
              have hO11 := hOw.at_
              have egn : nl.map (·.n) = g.nodes := by rw [hg.out]
              rw [egn] at hO11
              exact ⟨na, nc, by rw [hun], by rw [hun]; exact hO11, (fun w2 hK2 => by rw [hun]; have h := (hOw.kept hK2 (fun k hk hp => by have := hD.own.nodes.lt k (by rw [hk]; rfl); omega) (fun x hx k hk hp => by have := (hD.own.vals x hx).lt k (by rw [hk]; rfl); omega)).at_; rw [egn] at h; exact h), hokp, hB11.trans (hC.below hB11.size (fun k hk e => by omega))⟩
            · have hun : sUnB bs = (false, zeroG) := by unfold sUnB; rw [if_neg hlen, ← hF.out, hFs]; exact if_neg (fun h => heq (by rw [him.out]; exact h.2))
              have heq' : Hid (decide (im = bs) = false) := decide_eq_false heq
              clear heq
              go_wp2_with (first
                | (go_at_call 68; refine (specGraphOk_any na nc g _ hgok hNg).mono ?_; rintro e w9 ⟨rfl, hb9⟩; rw [hgk'.out]; obtain ⟨yz, y0, y1, y2, y3, y4⟩ := hX0.grow hb9)
                | (go_at_call 69; refine (l2pack_any na nc g _ hgok hgk'.out (hNg.grow hb9)).mono ?_; rintro e w10 ⟨oa10, cap10, rfl, hO10, hb10⟩; rw [← him.out] at hO10 ⊢)
                | (go_at_call 85; refine (l2equal_any oa10 sa im bs cap10 cap _ himl hlm' (owns_bytesO hO10) (hlr hb9 hb10)).mono ?_; rintro e w11 ⟨rfl, hb11⟩; rw [heq'.out]; obtain ⟨vz, v0, v1, v2, v3, v4⟩ := hX0.grow (gca (gca hb9 hb10) hb11); obtain ⟨pz, p0, p1, p2, p3, p4, p5, pf⟩ := hD.res.kept (Kept.of_below (gca (gca hb9 hb10) hb11) (fun _ => False)) (fun e => e)))
              have hC : Kept (fun k => k = w.heap.size) w11 ((((((w11.setCell ⟨w.heap.size, 0, none⟩ (.bool false)).setCell ⟨w.heap.size, 1, none⟩ (.int .i64 0)).setCell ⟨w.heap.size, 2, none⟩ (.int .i64 0)).setCell ⟨w.heap.size, 3, none⟩ (.string ⟨#[]⟩)).setCell ⟨w.heap.size, 4, none⟩ (.int .i64 0)).setCell ⟨w.heap.size, 5, none⟩ (.slice none 0 0)) := ((((((Kept.refl (fun k => k = w.heap.size) w11).set (fun _ => rfl) _).set (fun _ => rfl) _).set (fun _ => rfl) _).set (fun _ => rfl) _).set (fun _ => rfl) _).set (fun _ => rfl) _
              refine bodyPost_ret (v := unVal false zeroG none 0) (by simp [results, Try.results24, go_sem, p0, p1, p2, p3, p4, p5, zeroG]) rfl ?_
              exact ⟨none, 0, by rw [hun], by rw [hun]; exact fun i hi => absurd hi (Nat.not_lt_zero _), (fun _ _ => by rw [hun]; exact fun i hi => absurd hi (Nat.not_lt_zero _)), hokp, (gca (gca (gca hBr hb9) hb10) hb11).trans (hC.below (gca (gca (gca hBr hb9) hb10) hb11).size (fun k hk e => by omega))⟩

theorem specUnpack_any (sa : Option Addr) (cap : Nat) (bs : List Nat) (w : World) (ha : BytesAt w sa bs) (hc : bs.length ≤ cap) (hlm : bs.length ≤ maxLen) (hbyte : ∀ x, x ∈ bs → x < 256) :
    Calls Try.prog 24 #[.slice sa bs.length cap] w (USPost bs w) :=
  (specUnpack_K sa cap bs w ha hc hlm hbyte).mono fun _ _ ⟨na, nc, he, hN, _, hg, hb⟩ => ⟨na, nc, he, hN, hg, hb⟩

end Go.Proofs.Ythjddpkegooobab

/-
  MARKTEXT: the laws' text of a number. Own work.
-/
namespace Go.Proofs.Ythjddpkegooobab
open Go.RowKit

/-- the digits that are still to come, ahead of those that are there -/
def mtLoop : Nat → Nat → ByteArray → ByteArray
  | 0, _, s => s
  | f + 1, j, s => if j = 0 then s else mtLoop f (j / 10) (strOfNums [48 + (j : Int) % 10] ++ s)
/-- the text of a number -/
def mt (k : Nat) : ByteArray := ⟨#[109]⟩ ++ mtLoop (k + 1) k ⟨#[]⟩

set_option maxRecDepth 100000 in
theorem mtLoop_zero (f : Nat) (s : ByteArray) : mtLoop f 0 s = s := by cases f <;> simp [mtLoop]
theorem mtLoop_step {f j : Nat} (s : ByteArray) (hj : j ≠ 0) (hf : j < f) : mtLoop f j s = mtLoop (f - 1) (j / 10) (strOfNums [48 + (j : Int) % 10] ++ s) := by
  cases f with
  | zero => omega
  | succ f => simp [mtLoop, hj]
set_option maxRecDepth 100000 in
theorem digit_size (x : Int) : (strOfNums [x]).size = 1 := rfl

set_option maxRecDepth 100000 in
theorem markText_any (k : Nat) (w : World) (h0 : 0 < k) (hk : k ≤ 1099511627776) :
    Calls Try.prog 172 #[.int .i64 k] w fun e w' => e = .returned (.string (mt k)) ∧ Below w.heap.size w w' := by
  have hd : ¬ ((k : Int) ≤ 0) := by omega
  go_enter Try.func172, Try.ntmps172
  go_wp2
  go_loopw [0, 3] (fun i o ws => ∃ (j f : Nat) (s : ByteArray), i = .int .i64 j ∧ o = .string s ∧ j < f ∧ Hid (mtLoop f j s = mtLoop (k + 1) k ⟨#[]⟩) ∧ s.size + j ≤ k ∧ Below w.heap.size w ws) (fun i _ _ => (intOf i).toNat)
  case atStart => exact ⟨k, k + 1, ⟨#[]⟩, rfl, rfl, by omega, rfl, by show 0 + k ≤ k; omega, gre _⟩
  case round =>
    obtain ⟨j, f, s, rfl, rfl, hf, hm, hsz, hb⟩ := hrel
    by_cases hj : j = 0
    · subst hj
      have hd2 : ¬ ((0 : Int) < ((0 : Nat) : Int)) := by omega
      have hc : ¬ (9223372036854775807 < 1 + s.size) := by omega
      have hm2 : Hid (mt k = ⟨#[109]⟩ ++ s) := by have h1 := hm.out; rw [mtLoop_zero] at h1; show mt k = _; unfold mt; rw [← h1]
      go_wp2
      go_ret
      exact ⟨by rw [hm2.out]; rfl, hb⟩
    · have hd2 : (0 : Int) < (j : Int) := by omega
      obtain ⟨d, hdd⟩ : ∃ d, Hid (d = strOfNums [48 + (j : Int) % 10]) := ⟨_, rfl⟩
      have hds : d.size = 1 := by rw [hdd.out]; rfl
      have hconv : (convert 28 9 (.slice (some ⟨wr.heap.size, 0, none⟩) 1 1)).run Try.prog (wr.alloc (.cells #[.int .u8 (48 + (j : Int) % 10)] 5)) = .ok (.string d) (wr.alloc (.cells #[.int .u8 (48 + (j : Int) % 10)] 5)) := by
        rw [hdd.out]
        exact run_convert_bytes_arg _ 28 5 Try.underlying28 Try.underlying5 wr.heap.size 0 1 1 [48 + (j : Int) % 10] rfl (fun i hi => by have e : i = 0 := (by omega); subst e; simp) 9 Try.underlying9
      have hc : ¬ (9223372036854775807 < d.size + s.size) := by omega
      have hnext : Hid (mtLoop (f - 1) (j / 10) (d ++ s) = mtLoop (k + 1) k ⟨#[]⟩) := by rw [hdd.out, ← mtLoop_step s hj hf]; exact hm.out
      have hsz2 : (d ++ s).size + j / 10 ≤ k := by rw [ByteArray.size_append]; omega
      go_wp2
      go_roundw
      case rel => exact ⟨j / 10, f - 1, d ++ s, by go_num, rfl, by omega, hnext, hsz2, gal hb _⟩
      case measure => simp [intOf]; omega

end Go.Proofs.Ythjddpkegooobab

/-
  MARKVALS: the laws' marks in a row of values. Own work.
-/
namespace Go.Proofs.Ythjddpkegooobab
open Go.RowKit

/-- a block of cells that may be written -/
structure WRow (w : World) (b n : Nat) : Prop where
  lt : b < w.heap.size
  c : ∀ i, i < n → ∃ v, w.cell? ⟨b, i, none⟩ = some v
  f : ∀ o, w.frozen? ⟨b, o, none⟩ = false
set_option maxRecDepth 100000 in
theorem WRow.kept {p : Nat → Prop} {w w' : World} {b n : Nat} (h : WRow w b n) (k : Kept p w w') (hn : ¬ p b) : WRow w' b n :=
  ⟨Nat.lt_of_lt_of_le h.lt k.size, fun i hi => let ⟨v, hv⟩ := h.c i hi; ⟨v, k.cell hv hn⟩, fun o => (World.frozen?_of_block (w := w) (k.block b h.lt hn)).trans (h.f o)⟩
theorem WRow.set {w : World} {b n : Nat} (h : WRow w b n) (p : Addr) (u : Value) : WRow (w.setCell p u) b n :=
  ⟨by have := h.lt; simpa [World.setCell] using this, fun i hi => by
    obtain ⟨v, hv⟩ := h.c i hi
    by_cases e : p = ⟨b, i, none⟩
    · subst e; exact ⟨u, World.cell?_setCell_same _ _ _ hv⟩
    · exact ⟨v, (World.cell?_setCell_other _ _ _ _ (fun e2 => e e2)).trans hv⟩, fun o => by rw [World.frozen?_setCell]; exact h.f o⟩

/-- a marked value, and a row of them -/
def markV (k : Nat) : GV := ⟨(k : Int), (k : Int) + 1, mt (k + 2), (k : Int) + 1 + 1 + 1⟩
def markVs (k n : Nat) : List GV := (List.range n).map fun j => markV (k + 4 * j)

set_option maxRecDepth 100000 in
theorem ValAt.set_far {w : World} {b off : Nat} {v : GV} (h : ValAt w b off v) {o : Nat} (ho : o < off ∨ off + 4 ≤ o) (u : Value) : ValAt (w.setCell ⟨b, o, none⟩ u) b off v := by
  refine ⟨?_, ?_, ?_, ?_⟩
  · exact (World.cell?_setCell_other _ _ _ _ (by simp <;> omega)).trans h.kind
  · exact (World.cell?_setCell_other _ _ _ _ (by simp <;> omega)).trans h.num
  · exact (World.cell?_setCell_other _ _ _ _ (by simp <;> omega)).trans h.text
  · exact (World.cell?_setCell_other _ _ _ _ (by simp <;> omega)).trans h.node

set_option maxRecDepth 100000 in
/-- the world behind one value's marks -/
theorem mark_one {w w1 : World} {b o q : Nat} {n : Nat} (hr : WRow w b n) (ho : o + 4 ≤ n) (hb : Below ((w.setCell ⟨b, o, none⟩ (.int .i64 (q : Int))).setCell ⟨b, o + 1, none⟩ (.int .i64 ((q : Int) + 1))).heap.size ((w.setCell ⟨b, o, none⟩ (.int .i64 (q : Int))).setCell ⟨b, o + 1, none⟩ (.int .i64 ((q : Int) + 1))) w1) :
    ValAt ((w1.setCell ⟨b, o + 2, none⟩ (.string (mt (q + 2)))).setCell ⟨b, o + 3, none⟩ (.int .i64 ((q : Int) + 1 + 1 + 1))) b o (markV q) := by
  have hr2 := (hr.set ⟨b, o, none⟩ (.int .i64 (q : Int))).set ⟨b, o + 1, none⟩ (.int .i64 ((q : Int) + 1))
  have hr3 := hr2.kept (Kept.of_below hb (fun _ => False)) (fun e => e)
  obtain ⟨v0, c0⟩ := hr.c o (by omega)
  obtain ⟨v1, c1⟩ := (hr.set ⟨b, o, none⟩ (.int .i64 (q : Int))).c (o + 1) (by omega)
  obtain ⟨v2, c2⟩ := hr3.c (o + 2) (by omega)
  obtain ⟨v3, c3⟩ := (hr3.set ⟨b, o + 2, none⟩ (.string (mt (q + 2)))).c (o + 3) (by omega)
  refine ⟨?_, ?_, ?_, ?_⟩
  · refine (World.cell?_setCell_other _ _ _ _ (by simp)).trans ((World.cell?_setCell_other _ _ _ _ (by simp)).trans ?_)
    exact cell_later hb ((World.cell?_setCell_other _ _ _ _ (by simp)).trans (World.cell?_setCell_same _ _ _ c0))
  · refine (World.cell?_setCell_other _ _ _ _ (by simp)).trans ((World.cell?_setCell_other _ _ _ _ (by simp)).trans ?_)
    exact cell_later hb (World.cell?_setCell_same _ _ _ c1)
  · exact (World.cell?_setCell_other _ _ _ _ (by simp)).trans (World.cell?_setCell_same _ _ _ c2)
  · exact World.cell?_setCell_same _ _ _ c3

/-- what stands at the head of the round -/
structure MState (b n k : Nat) (w ws : World) (j : Nat) : Prop where
  kept : Kept (fun x => x = b) w ws
  row : WRow ws b (n * 4)
  done : ∀ i, i < j → ValAt ws b (i * 4) (markV (k + 4 * i))
set_option maxRecDepth 100000 in
theorem MState.step {b n k : Nat} {w ws w1 : World} {j q : Nat} (h : MState b n k w ws j) (hj : j < n) (hq : q = k + 4 * j) (hb : Below ((ws.setCell ⟨b, j * 4, none⟩ (.int .i64 (q : Int))).setCell ⟨b, j * 4 + 1, none⟩ (.int .i64 ((q : Int) + 1))).heap.size ((ws.setCell ⟨b, j * 4, none⟩ (.int .i64 (q : Int))).setCell ⟨b, j * 4 + 1, none⟩ (.int .i64 ((q : Int) + 1))) w1) :
    MState b n k w ((w1.setCell ⟨b, j * 4 + 2, none⟩ (.string (mt (q + 2)))).setCell ⟨b, j * 4 + 3, none⟩ (.int .i64 ((q : Int) + 1 + 1 + 1))) (j + 1) where
  kept := ((((h.kept.set (fun _ => rfl) _).set (fun _ => rfl) _).trans (Kept.of_below hb (fun _ => False)) (fun _ _ e => e.elim)).set (fun _ => rfl) _).set (fun _ => rfl) _
  row := ((((h.row.set _ _).set _ _).kept (Kept.of_below hb (fun _ => False)) (fun e => e)).set _ _).set _ _
  done := fun i hi => by
    by_cases e : i = j
    · subst e; subst hq; exact mark_one h.row (by omega) hb
    · have hlt := h.row.lt
      have h1 := ((h.done i (by omega)).set_far (o := j * 4) (by omega) (.int .i64 (q : Int))).set_far (o := j * 4 + 1) (by omega) (.int .i64 ((q : Int) + 1))
      have h2 := h1.below hb (by simpa [World.setCell] using hlt)
      exact (h2.set_far (by omega) _).set_far (by omega) _

set_option maxRecDepth 100000 in
theorem markValS_any (b n cap k : Nat) (w : World) (hk0 : 0 < k) (hk : k + 4 * n ≤ 1099511627776) (hr : WRow w b (n * 4)) :
    Calls Try.prog 141 #[.slice (some ⟨b, 0, none⟩) n cap, .int .i64 k] w fun e w' => e = .returned (.int .i64 ((k + 4 * n : Nat) : Int)) ∧ MState b n k w w' n := by
  go_enter Try.func141, Try.ntmps141
  go_wp2
  go_loopw [1, 5] (fun kk i ws => ∃ (j q : Nat), j ≤ n ∧ q = k + 4 * j ∧ kk = .int .i64 (q : Int) ∧ i = .int .i64 (j : Int) ∧ MState b n k w ws j) (fun _ i _ => n - (intOf i).toNat)
  case atStart => exact ⟨0, k, Nat.zero_le _, by omega, rfl, rfl, Kept.refl _ _, hr, fun i hi => absurd hi (Nat.not_lt_zero _)⟩
  case round =>
    obtain ⟨j, q, hj, hq, rfl, rfl, hD⟩ := hrel
    by_cases hlt : j < n
    · have i0 : (0 : Int) ≤ (j : Int) := by omega
      have i1 : (j : Int) < (n : Int) := by omega
      obtain ⟨v0, c0⟩ := hD.row.c (j * 4) (by omega)
      obtain ⟨v1, c1⟩ := (hD.row.set ⟨b, j * 4, none⟩ (.int .i64 (q : Int))).c (j * 4 + 1) (by omega)
      have hf := hD.row.f
      have hqq : q + 4 ≤ 1099511627776 := by omega
      have hq' : Hid _ := hq
      clear hq
      have hs2 := (hD.row.set ⟨b, j * 4, none⟩ (.int .i64 (q : Int))).set ⟨b, j * 4 + 1, none⟩ (.int .i64 ((q : Int) + 1))
      go_wp2_with (go_at_call 172; rw [show ((q : Int) + 1 + 1) = ((q + 2 : Nat) : Int) by omega]; refine (markText_any (q + 2) _ (by omega) (by omega)).mono ?_; rintro e w1 ⟨rfl, hb1⟩; rw [← show ((q : Int) + 1 + 1) = ((q + 2 : Nat) : Int) by omega]; have hs3 := hs2.kept (Kept.of_below hb1 (fun _ => False)) (fun e => e); obtain ⟨v2, c2⟩ := hs3.c (j * 4 + 2) (by omega); obtain ⟨v3, c3⟩ := (hs3.set ⟨b, j * 4 + 2, none⟩ (.string (mt (q + 2)))).c (j * 4 + 3) (by omega); have hf3 := hs3.f)
      have hfin := hD.step hlt hq'.out hb1
      go_roundw
      case rel => exact ⟨j + 1, q + 4, by omega, by have := hq'.out; omega, by go_num, by go_num, hfin⟩
      case measure => simp [intOf]; omega
    · have e : j = n := by omega
      subst e
      go_wp2
      go_ret
      exact ⟨by rw [← hq]; rfl, hD⟩

set_option maxRecDepth 100000 in
/-- the row as a list of values -/
theorem MState.at_ {b n k : Nat} {w ws : World} (h : MState b n k w ws n) {B : Nat} (hB : b < B) : ValsAt B ws (some ⟨b, 0, none⟩) (markVs k n) := fun i hi => by
  have hi' : i < n := by simpa [markVs] using hi
  refine ⟨b, 0, rfl, hB, ?_⟩
  have e : (markVs k n)[i]! = markV (k + 4 * i) := by rw [getElem!_pos _ i hi]; simp [markVs]
  rw [e, Nat.zero_add]
  exact h.done i hi'
set_option maxRecDepth 100000 in
theorem markVs_length (k n : Nat) : (markVs k n).length = n := by simp [markVs]

end Go.Proofs.Ythjddpkegooobab

/-
  TO: the laws' copies. Own work.
-/
namespace Go.Proofs.Ythjddpkegooobab
open Go.RowKit

theorem toVal_any (v : GV) (w : World) :
    Calls Try.prog 70 #[v.val] w fun e w' => e = .returned v.val ∧ Below w.heap.size w w' := by
  go_enter Try.func70, Try.ntmps70
  go_wp2
  exact bodyPost_ret (v := v.val) (by simp [results, Try.results70, go_sem]) rfl ⟨rfl, (((Below.refl _ _).alloc (Nat.le_refl _) _).alloc (by simp) _).alloc (by simp; omega) _⟩

theorem toValS_any (a : Option Addr) (cap : Nat) (vs : List GV) (w : World) (hl : vs.length ≤ 1048576) (ha : ValsAt w.heap.size w a vs) :
    Calls Try.prog 166 #[.slice a vs.length cap] w fun e w' => ∃ b, e = .returned (.slice (some ⟨b, 0, none⟩) vs.length vs.length) ∧ w.heap.size ≤ b ∧ OwnVals w' b vs ∧ Below w.heap.size w w' := by
  obtain ⟨i0, hi, hz0, hz1, hz2⟩ := info_parts info_implVal
  have hmk : ∀ u : World, (Instr.makeSlice 114 (.int .i64 (vs.length : Int)) (.int .i64 (vs.length : Int))).run Try.prog u =
      .ok (.slice (some ⟨u.heap.size, 0, none⟩) vs.length vs.length) (u.alloc (.cells (madeCells #[.int .i64 0, .int .i64 0, .string .empty, .int .i64 0] (vs.length * 4)) 30)) := fun u => by
    have h := run_make (P := Try.prog) u 114 30 i0 _ Try.underlying114 hi hz0 .i64 .i64 (vs.length : Int) (vs.length : Int) (by omega) (Int.le_refl _) (by rw [hz2]; omega) (by omega)
    simpa [hz1, Value.cells] using h
  go_enter Try.func166, Try.ntmps166
  go_wp2
  go_loopw [4] (fun i wr => ∃ (k : Nat) (f : Nat → Value), k ≤ vs.length ∧ i = .int .i64 k ∧ wr.rowIs w.heap.size 30 (vs.length * 4) f ∧ ValsIn f vs k ∧ Below w.heap.size w wr) (fun i _ => vs.length - (intOf i).toNat)
  case atStart => exact ⟨0, _, Nat.zero_le _, rfl, rowIs_made_any _ _ _ _, fun i hi => absurd hi (Nat.not_lt_zero _), (Below.refl _ _).alloc (Nat.le_refl _) _⟩
  case round =>
    obtain ⟨k, f, hk, rfl, hrow, hin, hb⟩ := hrel
    by_cases hlt : k < vs.length
    · obtain ⟨v, b, off, hvk, hvm, rfl, hbs, hva⟩ := ha.get hlt
      have hva := hva.below hb hbs
      have c0 := hva.kind
      have c1 := hva.num
      have c2 := hva.text
      have c3 := hva.node
      go_wp2_with (go_at_call 70; refine (toVal_any v _).mono ?_; rintro e w' ⟨rfl, hb'⟩; have hrow' := hrow.of_block (hb'.block _ hrow.lt); have d0 := hrow'.cell (i := k * 4) (by omega); have d1 := hrow'.cell (i := k * 4 + 1) (by omega); have d2 := hrow'.cell (i := k * 4 + 2) (by omega); have d3 := hrow'.cell (i := k * 4 + 3) (by omega); have f0 := hrow'.frozen)
      go_roundw
      case rel => exact ⟨k + 1, _, by omega, by go_num, (((hrow'.set _ _).set _ _).set _ _).set _ _, hin.step hvk, ((((hb.trans (hb'.mono hb.size)).setCell (Nat.le_refl _) _).setCell (Nat.le_refl _) _).setCell (Nat.le_refl _) _).setCell (Nat.le_refl _) _⟩
      case measure => simp [intOf]; omega
    · go_wp2
      go_ret
      have e : k = vs.length := by omega
      subst e
      exact ⟨_, rfl, Nat.le_refl _, ⟨_, hrow, hin⟩, hb⟩

set_option maxRecDepth 100000 in
theorem toNode_any (a : Option Addr) (cap : Nat) (n : GN) (w : World) (hl : n.vals.length ≤ 1048576) (ha : ValsAt w.heap.size w a n.vals) :
    Calls Try.prog 132 #[nodeVal n a cap] w fun e w' => ∃ b, e = .returned (nodeVal n (some ⟨b, 0, none⟩) n.vals.length) ∧ w.heap.size ≤ b ∧ OwnVals w' b n.vals ∧ Below w.heap.size w w' := by
  go_enter Try.func132, Try.ntmps132
  go_wp2_with (go_at_call 166; refine (toValS_any a cap n.vals _ hl (ha.grow (gal (gal (gal (gre _) _) _) _))).mono ?_; rintro e w' ⟨b, rfl, hbb, hown, hb'⟩; obtain ⟨hc, hf⟩ := bcell hb')
  refine bodyPost_ret (v := nodeVal n (some ⟨b, 0, none⟩) n.vals.length) (by simp [results, Try.results132, go_sem, hc]) rfl ⟨b, rfl, ?_, ?_, ?_⟩
  · simp at hbb; omega
  · simp at hbb
    exact ((hown.set (by simp; omega) _).set (by simp; omega) _).set (by simp; omega) _
  · exact gse (gse (gse (gca (gal (gal (gal (gre _) _) _) _) hb') (by simp; omega) _) (by simp) _) (by simp) _

theorem toNodeS_any (a : Option Addr) (cap : Nat) (ns : List GN) (w : World) (hl : ns.length ≤ 1048576) (hv : ∀ n, n ∈ ns → n.vals.length ≤ 1048576) (ha : NodesAt w.heap.size w a ns) :
    Calls Try.prog 71 #[.slice a ns.length cap] w fun e w' => ∃ b bs, e = .returned (.slice (some ⟨b, 0, none⟩) ns.length ns.length) ∧ w.heap.size ≤ b ∧ OwnNodes w' b bs ns ∧ Below w.heap.size w w' := by
  obtain ⟨i0, hi, hz0, hz1, hz2⟩ := info_parts info_implNode
  have hmk : ∀ u : World, (Instr.makeSlice 31 (.int .i64 (ns.length : Int)) (.int .i64 (ns.length : Int))).run Try.prog u =
      .ok (.slice (some ⟨u.heap.size, 0, none⟩) ns.length ns.length) (u.alloc (.cells (madeCells #[.int .i64 0, .slice none 0 0] (ns.length * 2)) 116)) := fun u => by
    have h := run_make (P := Try.prog) u 31 116 i0 _ Try.underlying31 hi hz0 .i64 .i64 (ns.length : Int) (ns.length : Int) (by omega) (Int.le_refl _) (by rw [hz2]; omega) (by omega)
    simpa [hz1, Value.cells] using h
  go_enter Try.func71, Try.ntmps71
  go_wp2
  go_loopw [4] (fun i wr => ∃ (k : Nat) (f : Nat → Value) (bs : Nat → Nat), k ≤ ns.length ∧ i = .int .i64 k ∧ wr.rowIs w.heap.size 116 (ns.length * 2) f ∧ NodesIn wr w.heap.size f bs ns k ∧ Below w.heap.size w wr) (fun i _ => ns.length - (intOf i).toNat)
  case atStart => exact ⟨0, _, fun _ => 0, Nat.zero_le _, rfl, rowIs_made_any _ _ _ _, fun i hi => absurd hi (Nat.not_lt_zero _), (Below.refl _ _).alloc (Nat.le_refl _) _⟩
  case round =>
    obtain ⟨k, f, bs, hk, rfl, hrow, hin, hb⟩ := hrel
    by_cases hlt : k < ns.length
    · obtain ⟨n, b, off, a', cap', hvk, hvm, rfl, hbs, hva⟩ := ha.get hlt
      have hva := hva.below hb hbs
      have c0 := hva.tag
      have c1 := hva.sl
      have hvals := hva.vals.mono hb.size
      go_wp2_with (go_at_call 132; refine (toNode_any a' cap' n _ (hv n hvm) hvals).mono ?_; rintro e w' ⟨b', rfl, hbb, hown, hb'⟩; have hrow' := hrow.of_block (hb'.block _ hrow.lt); have d0 := hrow'.cell (i := k * 2) (by omega); have d1 := hrow'.cell (i := k * 2 + 1) (by omega); have f0 := hrow'.frozen)
      go_roundw
      case rel => exact ⟨k + 1, _, _, by omega, by go_num, (hrow'.set _ _).set _ _, hin.step hvk hb' hrow.lt hbb hown _ _ _ _, ((hb.trans (hb'.mono hb.size)).setCell (Nat.le_refl _) _).setCell (Nat.le_refl _) _⟩
      case measure => simp [intOf]; omega
    · go_wp2
      go_ret
      have e : k = ns.length := by omega
      subst e
      exact ⟨_, bs, rfl, Nat.le_refl _, ⟨_, hrow, hin⟩, hb⟩

set_option maxRecDepth 100000 in
theorem toGraph_any (a : Option Addr) (cap : Nat) (g : GG) (w : World) (hl : g.nodes.length ≤ 1048576) (hv : ∀ n, n ∈ g.nodes → n.vals.length ≤ 1048576) (ha : NodesAt w.heap.size w a g.nodes) :
    Calls Try.prog 17 #[g.val a cap] w fun e w' => ∃ b bs, e = .returned (g.val (some ⟨b, 0, none⟩) g.nodes.length) ∧ w.heap.size ≤ b ∧ OwnNodes w' b bs g.nodes ∧ Below w.heap.size w w' := by
  go_enter Try.func17, Try.ntmps17
  go_wp2_with (go_at_call 70; refine (toVal_any g.root _).mono ?_; rintro e w' ⟨rfl, hb'⟩; obtain ⟨hc, hf⟩ := bcell hb')
  have hz : w.heap.size + 1 + 1 < w'.heap.size := by have := hb'.size; simp at this; omega
  have hz1 : w.heap.size + 1 < w'.heap.size := by omega
  have hz0 : w.heap.size < w'.heap.size := by omega
  have hB : Below w.heap.size w w' := gca (gal (gal (gal (gre _) _) _) _) hb'
  refine (toNodeS_any a cap g.nodes _ hl hv (ha.grow (gse (gse (gse (gse hB (by simp; omega) _) (by simp; omega) _) (by simp; omega) _) (by simp; omega) _))).mono ?_
  rintro e w'' ⟨b, bs, rfl, hbb, hown, hb''⟩
  obtain ⟨hc2, hf2⟩ := bcell hb''
  have hB2 : Below w.heap.size w w'' := gca (gse (gse (gse (gse hB (by simp; omega) _) (by simp; omega) _) (by simp; omega) _) (by simp; omega) _) hb''
  have hbb' : w'.heap.size ≤ b := by simpa [World.setCell] using hbb
  clear hbb
  go_wp2
  refine bodyPost_ret (v := g.val (some ⟨b, 0, none⟩) g.nodes.length) (by simp [results, Try.results17, go_sem, hc, hc2, hz1]) rfl ⟨b, bs, rfl, by omega, ?_, ?_⟩
  · exact (((((hown.set (by simp; omega) _).set (by simp; omega) _).set (by simp; omega) _).set (by simp; omega) _).set (by simp; omega) _).set (by simp; omega) _
  · exact gse (gse (gse (gse (gse (gse hB2 (by simp; omega) _) (by simp) _) (by simp) _) (by simp) _) (by simp) _) (by simp) _

end Go.Proofs.Ythjddpkegooobab

/-
  MEND: the mark behind nodes, plain. Own work.
-/
namespace Go.Proofs.Ythjddpkegooobab
open Go.RowKit

/-- the mark behind all of these nodes -/
def mEnd (k : Nat) : List GN → Nat
  | [] => k
  | n :: r => mEnd (k + 1 + 4 * n.vals.length) r
theorem mEnd_small (l : List GN) (h : ∀ n, n ∈ l → n.vals.length ≤ 100) : ∀ k, mEnd k l ≤ k + 401 * l.length := by
  induction l with
  | nil => intro k; simp [mEnd]
  | cons x r ih =>
    intro k
    have h1 := ih (fun n hn => h n (List.mem_cons_of_mem _ hn)) (k + 1 + 4 * x.vals.length)
    have h2 := h x (List.mem_cons_self ..)
    simp only [mEnd, List.length_cons]
    omega
/-- the blocks that a graph's marks touch -/
def Touch (na : Option Addr) (n : Nat) (va : Nat → Option Addr) (b : Nat) : Prop := na = some ⟨b, 0, none⟩ ∨ ∃ i, i < n ∧ va i = some ⟨b, 0, none⟩

end Go.Proofs.Ythjddpkegooobab
