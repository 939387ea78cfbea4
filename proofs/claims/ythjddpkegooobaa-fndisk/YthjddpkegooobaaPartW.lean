import Derived.Deep.Cut
import Derived.Test.YthjddpkegooobaaPartV

/-
  L6W: graphs, drawn. Own work.
-/
namespace Go.Proofs.Ythjddpkegooobaa
open Go.RowKit

theorem Five.rootS {w : World} {b : Nat} {u : GV} {s : Value} (h : Five w b u s) (v : GV) : Five ((((w.setCell ⟨b, 0, none⟩ (.int .i64 v.kind)).setCell ⟨b, 1, none⟩ (.int .i64 v.num)).setCell ⟨b, 2, none⟩ (.string v.text)).setCell ⟨b, 3, none⟩ (.int .i64 v.node)) b v s := by
  obtain ⟨hl, c0, c1, c2, c3, c4, hf⟩ := h
  refine ⟨by simpa [World.setCell] using hl, ?_, ?_, ?_, ?_, ?_, fun o => ?_⟩
  · rw [World.cell?_setCell_other _ _ _ _ (by simp), World.cell?_setCell_other _ _ _ _ (by simp), World.cell?_setCell_other _ _ _ _ (by simp)]
    exact World.cell?_setCell_same _ _ _ c0
  · rw [World.cell?_setCell_other _ _ _ _ (by simp), World.cell?_setCell_other _ _ _ _ (by simp)]
    exact World.cell?_setCell_same (u := .int .i64 u.num) _ _ _ (by rw [World.cell?_setCell_other _ _ _ _ (by simp)]; exact c1)
  · rw [World.cell?_setCell_other _ _ _ _ (by simp)]
    exact World.cell?_setCell_same (u := .string u.text) _ _ _ (by rw [World.cell?_setCell_other _ _ _ _ (by simp), World.cell?_setCell_other _ _ _ _ (by simp)]; exact c2)
  · exact World.cell?_setCell_same (u := .int .i64 u.node) _ _ _ (by rw [World.cell?_setCell_other _ _ _ _ (by simp), World.cell?_setCell_other _ _ _ _ (by simp), World.cell?_setCell_other _ _ _ _ (by simp)]; exact c3)
  · rw [World.cell?_setCell_other _ _ _ _ (by simp), World.cell?_setCell_other _ _ _ _ (by simp), World.cell?_setCell_other _ _ _ _ (by simp), World.cell?_setCell_other _ _ _ _ (by simp)]; exact c4
  · rw [World.frozen?_setCell, World.frozen?_setCell, World.frozen?_setCell, World.frozen?_setCell]; exact hf o

theorem okN_of {n : Nat} {x : GN} (h0 : 0 ≤ x.tag) (h1 : x.tag ≤ 1000) (h2 : x.vals.length ≤ 100) (h3 : ∀ v, v ∈ x.vals → okV n v = true) : okN n x = true := by
  unfold okN
  rw [decide_eq_true ⟨h0, h1, h2⟩, List.all_eq_true.2 h3]
  rfl

/-- what stands at the head of the round -/
def GInv (w : World) (b : Nat) (sa : Option Addr) (bs : List Nat) (cap G at_ n j : Nat) (ws : World) : Prop :=
  ∃ (at3 : Nat) (na : Option Addr) (nc : Nat) (nl : List NL), Hid (nl.length = j) ∧ at3 ≤ at_ + 4 + 52 * j ∧ Hid (∀ x, x ∈ nl → x.n.Ok ∧ okN n x.n = true) ∧ DGS w w.heap.size b sa bs cap ⟨0, 0, ⟨#[]⟩, 0⟩ G ws at3 na nc nl

/-- a drawn graph -/
def GraphD (w : World) (b : Nat) (sa : Option Addr) (bs : List Nat) (cap at_ : Nat) (e : Ending) (w' : World) : Prop :=
  ∃ (g : GG) (na : Option Addr) (nc : Nat) (nl : List NL) (at' : Nat), e = .returned (g.val na nc) ∧ nl.map (·.n) = g.nodes ∧ g.Ok ∧ okG g = true ∧ OwnG w' w.heap.size na nc nl ∧ at' ≤ at_ + 16000 ∧ DK w w' b sa bs cap at'

set_option maxHeartbeats 40000000 in
set_option maxRecDepth 100000 in
theorem l6graph_any (b : Nat) (sa : Option Addr) (bs : List Nat) (cap at_ : Nat) (w : World) (hc : DC w b sa bs cap at_) (hat : at_ + 16000 < 4611686018427387904) :
    Calls Try.prog 54 #[.pointer (some ⟨b, 0, none⟩)] w (GraphD w b sa bs cap at_) := by
  have hs0 := hc.lt
  obtain ⟨j0, hj, hy0, hy1, hy2'⟩ := info_parts info_implNode
  obtain ⟨i0, hi, hz0, hz1, hz2⟩ := info_parts info_implVal
  obtain ⟨wA, hwA⟩ : ∃ wA, Hid (wA = w.alloc (.cells #[.int .i64 0, .int .i64 0, .string ⟨#[]⟩, .int .i64 0, .slice none 0 0] 27)) := ⟨_, rfl⟩
  have hFA : Five wA w.heap.size ⟨0, 0, ⟨#[]⟩, 0⟩ (.slice none 0 0) := by rw [hwA.out]; exact Five.new_at w ⟨0, 0, ⟨#[]⟩, 0⟩ (.slice none 0 0) 27 w.heap.size rfl
  have hKA : Kept (fun _ => False) w wA := by rw [hwA.out]; exact (Kept.refl _ w).alloc _
  have hcA : DC wA b sa bs cap at_ := hc.kept hKA (fun e => e) (fun _ _ _ e => e)
  have hKw : DK w wA b sa bs cap at_ := ⟨hcA, hKA.mono (fun _ _ e => e.elim)⟩
  go_enter Try.func54, Try.ntmps54
  go_wp2_with (go_at_call_of 52 ((12 : Int)); rw [← hwA.out]; refine (l6pick_of b sa bs cap at_ 12 12 wA rfl hcA (by omega) (by omega) (by omega)).mono ?_; rintro e w1 ⟨x, at1, hx, ha1, rfl, hk⟩)
  refine (l6pick_of b sa bs cap at1 20 20 w1 rfl hk.dc (by omega) (by omega) (by omega)).mono ?_
  rintro e w2 ⟨y, at2, hy, ha2, rfl, hk2⟩
  have hk12 := hk.trans hk2
  have hR0 := hFA.kept hk12.kept (by omega)
  have hs12 := hk12.kept.size
  have hsA : wA.heap.size = w.heap.size + 1 := by rw [hwA.out]; simp
  have hD0 : DGS w w.heap.size b sa bs cap ⟨0, 0, ⟨#[]⟩, 0⟩ w2.heap.size (w2.alloc (.cells #[.int .i64 0, .int .i64 0, .string ⟨#[]⟩, .int .i64 0, .slice none 0 0] 27)) at2 none 0 [] :=
    ⟨(hKw.trans hk12).kept.alloc _, ⟨hs0, Nat.le_refl _, by omega, by simp⟩, hc.sl, hR0.kept ((Kept.refl (fun _ => False) _).alloc _) (fun e => e), Five.new_at w2 ⟨0, 0, ⟨#[]⟩, 0⟩ (.slice none 0 0) 27 w2.heap.size rfl, hk12.dc.kept ((Kept.refl (fun _ => False) _).alloc _) (fun e => e) (fun _ _ _ e => e), ⟨World.ownsRow_nil _ _ _ _, fun x hx => (by cases hx), fun x hx => (by cases hx), fun i j _ hj => absurd hj (Nat.not_lt_zero _)⟩⟩
  obtain ⟨a1, ha1'⟩ : ∃ a1, Hid (a1 = at_) := ⟨_, rfl⟩
  have hat2 : at2 ≤ at_ + 4 := by omega
  clear hR0
  obtain rfl | rfl | hy2 : y = 0 ∨ y = 1 ∨ 2 ≤ y := by omega
  all_goals go_wp2
  all_goals generalize w2.alloc (.cells #[.int .i64 0, .int .i64 0, .string ⟨#[]⟩, .int .i64 0, .slice none 0 0] 27) = w3 at hD0 ⊢
  all_goals generalize w2.heap.size = G at hD0 ⊢
  all_goals first
    | (obtain ⟨n, hn300, e⟩ : ∃ n : Nat, n ≤ 300 ∧ (300 : Int) = (n : Int) := ⟨300, by omega, rfl⟩; rw [e]; clear e hx)
    | (obtain ⟨n, hn300, e⟩ : ∃ n : Nat, n ≤ 300 ∧ (130 : Int) = (n : Int) := ⟨130, by omega, rfl⟩; rw [e]; clear e hx)
    | (obtain ⟨n, hn300, e⟩ : ∃ n : Nat, n ≤ 300 ∧ n = x := ⟨x, by omega, rfl⟩; subst e; clear hx)
  all_goals
    go_loopw [5] (fun i ws => ∃ j : Nat, i = .int .i64 (j : Int) ∧ j ≤ n ∧ GInv w b sa bs cap G at_ n j ws) (fun i _ => n - (intOf i).toNat)
    case atStart => exact ⟨0, rfl, Nat.zero_le _, ⟨at2, none, 0, [], rfl, by omega, fun x hx => (by cases hx), hD0⟩⟩
    case round =>
      obtain ⟨j, rfl, hjn, at3, na, nc, nl, hnl, hat3, hok, hD⟩ := hrel
      obtain ⟨q0, q1, q2, q3⟩ := hD.blk
      have hsD := hD.kept.size
      by_cases hjl : j < n
      · have hd1 : (j : Int) < (n : Int) := by omega
        go_wp2_with (first
          | (go_at_call_of 52 ((1001 : Int)); refine (l6pick_of b sa bs cap at3 1001 1001 _ rfl hD.rd (by omega) (by omega) (by omega)).mono ?_; rintro e w4 ⟨t, at4, ht, ha4, rfl, hk4⟩)
          | (go_at_call_of 52 ((5 : Int)); refine (l6pick_of b sa bs cap at4 5 5 _ rfl (hk4.dc.kept ((Kept.refl (fun _ => False) _).alloc _) (fun e => e) (fun _ _ _ e => e)) (by omega) (by omega) (by omega)).mono ?_; rintro e w5 ⟨m, at5, hm, ha5, rfl, hk5⟩))
        have hs4 := hk4.kept.size
        have hs5 : w4.heap.size + 1 ≤ w5.heap.size := by have := hk5.kept.size; simp only [World.size_alloc] at this; omega
        have hV0 : DVS wr b sa bs cap (t : Int) w4.heap.size w5 at5 none 0 [] :=
          ⟨kk (hk4.kept.alloc _) hk5.kept, ⟨by omega, by omega, by omega⟩, fun g off e => Nat.lt_of_lt_of_le (hD.low g off e) hsD, (Two.new_at w4 t (.slice none 0 0) 84 w4.heap.size rfl).kept hk5.kept (by omega), hk5.dc, World.ownsRow_nil _ _ _ _⟩
        have hx4 : wr.heap.size ≤ w4.heap.size := hs4
        generalize w4.heap.size = X at hV0 hx4 ⊢
        clear hs4 hs5 hk4 hk5
        go_loopw [7] (fun c ws => ∃ (k at6 : Nat) (va : Option Addr) (vc : Nat) (vs : List GV), c = .int .i64 (k : Int) ∧ vs.length + k ≤ 4 ∧ at6 + 12 * k ≤ at_ + 4 + 52 * j + 52 ∧ Hid (∀ v, v ∈ vs → v.Ok ∧ okV n v = true) ∧ DVS wr b sa bs cap (t : Int) X ws at6 va vc vs) (fun c _ => (intOf c).toNat)
        case atStart => exact ⟨m, at5, none, 0, [], rfl, by show 0 + m ≤ 4; omega, by omega, fun v hv => (by cases hv), hV0⟩
        case round =>
          obtain ⟨k, at6, va, vc, vs, rfl, hvl, hat6, hvok, hV⟩ := hrel
          obtain ⟨p1, p2, p3⟩ := hV.blk
          obtain ⟨tz, t0, t1, tf, _⟩ := id hV.x
          have hO6 := hD.out.kept hV.kept (by omega)
          obtain ⟨oz, o0, o1, o2, o3, o4, of_⟩ := id hO6
          have hn6 : Hid _ := hV.kept.owns hD.own.nodes (fun k hk hp => by have := (hD.own.nodes.lt k hk).1; omega)
          by_cases hk0 : 0 < k
          · have hd2 : (0 : Int) < (k : Int) := by omega
            go_wp2_with (first
              | (go_at_call 110; refine (l6val_any b sa bs cap at6 n _ hV.rd (by omega) (by omega)).mono ?_; rintro e w7 ⟨v, at7, hv, hvo, ha7, rfl, hk7⟩; have hX7 := hV.x.kept hk7.kept (by omega); obtain ⟨uz, u0, u1, uf, _⟩ := id hX7; have hs7 := hk7.kept.size; have hv7 : Hid _ := hk7.kept.owns hV.vals (fun k hk hp => by have := (hV.vals.lt k hk).1; omega))
              | (at_builtin; refine wpList_append_lies _ rfl (.tmp 35) (.tmp 37) 82 rfl (X + 1) 24 i0 _ 4 40 Try.underlying82 hi hz0 hz1 hz2 rfl (by decide) _ _ _ rfl (World.ownsRow.alloc (World.ownsRow.alloc hv7.out _) _) ⟨w7.heap.size + 1, 0, none⟩ 1 1 v.four rfl rfl (World.news_of_block (cs := #[.int .i64 v.kind, .int .i64 v.num, .string v.text, .int .i64 v.node]) (t := 24) (fr := (0, 0)) (blk_new_at _ _ _ (by simp))) (by simp [GV.four, Value.oneCell']) (by decide) (by unfold maxLen; omega) (by omega) (by simp; omega) (w7.heap.size + 2) (by simp) ?_; intro gg cc w8 hown8 hgrow8 hat8 hlt8; obtain ⟨ez, e0, e1, ef, _⟩ := (hX7.kept (((Kept.refl (fun _ => False) w7).alloc (.cells #[.int .i64 v.kind, .int .i64 v.num, .string v.text, .int .i64 v.node] 24)).alloc (.cells #[.int .i64 v.kind, .int .i64 v.num, .string v.text, .int .i64 v.node] 24)) (fun e => e)).kept (Kept.of_grown hgrow8) (fun hp => by have := (hV.vals.lt _ hp).1; omega)))
            have hfin := hV.step (v := v) (hk7.dc.kept ((Kept.refl (fun _ => False) _).alloc _) (fun e => e) (fun _ _ _ e => e)) (hk7.kept.alloc _) hown8 hgrow8
            go_roundw
            case rel =>
              refine ⟨k - 1, at7, some ⟨gg, 0, none⟩, cc, vs ++ [v], congrArg (Value.int .i64) (by omega), by simp; omega, by omega, fun x hx => ?_, hfin⟩
              rcases List.mem_append.1 hx with hx | hx
              · exact hvok.out x hx
              · simp at hx
                subst hx
                exact ⟨hv, hvo⟩
            case measure => simp [intOf]; omega
          · have hd2 : ¬ ((0 : Int) < (k : Int)) := by omega
            obtain rfl : k = 0 := by omega
            by_cases hbig : 50 < n
            · have hd3 : (50 : Int) < (n : Int) := by omega
              by_cases hlast : j + 1 < n
              · have hd4 : (j : Int) < (n : Int) - 1 := by omega
                go_wp2_with (first
                  | (at_builtin; refine wpList_append_lies _ rfl (.tmp 49) (.tmp 53) 82 rfl (X + 1) 24 i0 _ 4 40 Try.underlying82 hi hz0 hz1 hz2 rfl (by decide) _ _ _ rfl (World.ownsRow.alloc hV.vals _) ⟨wr.heap.size, 0, none⟩ 1 1 (GV.mk 4 0 ⟨#[]⟩ ((j : Int) + 1)).four rfl rfl (World.news_of_block (cs := #[.int .i64 4, .int .i64 0, .string ⟨#[]⟩, .int .i64 ((j : Int) + 1)]) (t := 24) (fr := (0, 0)) (blk_new_at _ _ _ rfl)) (by simp [GV.four, Value.oneCell']) (by decide) (by unfold maxLen; omega) (by omega) (by simp; omega) (wr.heap.size + 1) (by simp) ?_; intro gg8 cc8 w8 hown8 hgrow8 hat8 hlt8; obtain ⟨ez8, e08, e18, ef8, _⟩ := (hV.x.kept ((Kept.refl (fun _ => False) wr).alloc (.cells #[.int .i64 4, .int .i64 0, .string ⟨#[]⟩, .int .i64 ((j : Int) + 1)] 24)) (fun e => e)).kept (Kept.of_grown hgrow8) (fun hp => by have := (hV.vals.lt _ hp).1; omega); have hO8 := (hO6.kept ((Kept.refl (fun _ => False) wr).alloc (.cells #[.int .i64 4, .int .i64 0, .string ⟨#[]⟩, .int .i64 ((j : Int) + 1)] 24)) (fun e => e)).kept (Kept.of_grown hgrow8) (fun hp => by have := (hV.vals.lt _ hp).1; omega); obtain ⟨oz8, o08, o18, o28, o38, o48, of8⟩ := id hO8; have hV8 := hV.step (v := GV.mk 4 0 ⟨#[]⟩ ((j : Int) + 1)) hV.rd (Kept.refl _ _) hown8 hgrow8)
                  | (at_builtin; refine wpList_append_lies _ rfl (.tmp 57) (.tmp 59) 25 rfl (G + 1) 84 j0 _ 2 32 Try.underlying25 hj hy0 hy1 hy2' rfl (by decide) _ _ _ rfl (World.ownsRow.alloc (hV8.kept.owns hD.own.nodes (fun k hk hp => by have := (hD.own.nodes.lt k hk).1; omega)) _) ⟨w8.heap.size, 0, none⟩ 1 1 [.int .i64 (t : Int), .slice (some ⟨gg8, 0, none⟩) (vs.length + 1) cc8] rfl rfl (World.news_of_block (cs := #[.int .i64 (t : Int), .slice (some ⟨gg8, 0, none⟩) (vs.length + 1) cc8]) (t := 84) (fr := (0, 0)) (blk_new_at _ _ _ (by simp))) (by simp [Value.oneCell']) (by decide) (by have h7 := hnl.out; unfold maxLen; omega) (by have h7 := hnl.out; omega) (by simp; omega) (w8.heap.size + 1) (by simp) ?_; intro gg9 cc9 w9 hown9 hgrow9 hat9 hlt9; obtain ⟨ez, e0, e1, e2, e3, e4, ef⟩ := ((hD.out.kept hV8.kept (by omega)).kept ((Kept.refl (fun _ => False) _).alloc (.cells #[.int .i64 (t : Int), .slice (some ⟨gg8, 0, none⟩) (vs.length + 1) cc8] 84)) (fun e => e)).kept (Kept.of_grown hgrow9) (fun hp => by have := (hD.own.nodes.lt _ hp).1; omega)))
                have hvok9 : Hid (∀ u, u ∈ vs ++ [GV.mk 4 0 ⟨#[]⟩ ((j : Int) + 1)] → u.Ok ∧ okV n u = true) := fun u hu => by
                  rcases List.mem_append.1 hu with hu | hu
                  · exact hvok.out u hu
                  · simp at hu
                    subst hu
                    exact ⟨⟨by unfold I64; dsimp only; omega, by unfold I64; dsimp only; omega, by unfold maxLen; dsimp only; decide, by unfold I64; dsimp only; omega⟩, by simp [okV]; omega⟩
                rw [show vs.length + 1 = (vs ++ [GV.mk 4 0 ⟨#[]⟩ ((j : Int) + 1)]).length by simp] at hown9
                have hfin := hD.step (n := ⟨(t : Int), vs ++ [GV.mk 4 0 ⟨#[]⟩ ((j : Int) + 1)]⟩) hV8.rd hV8.kept (owns_le hV8.vals (Nat.le_succ_of_le p2)) hown9 hgrow9 (hat9.imp (fun e => e) (fun e => e.trans (by simp)))
                go_roundw
                case rel =>
                  refine ⟨j + 1, by first | omega | go_num, by omega, ?_⟩
                  unfold GInv
                  refine ⟨at6, some ⟨gg9, 0, none⟩, cc9, nl ++ [⟨⟨(t : Int), vs ++ [GV.mk 4 0 ⟨#[]⟩ ((j : Int) + 1)]⟩, (some ⟨gg8, 0, none⟩), cc8⟩], by have h7 := hnl.out; show (nl ++ [(⟨⟨(t : Int), vs ++ [GV.mk 4 0 ⟨#[]⟩ ((j : Int) + 1)]⟩, (some ⟨gg8, 0, none⟩), cc8⟩ : NL)]).length = j + 1; simp [h7], by omega, fun x hx => ?_, hfin⟩
                  rcases List.mem_append.1 hx with hx | hx
                  · exact hok.out x hx
                  · simp at hx
                    subst hx
                    refine ⟨⟨by show I64 (t : Int); unfold I64; omega, by show (vs ++ [GV.mk 4 0 ⟨#[]⟩ ((j : Int) + 1)]).length ≤ maxLen; unfold maxLen; (first | omega | (simp; omega)), fun v hv => (hvok9.out v hv).1⟩, okN_of (by show 0 ≤ (t : Int); omega) (by show (t : Int) ≤ 1000; omega) (by show (vs ++ [GV.mk 4 0 ⟨#[]⟩ ((j : Int) + 1)]).length ≤ 100; (first | omega | (simp; omega))) (fun v hv => (hvok9.out v hv).2)⟩
                case measure => simp [intOf]; omega
              · have hd4 : ¬ ((j : Int) < (n : Int) - 1) := by omega
                go_wp2_with (at_builtin; refine wpList_append_lies _ rfl (.tmp 57) (.tmp 59) 25 rfl (G + 1) 84 j0 _ 2 32 Try.underlying25 hj hy0 hy1 hy2' rfl (by decide) _ _ _ rfl (World.ownsRow.alloc hn6.out _) ⟨wr.heap.size, 0, none⟩ 1 1 [.int .i64 (t : Int), .slice va vs.length vc] rfl rfl (World.news_of_block (cs := #[.int .i64 (t : Int), .slice va vs.length vc]) (t := 84) (fr := (0, 0)) (blk_new_at _ _ _ rfl)) (by simp [Value.oneCell']) (by decide) (by have h7 := hnl.out; unfold maxLen; omega) (by have h7 := hnl.out; omega) (by simp; omega) (wr.heap.size + 1) (by simp) ?_; intro gg9 cc9 w9 hown9 hgrow9 hat9 hlt9; obtain ⟨ez, e0, e1, e2, e3, e4, ef⟩ := ((hD.out.kept hV.kept (by omega)).kept ((Kept.refl (fun _ => False) _).alloc (.cells #[.int .i64 (t : Int), .slice va vs.length vc] 84)) (fun e => e)).kept (Kept.of_grown hgrow9) (fun hp => by have := (hD.own.nodes.lt _ hp).1; omega))
                have hfin := hD.step (n := ⟨(t : Int), vs⟩) hV.rd hV.kept (owns_le hV.vals (Nat.le_succ_of_le p2)) hown9 hgrow9 hat9
                go_roundw
                case rel =>
                  refine ⟨j + 1, by first | omega | go_num, by omega, ?_⟩
                  unfold GInv
                  refine ⟨at6, some ⟨gg9, 0, none⟩, cc9, nl ++ [⟨⟨(t : Int), vs⟩, va, vc⟩], by have h7 := hnl.out; show (nl ++ [(⟨⟨(t : Int), vs⟩, va, vc⟩ : NL)]).length = j + 1; simp [h7], by omega, fun x hx => ?_, hfin⟩
                  rcases List.mem_append.1 hx with hx | hx
                  · exact hok.out x hx
                  · simp at hx
                    subst hx
                    refine ⟨⟨by show I64 (t : Int); unfold I64; omega, by show (vs).length ≤ maxLen; unfold maxLen; (first | omega | (simp; omega)), fun v hv => (hvok.out v hv).1⟩, okN_of (by show 0 ≤ (t : Int); omega) (by show (t : Int) ≤ 1000; omega) (by show (vs).length ≤ 100; (first | omega | (simp; omega))) (fun v hv => (hvok.out v hv).2)⟩
                case measure => simp [intOf]; omega
            · have hd3 : ¬ ((50 : Int) < (n : Int)) := by omega
              go_wp2_with (at_builtin; refine wpList_append_lies _ rfl (.tmp 57) (.tmp 59) 25 rfl (G + 1) 84 j0 _ 2 32 Try.underlying25 hj hy0 hy1 hy2' rfl (by decide) _ _ _ rfl (World.ownsRow.alloc hn6.out _) ⟨wr.heap.size, 0, none⟩ 1 1 [.int .i64 (t : Int), .slice va vs.length vc] rfl rfl (World.news_of_block (cs := #[.int .i64 (t : Int), .slice va vs.length vc]) (t := 84) (fr := (0, 0)) (blk_new_at _ _ _ rfl)) (by simp [Value.oneCell']) (by decide) (by have h7 := hnl.out; unfold maxLen; omega) (by have h7 := hnl.out; omega) (by simp; omega) (wr.heap.size + 1) (by simp) ?_; intro gg9 cc9 w9 hown9 hgrow9 hat9 hlt9; obtain ⟨ez, e0, e1, e2, e3, e4, ef⟩ := ((hD.out.kept hV.kept (by omega)).kept ((Kept.refl (fun _ => False) _).alloc (.cells #[.int .i64 (t : Int), .slice va vs.length vc] 84)) (fun e => e)).kept (Kept.of_grown hgrow9) (fun hp => by have := (hD.own.nodes.lt _ hp).1; omega))
              have hfin := hD.step (n := ⟨(t : Int), vs⟩) hV.rd hV.kept (owns_le hV.vals (Nat.le_succ_of_le p2)) hown9 hgrow9 hat9
              go_roundw
              case rel =>
                refine ⟨j + 1, by first | omega | go_num, by omega, ?_⟩
                unfold GInv
                refine ⟨at6, some ⟨gg9, 0, none⟩, cc9, nl ++ [⟨⟨(t : Int), vs⟩, va, vc⟩], by have h7 := hnl.out; show (nl ++ [(⟨⟨(t : Int), vs⟩, va, vc⟩ : NL)]).length = j + 1; simp [h7], by omega, fun x hx => ?_, hfin⟩
                rcases List.mem_append.1 hx with hx | hx
                · exact hok.out x hx
                · simp at hx
                  subst hx
                  refine ⟨⟨by show I64 (t : Int); unfold I64; omega, by show (vs).length ≤ maxLen; unfold maxLen; (first | omega | (simp; omega)), fun v hv => (hvok.out v hv).1⟩, okN_of (by show 0 ≤ (t : Int); omega) (by show (t : Int) ≤ 1000; omega) (by show (vs).length ≤ 100; (first | omega | (simp; omega))) (fun v hv => (hvok.out v hv).2)⟩
              case measure => simp [intOf]; omega
      · have hd1 : ¬ ((j : Int) < (n : Int)) := by omega
        obtain rfl : j = n := by omega
        have hRG : w.heap.size ≠ G := by omega
        go_upto_if 67 with (go_at_call 110; refine (l6val_any b sa bs cap at3 j _ hD.rd (by omega) (by omega)).mono ?_; rintro e w7 ⟨rv, at7, hrv, hrvo, ha7, rfl, hk7⟩; have hO7 := hD.out.kept hk7.kept (by omega); obtain ⟨oz, o0, o1, o2, o3, o4, of_⟩ := id hO7; have hR7 := hD.res.kept hk7.kept (by omega))
        have hq := hO7.rootS rv
        have hKq : Kept (fun k => k = G) w7 ((((w7.setCell ⟨G, 0, none⟩ (.int .i64 rv.kind)).setCell ⟨G, 1, none⟩ (.int .i64 rv.num)).setCell ⟨G, 2, none⟩ (.string rv.text)).setCell ⟨G, 3, none⟩ (.int .i64 rv.node)) := ((((Kept.refl (fun k => k = G) w7).set (fun _ => rfl) _).set (fun _ => rfl) _).set (fun _ => rfl) _).set (fun _ => rfl) _
        generalize (((w7.setCell ⟨G, 0, none⟩ (.int .i64 rv.kind)).setCell ⟨G, 1, none⟩ (.int .i64 rv.num)).setCell ⟨G, 2, none⟩ (.string rv.text)).setCell ⟨G, 3, none⟩ (.int .i64 rv.node) = wq at hq hKq ⊢
        clear oz o0 o1 o2 o3 o4 of_
        obtain ⟨gz, g0, g1, g2, g3, g4, gf⟩ := id hq
        go_cut [] from 68 (fun wc => ∃ u : GV, Five wc G u (.slice na nl.length nc) ∧ u.Ok ∧ okV j u = true ∧ Kept (fun k => k = G) w7 wc)
        case rest =>
          obtain ⟨u, hF, hu, huo, hKc⟩ := hcut
          clear gz g0 g1 g2 g3 g4 gf
          have hRc := hR7.kept hKc (fun e => hRG e)
          obtain ⟨fz, f0, f1, f2, f3, f4, ff⟩ := id hF
          obtain ⟨rz, r0, r1, r2, r3, r4, rf_⟩ := id hRc
          go_wp2
          have hRf := (hRc.rootS u).set (s' := .slice na nl.length nc)
          have hKR : Kept (fun k => k = w.heap.size) wc (((((wc.setCell ⟨w.heap.size, 0, none⟩ (.int .i64 u.kind)).setCell ⟨w.heap.size, 1, none⟩ (.int .i64 u.num)).setCell ⟨w.heap.size, 2, none⟩ (.string u.text)).setCell ⟨w.heap.size, 3, none⟩ (.int .i64 u.node)).setCell ⟨w.heap.size, 4, none⟩ (.slice na nl.length nc)) := (((((Kept.refl (fun k => k = w.heap.size) wc).set (fun _ => rfl) _).set (fun _ => rfl) _).set (fun _ => rfl) _).set (fun _ => rfl) _).set (fun _ => rfl) _
          generalize ((((wc.setCell ⟨w.heap.size, 0, none⟩ (.int .i64 u.kind)).setCell ⟨w.heap.size, 1, none⟩ (.int .i64 u.num)).setCell ⟨w.heap.size, 2, none⟩ (.string u.text)).setCell ⟨w.heap.size, 3, none⟩ (.int .i64 u.node)).setCell ⟨w.heap.size, 4, none⟩ (.slice na nl.length nc) = w9 at hRf hKR ⊢
          clear r0 r1 r2 r3 r4 f0 f1 f2 f3 f4
          obtain ⟨_, s0, s1, s2, s3, s4, _⟩ := hRf
          have hlj : (nl.map (·.n)).length = j := by rw [List.length_map]; exact hnl.out
          have hnb : ∀ k, na = some ⟨k, 0, none⟩ → G + 1 ≤ k := fun k e => (hD.own.nodes.lt k (by rw [e]; rfl)).1
          have hvb : ∀ x, x ∈ nl → ∀ k, x.a = some ⟨k, 0, none⟩ → G + 1 ≤ k := fun x hx k e => ((hD.own.vals x hx).lt k (by rw [e]; rfl)).1
          have hon : ∀ x, x ∈ nl.map (·.n) → x.Ok ∧ okN j x = true := fun x hx => by
            obtain ⟨y, hy, rfl⟩ := List.mem_map.1 hx
            exact hok.out y hy
          refine bodyPost_ret (v := (GG.mk u (nl.map (·.n))).val na nc) (by simp [results, Try.results54, go_sem, s0, s1, s2, s3, s4, GG.val]) rfl ⟨⟨u, nl.map (·.n)⟩, na, nc, nl, at7, rfl, rfl, ⟨hu, by show (nl.map (·.n)).length ≤ maxLen; rw [hlj]; unfold maxLen; omega, fun x hx => (hon x hx).1⟩, ?_, ?_, by omega, ?_, ?_⟩
          · show (decide ((nl.map (·.n)).length ≤ 300) && okV (nl.map (·.n)).length u && (nl.map (·.n)).all (okN (nl.map (·.n)).length)) = true
            rw [hlj, huo, decide_eq_true hn300, List.all_eq_true.2 (fun x hx => (hon x hx).2)]
            rfl
          · refine (((hD.own.kept hk7.kept (fun k e hp => ?_) (fun x hx k e hp => ?_)).kept hKc (fun k e hp => ?_) (fun x hx k e hp => ?_)).kept hKR (fun k e hp => ?_) (fun x hx k e hp => ?_)).le (by omega)
            · have := hnb k e; omega
            · have := hvb x hx k e; omega
            · have := hnb k e; omega
            · have := hvb x hx k e; omega
            · have := hnb k e; omega
            · have := hvb x hx k e; omega
          · exact (hk7.dc.kept hKc (by omega) (fun g off e hp => by have := hD.low g off e; omega)).kept hKR (by omega) (fun g off e hp => by have := hD.low g off e; omega)
          · exact ((hD.kept.trans hk7.kept (fun _ _ e => e)).trans hKc (fun k hk e => by omega)).trans hKR (fun k hk e => by omega)
        case first =>
          by_cases hbig : 50 < j
          · have hd3 : (50 : Int) < (j : Int) := by omega
            go_wp2
            go_meet
            case rel => exact ⟨⟨4, 0, ⟨#[]⟩, 0⟩, hq.rootS ⟨4, 0, ⟨#[]⟩, 0⟩, ⟨by unfold I64; dsimp only; omega, by unfold I64; dsimp only; omega, by unfold maxLen; dsimp only; decide, by unfold I64; dsimp only; omega⟩, by simp [okV]; omega, (((hKq.set (fun _ => rfl) _).set (fun _ => rfl) _).set (fun _ => rfl) _).set (fun _ => rfl) _⟩
          · have hd3 : ¬ ((50 : Int) < (j : Int)) := by omega
            go_wp2
            go_meet
            case rel => exact ⟨rv, hq, hrv, hrvo, hKq⟩

end Go.Proofs.Ythjddpkegooobaa
