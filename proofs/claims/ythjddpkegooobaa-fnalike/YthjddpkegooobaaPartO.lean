import Derived.Deep.QuietTactic
import Derived.BigQuiet
import Derived.Deep.RegionHeld3
import Derived.Test.YthjddpkegooobaaPartN

/-
  L6Y: a graph for a law that may be spoilt; a graph turned for a law. Own work.
-/
namespace Go.Proofs.Ythjddpkegooobaa
open Go.RowKit

/-- a graph that may be spoilt -/
def GraphF (w : World) (b : Nat) (sa : Option Addr) (bs : List Nat) (cap at_ : Nat) (e : Ending) (w' : World) : Prop :=
  ∃ (g : GG) (na : Option Addr) (nc : Nat) (nl : List NL) (at' : Nat), e = .returned (g.val na nc) ∧ nl.map (·.n) = g.nodes ∧ g.Ok ∧ (g.nodes = [] ∨ OwnG w' w.heap.size na nc nl) ∧ at' ≤ at_ + 16100 ∧ DK w w' b sa bs cap at'

set_option maxHeartbeats 8000000 in
set_option maxRecDepth 100000 in
theorem l6graphF_any (b : Nat) (sa : Option Addr) (bs : List Nat) (cap at_ : Nat) (w : World) (hc : DC w b sa bs cap at_) (hat : at_ + 40000 < 4611686018427387904) :
    Calls Try.prog 75 #[.pointer (some ⟨b, 0, none⟩)] w (GraphF w b sa bs cap at_) := by
  have hlt := hc.lt
  obtain ⟨wA, hwA⟩ : ∃ wA, Hid (wA = w.alloc (.cells #[.int .i64 0, .int .i64 0, .string ⟨#[]⟩, .int .i64 0, .slice none 0 0] 27)) := ⟨_, rfl⟩
  have hsA : wA.heap.size = w.heap.size + 1 := by rw [hwA.out]; simp
  have hFA : Five wA w.heap.size ⟨0, 0, ⟨#[]⟩, 0⟩ (.slice none 0 0) := by rw [hwA.out]; exact Five.new_at w ⟨0, 0, ⟨#[]⟩, 0⟩ (.slice none 0 0) 27 w.heap.size rfl
  have hKA : Kept (fun _ => False) w wA := by rw [hwA.out]; exact (Kept.refl _ w).alloc _
  have hDA := hc.kept hKA (fun e => e) (fun _ _ _ e => e)
  have hsl := hc.sl
  have hend : ∀ (g : GG) (na : Option Addr) (nc : Nat) (nl : List NL) (at' : Nat) (w3 : World), nl.map (·.n) = g.nodes → g.Ok → (g.nodes = [] ∨ OwnG w3 wA.heap.size na nc nl) → at' ≤ at_ + 16100 → DC w3 b sa bs cap at' → Kept (fun k => k = b) wA w3 → Five w3 w.heap.size ⟨0, 0, ⟨#[]⟩, 0⟩ (.slice none 0 0) →
      ∀ w9, Hid (w9 = (((((w3.setCell ⟨w.heap.size, 0, none⟩ (.int .i64 g.root.kind)).setCell ⟨w.heap.size, 1, none⟩ (.int .i64 g.root.num)).setCell ⟨w.heap.size, 2, none⟩ (.string g.root.text)).setCell ⟨w.heap.size, 3, none⟩ (.int .i64 g.root.node)).setCell ⟨w.heap.size, 4, none⟩ (.slice na g.nodes.length nc))) →
      Five w9 w.heap.size g.root (.slice na g.nodes.length nc) ∧ GraphF w b sa bs cap at_ (.returned (g.val na nc)) w9 := by
    intro g na nc nl at' w3 hn hg hO ha' hd hK hF w9 hw9
    have hw9 := hw9.out
    subst hw9
    have hKR : Kept (fun k => k = w.heap.size) w3 (((((w3.setCell ⟨w.heap.size, 0, none⟩ (.int .i64 g.root.kind)).setCell ⟨w.heap.size, 1, none⟩ (.int .i64 g.root.num)).setCell ⟨w.heap.size, 2, none⟩ (.string g.root.text)).setCell ⟨w.heap.size, 3, none⟩ (.int .i64 g.root.node)).setCell ⟨w.heap.size, 4, none⟩ (.slice na g.nodes.length nc)) := (((((Kept.refl (fun k => k = w.heap.size) w3).set (fun _ => rfl) _).set (fun _ => rfl) _).set (fun _ => rfl) _).set (fun _ => rfl) _).set (fun _ => rfl) _
    refine ⟨(hF.rootS g.root).set (s' := .slice na g.nodes.length nc), g, na, nc, nl, at', rfl, hn, hg, ?_, ha', hd.kept hKR (by omega) (fun g off e hp => by have := hsl g off e; omega), ((hKA.mono (fun _ _ e => e.elim)).trans hK (fun _ _ e => e)).trans hKR (fun k hk e => by omega)⟩
    rcases hO with h0 | hO
    · exact Or.inl h0
    · refine Or.inr ((hO.kept hKR (fun k e hp => ?_) (fun x hx k e hp => ?_)).le (by omega))
      · have := (hO.nodes.lt k (by rw [e]; rfl)).1; omega
      · have := ((hO.vals x hx).lt k (by rw [e]; rfl)).1; omega
  go_enter Try.func75, Try.ntmps75
  go_wp2_with (go_at_call_of 52 ((20 : Int)); rw [← hwA.out]; refine (l6pick_of b sa bs cap at_ 20 20 _ rfl hDA (by omega) (by omega) (by omega)).mono ?_; rintro e w2 ⟨x, at2, hx, ha2, rfl, hk2⟩; have hF2 := hFA.kept hk2.kept (by omega); have hs2 := hk2.kept.size; obtain rfl | hx1 := eqz x)
  · refine (l6full_any b sa bs cap at2 w2 hk2.dc (by omega)).mono ?_
    rintro e w3 ⟨g, na, nc, nl, at3, rfl, hn, hg, hok, hO, ha3, hk3⟩
    have hF3 := hF2.kept hk3.kept (by omega)
    obtain ⟨rz, r0, r1', r2, r3, r4, rf_⟩ := id hF3
    go_wp2
    obtain ⟨w9, hw9⟩ : ∃ w9, Hid (w9 = (((((w3.setCell ⟨w.heap.size, 0, none⟩ (.int .i64 g.root.kind)).setCell ⟨w.heap.size, 1, none⟩ (.int .i64 g.root.num)).setCell ⟨w.heap.size, 2, none⟩ (.string g.root.text)).setCell ⟨w.heap.size, 3, none⟩ (.int .i64 g.root.node)).setCell ⟨w.heap.size, 4, none⟩ (.slice na g.nodes.length nc))) := ⟨_, rfl⟩
    obtain ⟨⟨_, s0, s1, s2, s3, s4, _⟩, hfin⟩ := hend g na nc nl at3 w3 hn hg (Or.inr (hO.le (by omega))) (by omega) hk3.dc (hk2.kept.trans hk3.kept (fun _ _ e => e)) hF3 w9 hw9
    rw [← hw9.out]
    exact bodyPost_ret (v := g.val na nc) (by simp [results, Try.results75, go_sem, s0, s1, s2, s3, s4, GG.val]) rfl hfin
  · refine (l6graph_any b sa bs cap at2 w2 hk2.dc (by omega)).mono ?_
    rintro e w3 ⟨g, na, nc, nl, at3, rfl, hn, hg, hok, hO, ha3, hk3⟩
    have hF3 := hF2.kept hk3.kept (by omega)
    have hA4 : Kept (fun _ => False) w3 (w3.alloc (.cells #[.int .i64 g.root.kind, .int .i64 g.root.num, .string g.root.text, .int .i64 g.root.node, .slice na g.nodes.length nc] 27)) := (Kept.refl _ w3).alloc _
    have hG4 := Five.new_at w3 g.root (.slice na g.nodes.length nc) 27 w3.heap.size rfl
    have hF4 := hF3.kept hA4 (fun e => e)
    have hO4 := hO.kept hA4 (fun _ _ e => e) (fun _ _ _ _ e => e)
    have hd4 := hk3.dc.kept hA4 (fun e => e) (fun _ _ _ e => e)
    have hs3 := hk3.kept.size
    have hs4 : ((w3.alloc (.cells #[.int .i64 g.root.kind, .int .i64 g.root.num, .string g.root.text, .int .i64 g.root.node, .slice na g.nodes.length nc] 27))).heap.size = w3.heap.size + 1 := by simp
    have hK4 : Kept (fun k => k = b) wA (w3.alloc (.cells #[.int .i64 g.root.kind, .int .i64 g.root.num, .string g.root.text, .int .i64 g.root.node, .slice na g.nodes.length nc] 27)) := (hk2.kept.trans hk3.kept (fun _ _ e => e)).trans (hA4.mono (fun _ _ e => e.elim)) (fun _ _ e => e)
    have hnb : ∀ j, na = some ⟨j, 0, none⟩ → w2.heap.size ≤ j ∧ j < w3.heap.size := fun j e => hO.nodes.lt j (by rw [e]; rfl)
    have hvb : ∀ x, x ∈ nl → ∀ j, x.a = some ⟨j, 0, none⟩ → w2.heap.size ≤ j ∧ j < w3.heap.size := fun x hx j e => (hO.vals x hx).lt j (by rw [e]; rfl)
    go_wp2_with (first
      | (go_at_call_of 52 ((8 : Int)); refine (l6pick_of b sa bs cap at3 8 8 _ rfl hd4 (by omega) (by omega) (by omega)).mono ?_; rintro e w5 ⟨x5, at5, hx5, ha5, rfl, hk5⟩; have hF5 := hF4.kept hk5.kept (by omega); have hG5 := hG4.kept hk5.kept (by omega); have hO5 := hO4.kept hk5.kept (fun j e hp => by have := hnb j e; omega) (fun x hx j e hp => by have := hvb x hx j e; omega); have hK5 := hK4.trans hk5.kept (fun _ _ e => e); have hs5 := hk5.kept.size; obtain ⟨gz, g0, g1, g2, g3, g4, gf⟩ := id hG5; obtain ⟨rz, r0, r1, r2, r3, r4, rf_⟩ := id hF5; obtain rfl | hx51 := eqz x5)
      | (go_at_call 76; refine (l6spoil_any b w2.heap.size w3.heap.size sa bs cap at5 na nc g nl w5 hk5.dc (by omega) hg hok hn (Or.inr ⟨hO5, fun j e => (hnb j e).2, fun x hx j e => (hvb x hx j e).2⟩) (by omega) (fun g off e => by have := hsl g off e; omega) (by omega)).mono ?_; rintro e w6 ⟨h, nl2, at6, rfl, hhO, hn2, hl2, hO6, ha6, hd6, hK6⟩; have hl3 : Hid (h.nodes.length = g.nodes.length) := hl2; clear hl2; have hG6 := hG5.kept hK6 (by omega); have hF6 := hF5.kept hK6 (by omega); obtain ⟨uz, u0, u1, u2, u3, u4, uf⟩ := id hG6; obtain ⟨tz, t0, t1, t2, t3, t4, tf⟩ := id hF6))
    · have hKB : Kept (fun k => k = w3.heap.size) w6 (((((w6.setCell ⟨w3.heap.size, 0, none⟩ (.int .i64 h.root.kind)).setCell ⟨w3.heap.size, 1, none⟩ (.int .i64 h.root.num)).setCell ⟨w3.heap.size, 2, none⟩ (.string h.root.text)).setCell ⟨w3.heap.size, 3, none⟩ (.int .i64 h.root.node)).setCell ⟨w3.heap.size, 4, none⟩ (.slice na h.nodes.length nc)) := (((((Kept.refl (fun k => k = w3.heap.size) w6).set (fun _ => rfl) _).set (fun _ => rfl) _).set (fun _ => rfl) _).set (fun _ => rfl) _).set (fun _ => rfl) _
      have hF7 := hF6.kept hKB (by omega)
      have hd7 := hd6.kept hKB (by omega) (fun g off e hp => by have := hsl g off e; omega)
      have hK7 := (hK5.trans hK6 (fun k hk e => by omega)).trans hKB (fun k hk e => by omega)
      have hO7 : h.nodes = [] ∨ OwnG (((((w6.setCell ⟨w3.heap.size, 0, none⟩ (.int .i64 h.root.kind)).setCell ⟨w3.heap.size, 1, none⟩ (.int .i64 h.root.num)).setCell ⟨w3.heap.size, 2, none⟩ (.string h.root.text)).setCell ⟨w3.heap.size, 3, none⟩ (.int .i64 h.root.node)).setCell ⟨w3.heap.size, 4, none⟩ (.slice na h.nodes.length nc)) wA.heap.size na nc nl2 := by
        rcases hO6 with h0 | ⟨hO6, hvt6⟩
        · exact Or.inl h0
        · refine Or.inr ((hO6.kept hKB (fun j e hp => by have := hnb j e; omega) (fun x hx j e hp => by have := hvt6 x hx j e; omega)).le (by omega))
      generalize (((((w6.setCell ⟨w3.heap.size, 0, none⟩ (.int .i64 h.root.kind)).setCell ⟨w3.heap.size, 1, none⟩ (.int .i64 h.root.num)).setCell ⟨w3.heap.size, 2, none⟩ (.string h.root.text)).setCell ⟨w3.heap.size, 3, none⟩ (.int .i64 h.root.node)).setCell ⟨w3.heap.size, 4, none⟩ (.slice na h.nodes.length nc)) = w7 at hF7 hd7 hK7 hO7 ⊢
      obtain ⟨w9, hw9⟩ : ∃ w9, Hid (w9 = (((((w7.setCell ⟨w.heap.size, 0, none⟩ (.int .i64 h.root.kind)).setCell ⟨w.heap.size, 1, none⟩ (.int .i64 h.root.num)).setCell ⟨w.heap.size, 2, none⟩ (.string h.root.text)).setCell ⟨w.heap.size, 3, none⟩ (.int .i64 h.root.node)).setCell ⟨w.heap.size, 4, none⟩ (.slice na h.nodes.length nc))) := ⟨_, rfl⟩
      obtain ⟨⟨_, s0, s1, s2, s3, s4, _⟩, hfin⟩ := hend h na nc nl2 at6 w7 hn2 hhO (hO7) (by omega) hd7 (hK7) hF7 w9 hw9
      rw [← hw9.out]
      exact bodyPost_ret (v := h.val na nc) (by simp [results, Try.results75, go_sem, s0, s1, s2, s3, s4, GG.val]) rfl hfin
    · obtain ⟨w9, hw9⟩ : ∃ w9, Hid (w9 = (((((w5.setCell ⟨w.heap.size, 0, none⟩ (.int .i64 g.root.kind)).setCell ⟨w.heap.size, 1, none⟩ (.int .i64 g.root.num)).setCell ⟨w.heap.size, 2, none⟩ (.string g.root.text)).setCell ⟨w.heap.size, 3, none⟩ (.int .i64 g.root.node)).setCell ⟨w.heap.size, 4, none⟩ (.slice na g.nodes.length nc))) := ⟨_, rfl⟩
      obtain ⟨⟨_, s0, s1, s2, s3, s4, _⟩, hfin⟩ := hend g na nc nl at5 w5 hn hg (Or.inr (hO5.le (by omega))) (by omega) hk5.dc (hK5) hF5 w9 hw9
      rw [← hw9.out]
      exact bodyPost_ret (v := g.val na nc) (by simp [results, Try.results75, go_sem, s0, s1, s2, s3, s4, GG.val]) rfl hfin

end Go.Proofs.Ythjddpkegooobaa

/-
  L6A: Turned and DrawAlike. Own work.
-/
namespace Go.Proofs.Ythjddpkegooobaa
open Go.RowKit

theorem own_nodesA {u : World} {base : Nat} {na : Option Addr} {nc : Nat} {nl : List NL} {ns : List GN} (hO : ns = [] ∨ OwnG u base na nc nl) (hn : nl.map (·.n) = ns) : NodesAt u.heap.size u na ns := by
  rcases hO with rfl | hO
  · exact fun i hi => absurd hi (Nat.not_lt_zero i)
  · rw [← hn]; exact hO.at_

/-- a graph turned for a law -/
def TurnedP (g : GG) (w : World) (e : Ending) (w' : World) : Prop :=
  ∃ (h : GG) (na : Option Addr) (nc : Nat), e = .returned (h.val na nc) ∧ h.Ok ∧ okG h = true ∧ canon h = canon g ∧ NodesAt w'.heap.size w' na h.nodes ∧ Below w.heap.size w w'

set_option maxHeartbeats 8000000 in
set_option maxRecDepth 100000 in
theorem turned_any (a : Option Addr) (gc : Nat) (g : GG) (sa : Option Addr) (bs : List Nat) (cap : Nat) (w : World) (hb : BytesAt w sa bs) (hu : ∀ x, x ∈ bs → x < 256) (hl : bs.length ≤ maxLen) (hs : ∀ g off, sa = some ⟨g, off, none⟩ → g < w.heap.size) (hg : g.Ok) (hok : okG g = true) (ha : NodesAt w.heap.size w a g.nodes) :
    Calls Try.prog 21 #[g.val a gc, .slice sa bs.length cap] w (TurnedP g w) := by
  obtain ⟨wA, hwA⟩ : ∃ wA, Hid (wA = (w.alloc (.cells #[.int .i64 g.root.kind, .int .i64 g.root.num, .string g.root.text, .int .i64 g.root.node, .slice a g.nodes.length gc] 27)).alloc (.cells #[.int .i64 0, .int .i64 0, .string ⟨#[]⟩, .int .i64 0, .slice none 0 0] 27)) := ⟨_, rfl⟩
  have hsA : wA.heap.size = w.heap.size + 1 + 1 := by rw [hwA.out]; simp
  have hFA : Five wA (w.heap.size + 1) ⟨0, 0, ⟨#[]⟩, 0⟩ (.slice none 0 0) := by rw [hwA.out]; exact Five.new_at _ ⟨0, 0, ⟨#[]⟩, 0⟩ (.slice none 0 0) 27 (w.heap.size + 1) (by simp)
  have hKA : Kept (fun _ => False) w wA := by rw [hwA.out]; exact ((Kept.refl _ w).alloc _).alloc _
  have hDC := DC.new (w := wA) (cap := cap) 75 (hb.kept hKA (fun _ _ _ e => e)) hu hl (fun g off e => by have := hs g off e; omega)
  rw [hsA] at hDC
  have hKB0 : Kept (fun _ => False) wA (wA.alloc (.cells #[.slice sa bs.length cap, .int .i64 0, .int .u64 0] 75)) := (Kept.refl _ wA).alloc _
  have hKB : Kept (fun _ => False) w (wA.alloc (.cells #[.slice sa bs.length cap, .int .i64 0, .int .u64 0] 75)) := hKA.trans hKB0 (fun _ _ e => e)
  have hFB := hFA.kept hKB0 (fun e => e)
  have hszB : (wA.alloc (.cells #[.slice sa bs.length cap, .int .i64 0, .int .u64 0] 75)).heap.size = w.heap.size + 1 + 1 + 1 := by simp [hsA]
  have ha2 : ∀ w', Kept (fun k => k = w.heap.size + 1 + 1) (wA.alloc (.cells #[.slice sa bs.length cap, .int .i64 0, .int .u64 0] 75)) w' → NodesAt w'.heap.size w' a g.nodes := fun w' hK => ha.grow ((hKB.trans hK (fun k hk e => by omega)).below (Nat.le_refl _) (fun k hk e => e))
  go_enter Try.func21, Try.ntmps21
  go_wp2_with (go_at_call 74; rw [← hwA.out]; refine (l6turned_any (w.heap.size + 1 + 1) sa bs cap 0 a gc g _ hDC (by omega) hg hok ha2).mono ?_; rintro e w3 ⟨h, na, nc, at3, rfl, hhO, hhk, hhc, hhn, hhOwn, ha3, hk3⟩; have hF3 := hFB.kept hk3.kept (by omega); obtain ⟨rz, r0, r1, r2, r3, r4, rf_⟩ := id hF3)
  have hKR : Kept (fun k => k = w.heap.size + 1) w3 (((((w3.setCell ⟨w.heap.size + 1, 0, none⟩ (.int .i64 h.root.kind)).setCell ⟨w.heap.size + 1, 1, none⟩ (.int .i64 h.root.num)).setCell ⟨w.heap.size + 1, 2, none⟩ (.string h.root.text)).setCell ⟨w.heap.size + 1, 3, none⟩ (.int .i64 h.root.node)).setCell ⟨w.heap.size + 1, 4, none⟩ (.slice na h.nodes.length nc)) := (((((Kept.refl (fun k => k = w.heap.size + 1) w3).set (fun _ => rfl) _).set (fun _ => rfl) _).set (fun _ => rfl) _).set (fun _ => rfl) _).set (fun _ => rfl) _
  have hR9 := (hF3.rootS h.root).set (s' := .slice na h.nodes.length nc)
  have hK9 := (hKB.trans hk3.kept (fun k hk e => by omega)).trans hKR (fun k hk e => by omega)
  generalize (((((w3.setCell ⟨w.heap.size + 1, 0, none⟩ (.int .i64 h.root.kind)).setCell ⟨w.heap.size + 1, 1, none⟩ (.int .i64 h.root.num)).setCell ⟨w.heap.size + 1, 2, none⟩ (.string h.root.text)).setCell ⟨w.heap.size + 1, 3, none⟩ (.int .i64 h.root.node)).setCell ⟨w.heap.size + 1, 4, none⟩ (.slice na h.nodes.length nc)) = w9 at hR9 hK9 hKR ⊢
  have hN9 : NodesAt w9.heap.size w9 na h.nodes := by
    rcases hhOwn with h0 | ⟨nl, hnl, hO⟩
    · rw [h0]; exact fun i hi => absurd hi (Nat.not_lt_zero i)
    · rw [← hnl]
      exact (hO.kept hKR (fun j e hp => by have := (hO.nodes.lt j (by rw [e]; rfl)).1; omega) (fun x hx j e hp => by have := ((hO.vals x hx).lt j (by rw [e]; rfl)).1; omega)).at_
  obtain ⟨_, s0, s1, s2, s3, s4, _⟩ := hR9
  exact bodyPost_ret (v := h.val na nc) (by simp [results, Try.results21, go_sem, s0, s1, s2, s3, s4, GG.val]) rfl ⟨h, na, nc, rfl, hhO, hhk, hhc, hN9, hK9.below (Nat.le_refl _) (fun k hk e => e)⟩

/-- two graphs for a law -/
def AlikeD (w : World) (e : Ending) (w' : World) : Prop :=
  ∃ (g h : GG) (ga ha : Option Addr) (gc hc : Nat), e = .returned (.tuple #[g.val ga gc, h.val ha hc]) ∧ g.Ok ∧ h.Ok ∧ NodesAt w'.heap.size w' ga g.nodes ∧ NodesAt w'.heap.size w' ha h.nodes ∧ Below w.heap.size w w'

set_option maxHeartbeats 8000000 in
set_option maxRecDepth 100000 in
theorem drawAlike_any (sa : Option Addr) (bs : List Nat) (cap : Nat) (w : World) (hb : BytesAt w sa bs) (hu : ∀ x, x ∈ bs → x < 256) (hl : bs.length ≤ maxLen) (hs : ∀ g off, sa = some ⟨g, off, none⟩ → g < w.heap.size) :
    Calls Try.prog 23 #[.slice sa bs.length cap] w (AlikeD w) := by
  obtain ⟨wA, hwA⟩ : ∃ wA, Hid (wA = (w.alloc (.cells #[.int .i64 0, .int .i64 0, .string ⟨#[]⟩, .int .i64 0, .slice none 0 0] 27)).alloc (.cells #[.int .i64 0, .int .i64 0, .string ⟨#[]⟩, .int .i64 0, .slice none 0 0] 27)) := ⟨_, rfl⟩
  have hsA : wA.heap.size = w.heap.size + 1 + 1 := by rw [hwA.out]; simp
  have hF1A : Five wA w.heap.size ⟨0, 0, ⟨#[]⟩, 0⟩ (.slice none 0 0) := by rw [hwA.out]; exact (Five.new_at w ⟨0, 0, ⟨#[]⟩, 0⟩ (.slice none 0 0) 27 w.heap.size rfl).kept ((Kept.refl (fun _ => False) _).alloc _) (fun e => e)
  have hF2A : Five wA (w.heap.size + 1) ⟨0, 0, ⟨#[]⟩, 0⟩ (.slice none 0 0) := by rw [hwA.out]; exact Five.new_at _ ⟨0, 0, ⟨#[]⟩, 0⟩ (.slice none 0 0) 27 (w.heap.size + 1) (by simp)
  have hKA : Kept (fun _ => False) w wA := by rw [hwA.out]; exact ((Kept.refl _ w).alloc _).alloc _
  have hDC := DC.new (w := wA) (cap := cap) 75 (hb.kept hKA (fun _ _ _ e => e)) hu hl (fun g off e => by have := hs g off e; omega)
  rw [hsA] at hDC
  have hKB0 : Kept (fun _ => False) wA (wA.alloc (.cells #[.slice sa bs.length cap, .int .i64 0, .int .u64 0] 75)) := (Kept.refl _ wA).alloc _
  have hKB : Kept (fun _ => False) w (wA.alloc (.cells #[.slice sa bs.length cap, .int .i64 0, .int .u64 0] 75)) := hKA.trans hKB0 (fun _ _ e => e)
  have hF1B := hF1A.kept hKB0 (fun e => e)
  have hF2B := hF2A.kept hKB0 (fun e => e)
  have hszB : (wA.alloc (.cells #[.slice sa bs.length cap, .int .i64 0, .int .u64 0] 75)).heap.size = w.heap.size + 1 + 1 + 1 := by simp [hsA]
  go_enter Try.func23, Try.ntmps23
  go_upto_if 14 with (first
    | (go_at_call 75; rw [← hwA.out]; refine (l6graphF_any (w.heap.size + 1 + 1) sa bs cap 0 _ hDC (by omega)).mono ?_; rintro e w3 ⟨g, na, nc, nl, at3, rfl, hn, hg, hO, ha3, hk3⟩; have hA4 : Kept (fun _ => False) w3 (w3.alloc (.cells #[.int .i64 g.root.kind, .int .i64 g.root.num, .string g.root.text, .int .i64 g.root.node, .slice na g.nodes.length nc] 27)) := (Kept.refl _ w3).alloc _; have hG4 := Five.new_at w3 g.root (.slice na g.nodes.length nc) 27 w3.heap.size rfl; have hO4 : g.nodes = [] ∨ OwnG (w3.alloc (.cells #[.int .i64 g.root.kind, .int .i64 g.root.num, .string g.root.text, .int .i64 g.root.node, .slice na g.nodes.length nc] 27)) (w.heap.size + 1 + 1 + 1) na nc nl := hO.imp id (fun hO => (hO.kept hA4 (fun _ _ e => e) (fun _ _ _ _ e => e)).le (by omega)); have hat4 := own_nodesA hO4 hn)
    | (go_at_call 42; refine (specGraphOk_any na nc g _ hg hat4).mono ?_; rintro e w4 ⟨rfl, hb4⟩))
  have hs3 := hk3.kept.size
  have hs4 : (w3.alloc (.cells #[.int .i64 g.root.kind, .int .i64 g.root.num, .string g.root.text, .int .i64 g.root.node, .slice na g.nodes.length nc] 27)).heap.size = w3.heap.size + 1 := by simp
  have hF14 := (hF1B.kept hk3.kept (by omega)).kept hA4 (fun e => e)
  have hF24 := (hF2B.kept hk3.kept (by omega)).kept hA4 (fun e => e)
  have hd4 := hk3.dc.kept hA4 (fun e => e) (fun _ _ _ e => e)
  have hK4 : Kept (fun _ => False) w (w3.alloc (.cells #[.int .i64 g.root.kind, .int .i64 g.root.num, .string g.root.text, .int .i64 g.root.node, .slice na g.nodes.length nc] 27)) := (hKB.trans hk3.kept (fun k hk e => by omega)).trans hA4 (fun k hk e => e)
  have hKb : Kept (fun _ => False) (w3.alloc (.cells #[.int .i64 g.root.kind, .int .i64 g.root.num, .string g.root.text, .int .i64 g.root.node, .slice na g.nodes.length nc] 27)) w4 := Kept.of_below hb4 (fun _ => False)
  have hlt4 : ∀ j, na = some ⟨j, 0, none⟩ → OwnG w3 (wA.alloc (.cells #[.slice sa bs.length cap, .int .i64 0, .int .u64 0] 75)).heap.size na nc nl → w.heap.size + 1 + 1 < j ∧ j < w3.heap.size := fun j e hO => by have := hO.nodes.lt j (by rw [e]; rfl); omega
  have hltv : ∀ x, x ∈ nl → ∀ j, x.a = some ⟨j, 0, none⟩ → OwnG w3 (wA.alloc (.cells #[.slice sa bs.length cap, .int .i64 0, .int .u64 0] 75)).heap.size na nc nl → w.heap.size + 1 + 1 < j ∧ j < w3.heap.size := fun x hx j e hO => by have := (hO.vals x hx).lt j (by rw [e]; rfl); omega
  generalize w3.alloc (.cells #[.int .i64 g.root.kind, .int .i64 g.root.num, .string g.root.text, .int .i64 g.root.node, .slice na g.nodes.length nc] 27) = wG at hA4 hG4 hO4 hat4 hb4 hs4 hF14 hF24 hd4 hK4 hKb ⊢
  have hG5 := hG4.kept hKb (fun e => e)
  have hF15 := hF14.kept hKb (fun e => e)
  have hF25 := hF24.kept hKb (fun e => e)
  have hd5 := hd4.kept hKb (fun e => e) (fun _ _ _ e => e)
  have hK5 := hK4.trans hKb (fun _ _ e => e)
  have hs5 := hKb.size
  have hO5 : g.nodes = [] ∨ OwnG w4 (w.heap.size + 1 + 1 + 1) na nc nl := hO4.imp id (fun h => h.kept hKb (fun _ _ e => e) (fun _ _ _ _ e => e))
  obtain ⟨G, hG⟩ := hid_ex w3.heap.size
  rw [← hG.out] at hG4 hG5 ⊢
  have hGs : w.heap.size + 1 + 1 + 1 ≤ G ∧ G < w4.heap.size := by rw [hG.out]; omega
  have hgK : ∀ {p : Nat → Prop} (wf : World), Kept p w4 wf → (∀ k, p k → k ≤ w.heap.size + 1 + 1 ∨ w3.heap.size ≤ k) → NodesAt wf.heap.size wf na g.nodes := fun wf hK hp => by
    rcases hO5 with h0 | hO5
    · rw [h0]; exact fun i hi => absurd hi (Nat.not_lt_zero i)
    · rcases hO with h0 | hO
      · rw [h0]; exact fun i hi => absurd hi (Nat.not_lt_zero i)
      · rw [← hn]
        exact (hO5.kept hK (fun j e hq => by have h1 := hlt4 j e hO; have h2 := hp j hq; omega) (fun x hx j e hq => by have h1 := hltv x hx j e hO; have h2 := hp j hq; omega)).at_
  cases hok : okG g with
  | false =>
    obtain ⟨_, y0, y1, y2, y3, y4, _⟩ := id hG5
    go_upto_region 4 with fail
    have hGb := hG5
    have hHb := hG5
    have hR1 := hF15
    have hR2 := hF25
    have hKw := hK5
    have hgN : ∀ wf, Kept (fun k => k = w.heap.size ∨ k = w.heap.size + 1) w4 wf → NodesAt wf.heap.size wf na g.nodes := fun wf hK => hgK wf hK (fun k e => by omega)
    have hhN := hgN
    have hdr : Kept (fun _ => False) w4 w4.drew := (Kept.refl _ w4).drew
    have hSS : Five w4.drew G g.root (.slice na g.nodes.length nc) ∧ Five w4.drew G g.root (.slice na g.nodes.length nc) := ⟨hGb.kept hdr (fun e => e), hHb.kept hdr (fun e => e)⟩
    have hR1d := hR1.kept hdr (fun e => e)
    have hR2d := hR2.kept hdr (fun e => e)
    refine wp_regionU (fun u => Five u G g.root (.slice na g.nodes.length nc) ∧ Five u G g.root (.slice na g.nodes.length nc)) 3 (by kernel_rfl) hSS (fun hS0 => ?_)
    generalize w4.drew = wd at hSS hR1d hR2d hS0 hdr ⊢
    refine anyU_take (i := 0) (v := ?_) rfl (by kernel_rfl) (by kernel_rfl) (by kernel_rfl) (by kernel_rfl) (fun _ _ _ h => h) (Or.inl ⟨by rfl, ?_⟩) hS0 ?_
    rotate_left
    · intro u hSu; obtain ⟨⟨_, s0, s1, s2, s3, s4, _⟩, ⟨_, t0, t1, t2, t3, t4, _⟩⟩ := hSu; go_simp <;> with_reducible rfl
    simp only [Act.put, List.getElem_toArray, List.getElem_cons_zero, List.setIfInBounds_toArray, List.set_cons_zero, List.set_cons_succ]
    refine anyU_take (i := 1) (v := ?_) rfl (by kernel_rfl) (by kernel_rfl) (by kernel_rfl) (by kernel_rfl) (fun _ _ _ h => h) (Or.inl ⟨by rfl, ?_⟩) hS0 ?_
    rotate_left
    · intro u hSu; obtain ⟨⟨_, s0, s1, s2, s3, s4, _⟩, ⟨_, t0, t1, t2, t3, t4, _⟩⟩ := hSu; go_simp <;> with_reducible rfl
    simp only [Act.put, List.getElem_toArray, List.getElem_cons_zero, List.getElem_cons_succ, List.setIfInBounds_toArray, List.set_cons_zero, List.set_cons_succ]
    obtain ⟨rz, r0, r1, r2, r3, r4, rf_⟩ := id hR1d
    refine anyU_one (i := 2) (by kernel_rfl) rfl (fun K hK => ?_)
    go_simp
    have hKR1 : Kept (fun k => k = w.heap.size) wd (((((wd.setCell ⟨w.heap.size, 0, none⟩ (.int .i64 g.root.kind)).setCell ⟨w.heap.size, 1, none⟩ (.int .i64 g.root.num)).setCell ⟨w.heap.size, 2, none⟩ (.string g.root.text)).setCell ⟨w.heap.size, 3, none⟩ (.int .i64 g.root.node)).setCell ⟨w.heap.size, 4, none⟩ (.slice na g.nodes.length nc)) := (((((Kept.refl (fun k => k = w.heap.size) wd).set (fun _ => rfl) _).set (fun _ => rfl) _).set (fun _ => rfl) _).set (fun _ => rfl) _).set (fun _ => rfl) _
    have hR1e := (hR1d.rootS g.root).set (s' := .slice na g.nodes.length nc)
    have hR2e := hR2d.kept hKR1 (by omega)
    refine hK.out _ _ ⟨hSS.1.kept hKR1 (by omega), hSS.2.kept hKR1 (by omega)⟩ ?_
    clear hK
    generalize (((((wd.setCell ⟨w.heap.size, 0, none⟩ (.int .i64 g.root.kind)).setCell ⟨w.heap.size, 1, none⟩ (.int .i64 g.root.num)).setCell ⟨w.heap.size, 2, none⟩ (.string g.root.text)).setCell ⟨w.heap.size, 3, none⟩ (.int .i64 g.root.node)).setCell ⟨w.heap.size, 4, none⟩ (.slice na g.nodes.length nc)) = we at hKR1 hR1e hR2e ⊢
    obtain ⟨qz, q0, q1, q2, q3, q4, qf⟩ := id hR2e
    refine anyU_last (by kernel_rfl) rfl (by kernel_rfl) (fun K hK => ?_)
    go_simp
    refine hK.out _ _ ?_
    clear hK
    have hKR2 : Kept (fun k => k = w.heap.size + 1) we (((((we.setCell ⟨w.heap.size + 1, 0, none⟩ (.int .i64 g.root.kind)).setCell ⟨w.heap.size + 1, 1, none⟩ (.int .i64 g.root.num)).setCell ⟨w.heap.size + 1, 2, none⟩ (.string g.root.text)).setCell ⟨w.heap.size + 1, 3, none⟩ (.int .i64 g.root.node)).setCell ⟨w.heap.size + 1, 4, none⟩ (.slice na g.nodes.length nc)) := (((((Kept.refl (fun k => k = w.heap.size + 1) we).set (fun _ => rfl) _).set (fun _ => rfl) _).set (fun _ => rfl) _).set (fun _ => rfl) _).set (fun _ => rfl) _
    have hR2f := (hR2e.rootS g.root).set (s' := .slice na g.nodes.length nc)
    have hR1f := hR1e.kept hKR2 (by omega)
    generalize (((((we.setCell ⟨w.heap.size + 1, 0, none⟩ (.int .i64 g.root.kind)).setCell ⟨w.heap.size + 1, 1, none⟩ (.int .i64 g.root.num)).setCell ⟨w.heap.size + 1, 2, none⟩ (.string g.root.text)).setCell ⟨w.heap.size + 1, 3, none⟩ (.int .i64 g.root.node)).setCell ⟨w.heap.size + 1, 4, none⟩ (.slice na g.nodes.length nc)) = wf at hKR2 hR2f hR1f ⊢
    have hKf : Kept (fun k => k = w.heap.size ∨ k = w.heap.size + 1) w4 wf := ((hdr.mono (fun _ _ e => e.elim)).trans (hKR1.mono (fun _ _ e => Or.inl e)) (fun _ _ e => e)).trans (hKR2.mono (fun _ _ e => Or.inr e)) (fun _ _ e => e)
    have hN1 := hgN wf hKf
    have hN2 := hhN wf hKf
    have hKw9 := hKw.trans hKf (fun k hk e => by omega)
    obtain ⟨_, s0, s1, s2, s3, s4, _⟩ := hR1f
    obtain ⟨_, t0, t1, t2, t3, t4, _⟩ := hR2f
    go_wp2
    exact bodyPost_ret (v := .tuple #[g.val na nc, g.val na nc]) (by simp [results, Try.results23, go_sem, s0, s1, s2, s3, s4, t0, t1, t2, t3, t4, GG.val]) rfl ⟨g, g, na, na, nc, nc, rfl, hg, hg, hN1, hN2, hKw9.below (Nat.le_refl _) (fun k hk e => e)⟩
  | true =>
    obtain ⟨_, y0, y1, y2, y3, y4, _⟩ := id hG5
    have hgT : ∀ w', Kept (fun k => k = w.heap.size + 1 + 1) w4 w' → NodesAt w'.heap.size w' na g.nodes := fun wf hK => hgK wf hK (fun k e => by omega)
    go_upto_if 22 with (first
      | (go_at_call 74; refine (l6turned_any (w.heap.size + 1 + 1) sa bs cap at3 na nc g w4 hd5 (by omega) hg hok hgT).mono ?_; rintro e w5 ⟨h, ha, hc, at5, rfl, hhO, hhk, hhc, hhn, hhOwn, ha5, hk5⟩; have hA6 : Kept (fun _ => False) w5 (w5.alloc (.cells #[.int .i64 h.root.kind, .int .i64 h.root.num, .string h.root.text, .int .i64 h.root.node, .slice ha h.nodes.length hc] 27)) := (Kept.refl _ w5).alloc _; have hH6 := Five.new_at w5 h.root (.slice ha h.nodes.length hc) 27 w5.heap.size rfl; have hd6 := hk5.dc.kept hA6 (fun e => e) (fun _ _ _ e => e))
      | (go_at_call_of 52 ((2 : Int)); refine (l6pick_of (w.heap.size + 1 + 1) sa bs cap at5 2 2 _ rfl hd6 (by omega) (by omega) (by omega)).mono ?_; rintro e w7 ⟨x7, at7, hx7, ha7, rfl, hk7⟩))
    have hs5' := hk5.kept.size
    have hs6 : (w5.alloc (.cells #[.int .i64 h.root.kind, .int .i64 h.root.num, .string h.root.text, .int .i64 h.root.node, .slice ha h.nodes.length hc] 27)).heap.size = w5.heap.size + 1 := by simp
    have hs7 := hk7.kept.size
    generalize w5.alloc (.cells #[.int .i64 h.root.kind, .int .i64 h.root.num, .string h.root.text, .int .i64 h.root.node, .slice ha h.nodes.length hc] 27) = w6 at hA6 hH6 hd6 hs6 hk7 hs7
    obtain ⟨H, hH⟩ := hid_ex w5.heap.size
    rw [← hH.out] at hH6 ⊢
    have hHs : w4.heap.size ≤ H ∧ H < w7.heap.size := by rw [hH.out]; omega
    have hH7 := hH6.kept hk7.kept (by omega)
    have hG7 := ((hG5.kept hk5.kept (by omega)).kept hA6 (fun e => e)).kept hk7.kept (by omega)
    have hF17 := ((hF15.kept hk5.kept (by omega)).kept hA6 (fun e => e)).kept hk7.kept (by omega)
    have hF27 := ((hF25.kept hk5.kept (by omega)).kept hA6 (fun e => e)).kept hk7.kept (by omega)
    have hK57 : Kept (fun k => k = w.heap.size + 1 + 1) w5 w7 := (hA6.mono (fun _ _ e => e.elim)).trans hk7.kept (fun _ _ e => e)
    have hK47 : Kept (fun k => k = w.heap.size + 1 + 1) w4 w7 := hk5.kept.trans hK57 (fun _ _ e => e)
    have hK7 := hK5.trans hK47 (fun k hk e => by omega)
    have hgN7 : ∀ {p : Nat → Prop} (wf : World), Kept p w7 wf → (∀ k, p k → k ≤ w.heap.size + 1 + 1 ∨ w3.heap.size ≤ k) → NodesAt wf.heap.size wf na g.nodes := fun {p} wf hK hp => hgK (p := fun k => k = w.heap.size + 1 + 1 ∨ p k) wf ((hK47.mono (fun _ _ e => Or.inl e)).trans (hK.mono (fun _ _ e => Or.inr e)) (fun _ _ e => e)) (fun k e => e.elim (fun e => by omega) (hp k))
    obtain ⟨nl2, hnl2, hO7⟩ : ∃ nl2 : List NL, nl2.map (·.n) = h.nodes ∧ (h.nodes = [] ∨ (OwnG w7 w4.heap.size ha hc nl2 ∧ (∀ j, ha = some ⟨j, 0, none⟩ → j < H) ∧ ∀ x, x ∈ nl2 → ∀ j, x.a = some ⟨j, 0, none⟩ → j < H)) := by
      rcases hhOwn with h0 | ⟨nl2, hnl2, hO2⟩
      · exact ⟨[], h0.symm, Or.inl h0⟩
      · have hj1 : ∀ j, ha = some ⟨j, 0, none⟩ → w4.heap.size ≤ j ∧ j < H := fun j e => by rw [hH.out]; exact hO2.nodes.lt j (by rw [e]; rfl)
        have hj2 : ∀ x, x ∈ nl2 → ∀ j, x.a = some ⟨j, 0, none⟩ → w4.heap.size ≤ j ∧ j < H := fun x hx j e => by rw [hH.out]; exact (hO2.vals x hx).lt j (by rw [e]; rfl)
        exact ⟨nl2, hnl2, Or.inr ⟨hO2.kept hK57 (fun j e hp => by have := hj1 j e; omega) (fun x hx j e hp => by have := hj2 x hx j e; omega), fun j e => (hj1 j e).2, fun x hx j e => (hj2 x hx j e).2⟩⟩
    clear y0 y1 y2 y3 y4
    obtain ⟨_, y0, y1, y2, y3, y4, _⟩ := id hG7
    obtain ⟨_, z0, z1, z2, z3, z4, zf⟩ := id hH7
    obtain rfl | hx71 := eqz x7
    · go_upto_region 8 with (go_at_call 76; refine (l6spoil_any (w.heap.size + 1 + 1) w4.heap.size H sa bs cap at7 ha hc h nl2 w7 hk7.dc (by omega) hhO hhk hnl2 hO7 (by omega) (fun g off e => by have := hs g off e; omega) (by omega)).mono ?_; rintro e w8 ⟨h2, nl3, at8, rfl, hh2O, hnl3, hl3, hO8, ha8, hd8, hK8⟩; have hl4 : Hid (h2.nodes.length = h.nodes.length) := hl3; clear hl3; have hH8 := hH7.kept hK8 (by omega); obtain ⟨_, u0, u1, u2, u3, u4, uf⟩ := id hH8)
      have hKH : Kept (fun k => k = H) w8 (((((w8.setCell ⟨H, 0, none⟩ (.int .i64 h2.root.kind)).setCell ⟨H, 1, none⟩ (.int .i64 h2.root.num)).setCell ⟨H, 2, none⟩ (.string h2.root.text)).setCell ⟨H, 3, none⟩ (.int .i64 h2.root.node)).setCell ⟨H, 4, none⟩ (.slice ha h2.nodes.length hc)) := (((((Kept.refl (fun k => k = H) w8).set (fun _ => rfl) _).set (fun _ => rfl) _).set (fun _ => rfl) _).set (fun _ => rfl) _).set (fun _ => rfl) _
      have hHb := (hH8.rootS h2.root).set (s' := .slice ha h2.nodes.length hc)
      have hG3 : G < w4.heap.size := hGs.2
      have hGH : G ≠ H := by omega
      have hGb := (hG7.kept hK8 (by omega)).kept hKH (by omega)
      have hR1 := (hF17.kept hK8 (by omega)).kept hKH (by omega)
      have hR2 := (hF27.kept hK8 (by omega)).kept hKH (by omega)
      have hK89 : Kept (fun k => k = w.heap.size + 1 + 1 ∨ w4.heap.size ≤ k) w7 (((((w8.setCell ⟨H, 0, none⟩ (.int .i64 h2.root.kind)).setCell ⟨H, 1, none⟩ (.int .i64 h2.root.num)).setCell ⟨H, 2, none⟩ (.string h2.root.text)).setCell ⟨H, 3, none⟩ (.int .i64 h2.root.node)).setCell ⟨H, 4, none⟩ (.slice ha h2.nodes.length hc)) := (hK8.mono (fun k _ e => by omega)).trans (hKH.mono (fun k _ e => by omega)) (fun _ _ e => e)
      generalize (((((w8.setCell ⟨H, 0, none⟩ (.int .i64 h2.root.kind)).setCell ⟨H, 1, none⟩ (.int .i64 h2.root.num)).setCell ⟨H, 2, none⟩ (.string h2.root.text)).setCell ⟨H, 3, none⟩ (.int .i64 h2.root.node)).setCell ⟨H, 4, none⟩ (.slice ha h2.nodes.length hc)) = w9 at hKH hHb hGb hR1 hR2 hK89 ⊢
      have hKw := hK7.trans hK89 (fun k hk e => by omega)
      have hgN : ∀ wf, Kept (fun k => k = w.heap.size ∨ k = w.heap.size + 1) w9 wf → NodesAt wf.heap.size wf na g.nodes := fun wf hK => hgN7 (p := fun k => (k = w.heap.size + 1 + 1 ∨ w4.heap.size ≤ k) ∨ (k = w.heap.size ∨ k = w.heap.size + 1)) wf ((hK89.mono (fun _ _ e => Or.inl e)).trans (hK.mono (fun _ _ e => Or.inr e)) (fun _ _ e => e)) (fun k e => by omega)
      have hhN : ∀ wf, Kept (fun k => k = w.heap.size ∨ k = w.heap.size + 1) w9 wf → NodesAt wf.heap.size wf ha h2.nodes := fun wf hK => by
        rcases hO7 with h0 | ⟨_, hnt7, _⟩
        · rw [List.eq_nil_of_length_eq_zero (by rw [hl4.out, h0]; rfl : h2.nodes.length = 0)]; exact fun i hi => absurd hi (Nat.not_lt_zero i)
        · rcases hO8 with h0 | ⟨hO8, hvt8⟩
          · rw [h0]; exact fun i hi => absurd hi (Nat.not_lt_zero i)
          · rw [← hnl3]
            exact ((hO8.kept hKH (fun j e hp => by have := hnt7 j e; omega) (fun x hx j e hp => by have := hvt8 x hx j e; omega)).kept hK (fun j e hp => by have := (hO8.nodes.lt j (by rw [e]; rfl)).1; omega) (fun x hx j e hp => by have := ((hO8.vals x hx).lt j (by rw [e]; rfl)).1; omega)).at_
      have hdr : Kept (fun _ => False) w9 w9.drew := (Kept.refl _ w9).drew
      have hSS : Five w9.drew G g.root (.slice na g.nodes.length nc) ∧ Five w9.drew H h2.root (.slice ha h2.nodes.length hc) := ⟨hGb.kept hdr (fun e => e), hHb.kept hdr (fun e => e)⟩
      have hR1d := hR1.kept hdr (fun e => e)
      have hR2d := hR2.kept hdr (fun e => e)
      refine wp_regionU (fun u => Five u G g.root (.slice na g.nodes.length nc) ∧ Five u H h2.root (.slice ha h2.nodes.length hc)) 3 (by kernel_rfl) hSS (fun hS0 => ?_)
      generalize w9.drew = wd at hSS hR1d hR2d hS0 hdr ⊢
      refine anyU_take (i := 0) (v := ?_) rfl (by kernel_rfl) (by kernel_rfl) (by kernel_rfl) (by kernel_rfl) (fun _ _ _ h => h) (Or.inl ⟨by rfl, ?_⟩) hS0 ?_
      rotate_left
      · intro u hSu; obtain ⟨⟨_, s0, s1, s2, s3, s4, _⟩, ⟨_, t0, t1, t2, t3, t4, _⟩⟩ := hSu; go_simp <;> with_reducible rfl
      simp only [Act.put, List.getElem_toArray, List.getElem_cons_zero, List.setIfInBounds_toArray, List.set_cons_zero, List.set_cons_succ]
      refine anyU_take (i := 1) (v := ?_) rfl (by kernel_rfl) (by kernel_rfl) (by kernel_rfl) (by kernel_rfl) (fun _ _ _ h => h) (Or.inl ⟨by rfl, ?_⟩) hS0 ?_
      rotate_left
      · intro u hSu; obtain ⟨⟨_, s0, s1, s2, s3, s4, _⟩, ⟨_, t0, t1, t2, t3, t4, _⟩⟩ := hSu; go_simp <;> with_reducible rfl
      simp only [Act.put, List.getElem_toArray, List.getElem_cons_zero, List.getElem_cons_succ, List.setIfInBounds_toArray, List.set_cons_zero, List.set_cons_succ]
      obtain ⟨rz, r0, r1, r2, r3, r4, rf_⟩ := id hR1d
      refine anyU_one (i := 2) (by kernel_rfl) rfl (fun K hK => ?_)
      go_simp
      have hKR1 : Kept (fun k => k = w.heap.size) wd (((((wd.setCell ⟨w.heap.size, 0, none⟩ (.int .i64 g.root.kind)).setCell ⟨w.heap.size, 1, none⟩ (.int .i64 g.root.num)).setCell ⟨w.heap.size, 2, none⟩ (.string g.root.text)).setCell ⟨w.heap.size, 3, none⟩ (.int .i64 g.root.node)).setCell ⟨w.heap.size, 4, none⟩ (.slice na g.nodes.length nc)) := (((((Kept.refl (fun k => k = w.heap.size) wd).set (fun _ => rfl) _).set (fun _ => rfl) _).set (fun _ => rfl) _).set (fun _ => rfl) _).set (fun _ => rfl) _
      have hR1e := (hR1d.rootS g.root).set (s' := .slice na g.nodes.length nc)
      have hR2e := hR2d.kept hKR1 (by omega)
      refine hK.out _ _ ⟨hSS.1.kept hKR1 (by omega), hSS.2.kept hKR1 (by omega)⟩ ?_
      clear hK
      generalize (((((wd.setCell ⟨w.heap.size, 0, none⟩ (.int .i64 g.root.kind)).setCell ⟨w.heap.size, 1, none⟩ (.int .i64 g.root.num)).setCell ⟨w.heap.size, 2, none⟩ (.string g.root.text)).setCell ⟨w.heap.size, 3, none⟩ (.int .i64 g.root.node)).setCell ⟨w.heap.size, 4, none⟩ (.slice na g.nodes.length nc)) = we at hKR1 hR1e hR2e ⊢
      obtain ⟨qz, q0, q1, q2, q3, q4, qf⟩ := id hR2e
      refine anyU_last (by kernel_rfl) rfl (by kernel_rfl) (fun K hK => ?_)
      go_simp
      refine hK.out _ _ ?_
      clear hK
      have hKR2 : Kept (fun k => k = w.heap.size + 1) we (((((we.setCell ⟨w.heap.size + 1, 0, none⟩ (.int .i64 h2.root.kind)).setCell ⟨w.heap.size + 1, 1, none⟩ (.int .i64 h2.root.num)).setCell ⟨w.heap.size + 1, 2, none⟩ (.string h2.root.text)).setCell ⟨w.heap.size + 1, 3, none⟩ (.int .i64 h2.root.node)).setCell ⟨w.heap.size + 1, 4, none⟩ (.slice ha h2.nodes.length hc)) := (((((Kept.refl (fun k => k = w.heap.size + 1) we).set (fun _ => rfl) _).set (fun _ => rfl) _).set (fun _ => rfl) _).set (fun _ => rfl) _).set (fun _ => rfl) _
      have hR2f := (hR2e.rootS h2.root).set (s' := .slice ha h2.nodes.length hc)
      have hR1f := hR1e.kept hKR2 (by omega)
      generalize (((((we.setCell ⟨w.heap.size + 1, 0, none⟩ (.int .i64 h2.root.kind)).setCell ⟨w.heap.size + 1, 1, none⟩ (.int .i64 h2.root.num)).setCell ⟨w.heap.size + 1, 2, none⟩ (.string h2.root.text)).setCell ⟨w.heap.size + 1, 3, none⟩ (.int .i64 h2.root.node)).setCell ⟨w.heap.size + 1, 4, none⟩ (.slice ha h2.nodes.length hc)) = wf at hKR2 hR2f hR1f ⊢
      have hKf : Kept (fun k => k = w.heap.size ∨ k = w.heap.size + 1) w9 wf := ((hdr.mono (fun _ _ e => e.elim)).trans (hKR1.mono (fun _ _ e => Or.inl e)) (fun _ _ e => e)).trans (hKR2.mono (fun _ _ e => Or.inr e)) (fun _ _ e => e)
      have hN1 := hgN wf hKf
      have hN2 := hhN wf hKf
      have hKw9 := hKw.trans hKf (fun k hk e => by omega)
      obtain ⟨_, s0, s1, s2, s3, s4, _⟩ := hR1f
      obtain ⟨_, t0, t1, t2, t3, t4, _⟩ := hR2f
      go_wp2
      exact bodyPost_ret (v := .tuple #[g.val na nc, h2.val ha hc]) (by simp [results, Try.results23, go_sem, s0, s1, s2, s3, s4, t0, t1, t2, t3, t4, GG.val]) rfl ⟨g, h2, na, ha, nc, hc, rfl, hg, hh2O, hN1, hN2, hKw9.below (Nat.le_refl _) (fun k hk e => e)⟩
    · have hGb := hG7
      go_upto_region 8 with fail
      have hHb := hH7
      have hR1 := hF17
      have hR2 := hF27
      have hKw := hK7
      have hgN : ∀ wf, Kept (fun k => k = w.heap.size ∨ k = w.heap.size + 1) w7 wf → NodesAt wf.heap.size wf na g.nodes := fun wf hK => hgN7 wf hK (fun k e => by omega)
      have hhN : ∀ wf, Kept (fun k => k = w.heap.size ∨ k = w.heap.size + 1) w7 wf → NodesAt wf.heap.size wf ha h.nodes := fun wf hK => by
        rcases hO7 with h0 | ⟨hO7, _, _⟩
        · rw [h0]; exact fun i hi => absurd hi (Nat.not_lt_zero i)
        · rw [← hnl2]
          exact (hO7.kept hK (fun j e hp => by have := (hO7.nodes.lt j (by rw [e]; rfl)).1; omega) (fun x hx j e hp => by have := ((hO7.vals x hx).lt j (by rw [e]; rfl)).1; omega)).at_
      have hdr : Kept (fun _ => False) w7 w7.drew := (Kept.refl _ w7).drew
      have hSS : Five w7.drew G g.root (.slice na g.nodes.length nc) ∧ Five w7.drew H h.root (.slice ha h.nodes.length hc) := ⟨hGb.kept hdr (fun e => e), hHb.kept hdr (fun e => e)⟩
      have hR1d := hR1.kept hdr (fun e => e)
      have hR2d := hR2.kept hdr (fun e => e)
      refine wp_regionU (fun u => Five u G g.root (.slice na g.nodes.length nc) ∧ Five u H h.root (.slice ha h.nodes.length hc)) 3 (by kernel_rfl) hSS (fun hS0 => ?_)
      generalize w7.drew = wd at hSS hR1d hR2d hS0 hdr ⊢
      refine anyU_take (i := 0) (v := ?_) rfl (by kernel_rfl) (by kernel_rfl) (by kernel_rfl) (by kernel_rfl) (fun _ _ _ h => h) (Or.inl ⟨by rfl, ?_⟩) hS0 ?_
      rotate_left
      · intro u hSu; obtain ⟨⟨_, s0, s1, s2, s3, s4, _⟩, ⟨_, t0, t1, t2, t3, t4, _⟩⟩ := hSu; go_simp <;> with_reducible rfl
      simp only [Act.put, List.getElem_toArray, List.getElem_cons_zero, List.setIfInBounds_toArray, List.set_cons_zero, List.set_cons_succ]
      refine anyU_take (i := 1) (v := ?_) rfl (by kernel_rfl) (by kernel_rfl) (by kernel_rfl) (by kernel_rfl) (fun _ _ _ h => h) (Or.inl ⟨by rfl, ?_⟩) hS0 ?_
      rotate_left
      · intro u hSu; obtain ⟨⟨_, s0, s1, s2, s3, s4, _⟩, ⟨_, t0, t1, t2, t3, t4, _⟩⟩ := hSu; go_simp <;> with_reducible rfl
      simp only [Act.put, List.getElem_toArray, List.getElem_cons_zero, List.getElem_cons_succ, List.setIfInBounds_toArray, List.set_cons_zero, List.set_cons_succ]
      obtain ⟨rz, r0, r1, r2, r3, r4, rf_⟩ := id hR1d
      refine anyU_one (i := 2) (by kernel_rfl) rfl (fun K hK => ?_)
      go_simp
      have hKR1 : Kept (fun k => k = w.heap.size) wd (((((wd.setCell ⟨w.heap.size, 0, none⟩ (.int .i64 g.root.kind)).setCell ⟨w.heap.size, 1, none⟩ (.int .i64 g.root.num)).setCell ⟨w.heap.size, 2, none⟩ (.string g.root.text)).setCell ⟨w.heap.size, 3, none⟩ (.int .i64 g.root.node)).setCell ⟨w.heap.size, 4, none⟩ (.slice na g.nodes.length nc)) := (((((Kept.refl (fun k => k = w.heap.size) wd).set (fun _ => rfl) _).set (fun _ => rfl) _).set (fun _ => rfl) _).set (fun _ => rfl) _).set (fun _ => rfl) _
      have hR1e := (hR1d.rootS g.root).set (s' := .slice na g.nodes.length nc)
      have hR2e := hR2d.kept hKR1 (by omega)
      refine hK.out _ _ ⟨hSS.1.kept hKR1 (by omega), hSS.2.kept hKR1 (by omega)⟩ ?_
      clear hK
      generalize (((((wd.setCell ⟨w.heap.size, 0, none⟩ (.int .i64 g.root.kind)).setCell ⟨w.heap.size, 1, none⟩ (.int .i64 g.root.num)).setCell ⟨w.heap.size, 2, none⟩ (.string g.root.text)).setCell ⟨w.heap.size, 3, none⟩ (.int .i64 g.root.node)).setCell ⟨w.heap.size, 4, none⟩ (.slice na g.nodes.length nc)) = we at hKR1 hR1e hR2e ⊢
      obtain ⟨qz, q0, q1, q2, q3, q4, qf⟩ := id hR2e
      refine anyU_last (by kernel_rfl) rfl (by kernel_rfl) (fun K hK => ?_)
      go_simp
      refine hK.out _ _ ?_
      clear hK
      have hKR2 : Kept (fun k => k = w.heap.size + 1) we (((((we.setCell ⟨w.heap.size + 1, 0, none⟩ (.int .i64 h.root.kind)).setCell ⟨w.heap.size + 1, 1, none⟩ (.int .i64 h.root.num)).setCell ⟨w.heap.size + 1, 2, none⟩ (.string h.root.text)).setCell ⟨w.heap.size + 1, 3, none⟩ (.int .i64 h.root.node)).setCell ⟨w.heap.size + 1, 4, none⟩ (.slice ha h.nodes.length hc)) := (((((Kept.refl (fun k => k = w.heap.size + 1) we).set (fun _ => rfl) _).set (fun _ => rfl) _).set (fun _ => rfl) _).set (fun _ => rfl) _).set (fun _ => rfl) _
      have hR2f := (hR2e.rootS h.root).set (s' := .slice ha h.nodes.length hc)
      have hR1f := hR1e.kept hKR2 (by omega)
      generalize (((((we.setCell ⟨w.heap.size + 1, 0, none⟩ (.int .i64 h.root.kind)).setCell ⟨w.heap.size + 1, 1, none⟩ (.int .i64 h.root.num)).setCell ⟨w.heap.size + 1, 2, none⟩ (.string h.root.text)).setCell ⟨w.heap.size + 1, 3, none⟩ (.int .i64 h.root.node)).setCell ⟨w.heap.size + 1, 4, none⟩ (.slice ha h.nodes.length hc)) = wf at hKR2 hR2f hR1f ⊢
      have hKf : Kept (fun k => k = w.heap.size ∨ k = w.heap.size + 1) w7 wf := ((hdr.mono (fun _ _ e => e.elim)).trans (hKR1.mono (fun _ _ e => Or.inl e)) (fun _ _ e => e)).trans (hKR2.mono (fun _ _ e => Or.inr e)) (fun _ _ e => e)
      have hN1 := hgN wf hKf
      have hN2 := hhN wf hKf
      have hKw9 := hKw.trans hKf (fun k hk e => by omega)
      obtain ⟨_, s0, s1, s2, s3, s4, _⟩ := hR1f
      obtain ⟨_, t0, t1, t2, t3, t4, _⟩ := hR2f
      go_wp2
      exact bodyPost_ret (v := .tuple #[g.val na nc, h.val ha hc]) (by simp [results, Try.results23, go_sem, s0, s1, s2, s3, s4, t0, t1, t2, t3, t4, GG.val]) rfl ⟨g, h, na, ha, nc, hc, rfl, hg, hhO, hN1, hN2, hKw9.below (Nat.le_refl _) (fun k hk e => e)⟩

end Go.Proofs.Ythjddpkegooobaa

/-
  WSAME: the laws' comparisons, where both are the same. Own work.
-/
namespace Go.Proofs.Ythjddpkegooobaa
open Go.RowKit

set_option maxRecDepth 100000 in
theorem wBytes_same (a a' : Option Addr) (bs : List Nat) (cap cap' : Nat) (w : World) (hl : bs.length ≤ maxLen) (ha : BytesAt w a bs) (ha' : BytesAt w a' bs) :
    Calls Try.prog 18 #[.slice a bs.length cap, .slice a' bs.length cap'] w fun e w' => e = .returned (.bool true) ∧ Below w.heap.size w w' := by
  unfold maxLen at hl
  have hne : ((bs.length : Int) != (bs.length : Int)) = false := by simp
  go_enter Try.func18, Try.ntmps18
  go_wp2
  go_loopw [13] (fun i wr => ∃ (k : Nat), k ≤ bs.length ∧ i = .int .i64 k ∧ Below w.heap.size w wr) (fun i _ => bs.length - (intOf i).toNat)
  case atStart => exact ⟨0, Nat.zero_le _, rfl, gre _⟩
  case round =>
    obtain ⟨k, hk, rfl, hb⟩ := hrel
    by_cases hlt : k < bs.length
    · obtain ⟨x, b, off, hxk, hxm, rfl, hc⟩ := (ha.grow hb).get hlt
      obtain ⟨y, b', off', hyk, hym, rfl, hc'⟩ := (ha'.grow hb).get hlt
      obtain rfl : y = x := by rw [hyk.out, hxk.out]
      have hn2 : ((y : Int) != (y : Int)) = false := by simp
      go_wp2_with (go_quiet (fail))
      go_roundw
      case rel => exact ⟨k + 1, by omega, by go_num, hb.trans ⟨rfl, rfl, rfl, Nat.le_refl _, fun _ _ => rfl⟩⟩
      case measure => simp [intOf]; omega
    · go_wp2
      go_ret
      exact ⟨rfl, hb⟩

/-- a graph's own variable -/
structure WBox (w : World) (p : Nat) (s : Value) : Prop where
  c4 : w.cell? ⟨p, 4, none⟩ = some s
theorem WBox.grow {w w' : World} {p : Nat} {s : Value} (h : WBox w p s) (hb : Below w.heap.size w w') : WBox w' p s := ⟨(World.cell?_of_block (w := w) (hb.block p (World.block_lt_of_cell? w ⟨p, 4, none⟩ h.c4))).trans h.c4⟩

set_option maxHeartbeats 4000000 in
set_option maxRecDepth 100000 in
theorem wGraph_same (a a' : Option Addr) (cap cap' : Nat) (g : GG) (w : World) (hg : g.Ok) (ha : NodesAt w.heap.size w a g.nodes) (ha' : NodesAt w.heap.size w a' g.nodes) :
    Calls Try.prog 13 #[g.val a cap, g.val a' cap'] w fun e w' => e = .returned (.bool true) ∧ Below w.heap.size w w' := by
  have hgl := hg.len
  unfold maxLen at hgl
  have hne : ((g.nodes.length : Int) != (g.nodes.length : Int)) = false := by simp
  have hA := gal (gal (gre w) (.cells #[.int .i64 g.root.kind, .int .i64 g.root.num, .string g.root.text, .int .i64 g.root.node, .slice a g.nodes.length cap] 27)) (.cells #[.int .i64 g.root.kind, .int .i64 g.root.num, .string g.root.text, .int .i64 g.root.node, .slice a' g.nodes.length cap'] 27)
  have hX0 : WBox ((w.alloc (.cells #[.int .i64 g.root.kind, .int .i64 g.root.num, .string g.root.text, .int .i64 g.root.node, .slice a g.nodes.length cap] 27)).alloc (.cells #[.int .i64 g.root.kind, .int .i64 g.root.num, .string g.root.text, .int .i64 g.root.node, .slice a' g.nodes.length cap'] 27)) w.heap.size (.slice a g.nodes.length cap) := WBox.grow ⟨by simp⟩ (gal (gre _) _)
  have hY0 : WBox ((w.alloc (.cells #[.int .i64 g.root.kind, .int .i64 g.root.num, .string g.root.text, .int .i64 g.root.node, .slice a g.nodes.length cap] 27)).alloc (.cells #[.int .i64 g.root.kind, .int .i64 g.root.num, .string g.root.text, .int .i64 g.root.node, .slice a' g.nodes.length cap'] 27)) (w.heap.size + 1) (.slice a' g.nodes.length cap') := by
    have e : (w.alloc (.cells #[.int .i64 g.root.kind, .int .i64 g.root.num, .string g.root.text, .int .i64 g.root.node, .slice a g.nodes.length cap] 27)).heap.size = w.heap.size + 1 := by simp
    rw [← e]; exact ⟨by simp⟩
  go_enter Try.func13, Try.ntmps13
  go_wp2
  generalize (w.alloc (.cells #[.int .i64 g.root.kind, .int .i64 g.root.num, .string g.root.text, .int .i64 g.root.node, .slice a g.nodes.length cap] 27)).alloc (.cells #[.int .i64 g.root.kind, .int .i64 g.root.num, .string g.root.text, .int .i64 g.root.node, .slice a' g.nodes.length cap'] 27) = wA at hA hX0 hY0 ⊢
  go_loopw [24] (fun i wr => ∃ k : Nat, k ≤ g.nodes.length ∧ i = .int .i64 k ∧ Below wA.heap.size wA wr) (fun i _ => g.nodes.length - (intOf i).toNat)
  case atStart => exact ⟨0, Nat.zero_le _, rfl, gre _⟩
  case round =>
    obtain ⟨k, hk, rfl, hb⟩ := hrel
    by_cases hlt : k < g.nodes.length
    · have hB := gca hA hb
      obtain ⟨n, b, off, av, cv, hvk, hvm, rfl, hbs, hva⟩ := (ha.grow hB).get hlt
      obtain ⟨n', b', off', av', cv', hvk', hvm', rfl, hbs', hva'⟩ := (ha'.grow hB).get hlt
      obtain rfl : n' = n := by rw [hvk.out, hvk'.out]
      have x4 := (hX0.grow hb).c4
      have y4 := (hY0.grow hb).c4
      have c0 := hva.tag
      have c1 := hva.sl
      have d0 := hva'.tag
      have d1 := hva'.sl
      have hv1 := hva.vals
      have hv2 := hva'.vals
      have i0 : (0 : Int) ≤ (k : Int) := by omega
      have i1 : (k : Int) < (g.nodes.length : Int) := by omega
      have hnl := (hg.nodes n' hvm).len
      unfold maxLen at hnl
      have t1 : ((n'.tag : Int) != n'.tag) = false := by simp
      have t2 : ((n'.vals.length : Int) != (n'.vals.length : Int)) = false := by simp
      clear hva hva' hvk hvk' ha ha'
      go_wp2_with (go_quiet (fail))
      rename World => wB
      go_loopw [64] (fun i wr2 => ∃ j : Nat, j ≤ n'.vals.length ∧ i = .int .i64 j ∧ Below wB.heap.size wB wr2) (fun i _ => n'.vals.length - (intOf i).toNat)
      case atStart => exact ⟨0, Nat.zero_le _, rfl, by first | exact gre _ | exact (gre wB).trans ⟨rfl, rfl, rfl, Nat.le_refl _, fun _ _ => rfl⟩⟩
      case round =>
        obtain ⟨j, hj, rfl, hb2⟩ := hrel
        by_cases hlt2 : j < n'.vals.length
        · obtain ⟨v, vb, vo, hvj, hvm2, rfl, hvb, hvv⟩ := (hv1.grow hb2).get hlt2
          obtain ⟨v', vb', vo', hvj', hvm2', rfl, hvb', hvv'⟩ := (hv2.grow hb2).get hlt2
          obtain rfl : v' = v := by rw [hvj.out, hvj'.out]
          have c1' := cell_later hb2 c1
          have d1' := cell_later hb2 d1
          have x4' := cell_later hb2 x4
          have y4' := cell_later hb2 y4
          have e0 := hvv.kind
          have e1 := hvv.num
          have e2 := hvv.text
          have e3 := hvv.node
          have f0 := hvv'.kind
          have f1 := hvv'.num
          have f2 := hvv'.text
          have f3 := hvv'.node
          have j0 : (0 : Int) ≤ (j : Int) := by omega
          have j1 : (j : Int) < (n'.vals.length : Int) := by omega
          clear hvv hvv' hvj hvj' c0 c1 d0 d1 x4 y4 hv1 hv2
          go_wp2_with (go_quiet (fail))
          go_roundw
          case rel => exact ⟨j + 1, by omega, by go_num, by first | exact hb2 | exact hb2.trans ⟨rfl, rfl, rfl, Nat.le_refl _, fun _ _ => rfl⟩⟩
          case measure => simp [intOf]; omega
        · go_wp2
          go_roundw
          case rel => exact ⟨k + 1, by omega, by go_num, gca hb hb2⟩
          case measure => simp [intOf]; omega
    · go_wp2
      go_ret
      exact ⟨rfl, gca hA hb⟩

end Go.Proofs.Ythjddpkegooobaa
