import Derived.Test.YthjddpkegooobaaPartM

/-
  L6S: a graph, spoilt in one place. Own work.
-/
namespace Go.Proofs.Ythjddpkegooobaa
open Go.RowKit

/-- a graph that may be changed -/
def SpoilD (w : World) (b base top : Nat) (sa : Option Addr) (bs : List Nat) (cap at_ : Nat) (na : Option Addr) (nc n : Nat) (e : Ending) (w' : World) : Prop :=
  ∃ (h : GG) (nl : List NL) (at' : Nat), e = .returned (h.val na nc) ∧ h.Ok ∧ nl.map (·.n) = h.nodes ∧ h.nodes.length = n ∧ (h.nodes = [] ∨ (OwnG w' base na nc nl ∧ ∀ x, x ∈ nl → ∀ j, x.a = some ⟨j, 0, none⟩ → j < top)) ∧ at' ≤ at_ + 12 ∧ DC w' b sa bs cap at' ∧ Kept (fun k => k = b ∨ (base ≤ k ∧ k < top)) w w'

theorem OwnG.vget {w : World} {base : Nat} {na : Option Addr} {nc : Nat} {nl : List NL} (h : OwnG w base na nc nl) {x : NL} (hx : x ∈ nl) {k : Nat} (hk : k < x.n.vals.length) :
    ∃ v V, Hid (v = x.n.vals[k]!) ∧ v ∈ x.n.vals ∧ x.a = some ⟨V, 0, none⟩ ∧ w.cell? ⟨V, k * 4, none⟩ = some (.int .i64 v.kind) ∧ w.cell? ⟨V, k * 4 + 1, none⟩ = some (.int .i64 v.num) ∧ w.cell? ⟨V, k * 4 + 2, none⟩ = some (.string v.text) ∧ w.cell? ⟨V, k * 4 + 3, none⟩ = some (.int .i64 v.node) := by
  have hg : ∀ j, j < 4 → (valCells x.n.vals)[k * 4 + j]? = (x.n.vals[k]!.four)[j]? := fun j hj => flatMap_get GV.four_length x.n.vals k j hk hj
  obtain ⟨V, ha, _, _, c0⟩ := owns_cell (h.vals x hx) (hg 0 (by decide))
  obtain ⟨V1, ha1, _, _, c1⟩ := owns_cell (h.vals x hx) (hg 1 (by decide))
  obtain ⟨V2, ha2, _, _, c2⟩ := owns_cell (h.vals x hx) (hg 2 (by decide))
  obtain ⟨V3, ha3, _, _, c3⟩ := owns_cell (h.vals x hx) (hg 3 (by decide))
  rw [ha] at ha1 ha2 ha3
  obtain rfl := some_addr ha1
  obtain rfl := some_addr ha2
  obtain rfl := some_addr ha3
  exact ⟨x.n.vals[k]!, V, rfl, mem_at hk, ha, c0, c1, c2, c3⟩

theorem Four.setF0 {w : World} {b : Nat} {u : GV} (h : Four w b u) (z : Int) : Four (w.setCell ⟨b, 0, none⟩ (.int .i64 z)) b ⟨z, u.num, u.text, u.node⟩ := by
  obtain ⟨hl, c0, c1, c2, c3, hf⟩ := h
  refine ⟨by simpa [World.setCell] using hl, ?_, ?_, ?_, ?_, fun o => ?_⟩
  · exact World.cell?_setCell_same _ _ _ c0
  · rw [World.cell?_setCell_other _ _ _ _ (by simp)]; exact c1
  · rw [World.cell?_setCell_other _ _ _ _ (by simp)]; exact c2
  · rw [World.cell?_setCell_other _ _ _ _ (by simp)]; exact c3
  · rw [World.frozen?_setCell]; exact hf o
theorem Four.setF1 {w : World} {b : Nat} {u : GV} (h : Four w b u) (z : Int) : Four (w.setCell ⟨b, 1, none⟩ (.int .i64 z)) b ⟨u.kind, z, u.text, u.node⟩ := by
  obtain ⟨hl, c0, c1, c2, c3, hf⟩ := h
  refine ⟨by simpa [World.setCell] using hl, ?_, ?_, ?_, ?_, fun o => ?_⟩
  · rw [World.cell?_setCell_other _ _ _ _ (by simp)]; exact c0
  · exact World.cell?_setCell_same _ _ _ c1
  · rw [World.cell?_setCell_other _ _ _ _ (by simp)]; exact c2
  · rw [World.cell?_setCell_other _ _ _ _ (by simp)]; exact c3
  · rw [World.frozen?_setCell]; exact hf o
theorem Four.setF2 {w : World} {b : Nat} {u : GV} (h : Four w b u) (z : ByteArray) : Four (w.setCell ⟨b, 2, none⟩ (.string z)) b ⟨u.kind, u.num, z, u.node⟩ := by
  obtain ⟨hl, c0, c1, c2, c3, hf⟩ := h
  refine ⟨by simpa [World.setCell] using hl, ?_, ?_, ?_, ?_, fun o => ?_⟩
  · rw [World.cell?_setCell_other _ _ _ _ (by simp)]; exact c0
  · rw [World.cell?_setCell_other _ _ _ _ (by simp)]; exact c1
  · exact World.cell?_setCell_same _ _ _ c2
  · rw [World.cell?_setCell_other _ _ _ _ (by simp)]; exact c3
  · rw [World.frozen?_setCell]; exact hf o
theorem Four.setF3 {w : World} {b : Nat} {u : GV} (h : Four w b u) (z : Int) : Four (w.setCell ⟨b, 3, none⟩ (.int .i64 z)) b ⟨u.kind, u.num, u.text, z⟩ := by
  obtain ⟨hl, c0, c1, c2, c3, hf⟩ := h
  refine ⟨by simpa [World.setCell] using hl, ?_, ?_, ?_, ?_, fun o => ?_⟩
  · rw [World.cell?_setCell_other _ _ _ _ (by simp)]; exact c0
  · rw [World.cell?_setCell_other _ _ _ _ (by simp)]; exact c1
  · rw [World.cell?_setCell_other _ _ _ _ (by simp)]; exact c2
  · exact World.cell?_setCell_same _ _ _ c3
  · rw [World.frozen?_setCell]; exact hf o

theorem eqz (x : Nat) : x = 0 ∨ ((x : Int) == 0) = false := by
  rcases Nat.eq_zero_or_pos x with h | h
  · exact Or.inl h
  · exact Or.inr (by simp; omega)

theorem Five.setKind {w : World} {b : Nat} {u : GV} {s : Value} (h : Five w b u s) (z : Int) : Five (w.setCell ⟨b, 0, none⟩ (.int .i64 z)) b ⟨z, u.num, u.text, u.node⟩ s := by
  obtain ⟨hl, c0, c1, c2, c3, c4, hf⟩ := h
  refine ⟨by simpa [World.setCell] using hl, ?_, ?_, ?_, ?_, ?_, fun o => ?_⟩
  · exact World.cell?_setCell_same _ _ _ c0
  · rw [World.cell?_setCell_other _ _ _ _ (by simp)]; exact c1
  · rw [World.cell?_setCell_other _ _ _ _ (by simp)]; exact c2
  · rw [World.cell?_setCell_other _ _ _ _ (by simp)]; exact c3
  · rw [World.cell?_setCell_other _ _ _ _ (by simp)]; exact c4
  · rw [World.frozen?_setCell]; exact hf o

set_option maxHeartbeats 8000000 in
set_option maxRecDepth 100000 in
theorem l6spoil_any (b base top : Nat) (sa : Option Addr) (bs : List Nat) (cap at_ : Nat) (na : Option Addr) (nc : Nat) (g : GG) (nl : List NL) (w : World) (hc : DC w b sa bs cap at_) (hat : at_ + 20000 < 4611686018427387904) (hg : g.Ok) (hok : okG g = true) (hnl : nl.map (·.n) = g.nodes) (hO : g.nodes = [] ∨ (OwnG w base na nc nl ∧ (∀ j, na = some ⟨j, 0, none⟩ → j < top) ∧ ∀ x, x ∈ nl → ∀ j, x.a = some ⟨j, 0, none⟩ → j < top)) (hb : b < base) (hs : ∀ g off, sa = some ⟨g, off, none⟩ → g < base) (hbw : base ≤ w.heap.size) :
    Calls Try.prog 76 #[.pointer (some ⟨b, 0, none⟩), g.val na nc] w (SpoilD w b base top sa bs cap at_ na nc g.nodes.length) := by
  obtain ⟨h300, _, hnodes⟩ := okG_parts hok
  clear hok
  have hX0 := Five.new_at w g.root (.slice na g.nodes.length nc) 27 w.heap.size rfl
  have hF0 := Five.new_at (w.alloc (.cells #[.int .i64 g.root.kind, .int .i64 g.root.num, .string g.root.text, .int .i64 g.root.node, .slice na g.nodes.length nc] 27)) ⟨0, 0, ⟨#[]⟩, 0⟩ (.slice none 0 0) 27 (w.heap.size + 1) (by simp)
  have hA1 : Kept (fun _ => False) (w.alloc (.cells #[.int .i64 g.root.kind, .int .i64 g.root.num, .string g.root.text, .int .i64 g.root.node, .slice na g.nodes.length nc] 27)) ((w.alloc (.cells #[.int .i64 g.root.kind, .int .i64 g.root.num, .string g.root.text, .int .i64 g.root.node, .slice na g.nodes.length nc] 27)).alloc (.cells #[.int .i64 0, .int .i64 0, .string ⟨#[]⟩, .int .i64 0, .slice none 0 0] 27)) := (Kept.refl _ _).alloc _
  have hX1 := hX0.kept hA1 (fun e => e)
  have hK1 : Kept (fun _ => False) w ((w.alloc (.cells #[.int .i64 g.root.kind, .int .i64 g.root.num, .string g.root.text, .int .i64 g.root.node, .slice na g.nodes.length nc] 27)).alloc (.cells #[.int .i64 0, .int .i64 0, .string ⟨#[]⟩, .int .i64 0, .slice none 0 0] 27)) := ((Kept.refl _ w).alloc _).alloc _
  have hs1 : ((w.alloc (.cells #[.int .i64 g.root.kind, .int .i64 g.root.num, .string g.root.text, .int .i64 g.root.node, .slice na g.nodes.length nc] 27)).alloc (.cells #[.int .i64 0, .int .i64 0, .string ⟨#[]⟩, .int .i64 0, .slice none 0 0] 27)).heap.size = w.heap.size + 1 + 1 := by simp
  go_enter Try.func76, Try.ntmps76
  go_upto_region 1 with fail
  generalize (w.alloc (.cells #[.int .i64 g.root.kind, .int .i64 g.root.num, .string g.root.text, .int .i64 g.root.node, .slice na g.nodes.length nc] 27)).alloc (.cells #[.int .i64 0, .int .i64 0, .string ⟨#[]⟩, .int .i64 0, .slice none 0 0] 27) = w1 at hX1 hF0 hK1 hs1 ⊢
  clear hX0 hA1
  have hD1 := hc.kept hK1 (fun e => e) (fun _ _ _ e => e)
  obtain ⟨n, hn⟩ := hid_ex g.nodes.length
  have hn300 : n ≤ 300 := by rw [hn.out]; exact h300
  have hgn : g.val na nc = g.val na nc := rfl
  rw [← hn.out] at hX1 ⊢
  obtain ⟨xz, x0, x1, x2, x3, x4, xf⟩ := id hX1
  -- the way over the root
  have hroot : ∀ (w3 : World) (at3 : Nat) (z : Int), at3 ≤ at_ + 12 → I64 z → DC w3 b sa bs cap at3 → Kept (fun k => k = b) w1 w3 →
      ∀ w9, Hid (w9 = ((((((w3.setCell ⟨w.heap.size, 0, none⟩ (.int .i64 z)).setCell ⟨w.heap.size + 1, 0, none⟩ (.int .i64 z)).setCell ⟨w.heap.size + 1, 1, none⟩ (.int .i64 g.root.num)).setCell ⟨w.heap.size + 1, 2, none⟩ (.string g.root.text)).setCell ⟨w.heap.size + 1, 3, none⟩ (.int .i64 g.root.node)).setCell ⟨w.heap.size + 1, 4, none⟩ (.slice na n nc))) →
      Five w9 (w.heap.size + 1) ⟨z, g.root.num, g.root.text, g.root.node⟩ (.slice na n nc) ∧ SpoilD w b base top sa bs cap at_ na nc n (.returned ((GG.mk ⟨z, g.root.num, g.root.text, g.root.node⟩ g.nodes).val na nc)) w9 := by
    intro w3 at3 z ha3 hz hd3 hk3 w9 hw9
    have hw9 := hw9.out
    subst hw9
    have hKa : Kept (fun k => k = w.heap.size ∨ k = w.heap.size + 1) w3 ((((((w3.setCell ⟨w.heap.size, 0, none⟩ (.int .i64 z)).setCell ⟨w.heap.size + 1, 0, none⟩ (.int .i64 z)).setCell ⟨w.heap.size + 1, 1, none⟩ (.int .i64 g.root.num)).setCell ⟨w.heap.size + 1, 2, none⟩ (.string g.root.text)).setCell ⟨w.heap.size + 1, 3, none⟩ (.int .i64 g.root.node)).setCell ⟨w.heap.size + 1, 4, none⟩ (.slice na n nc)) := ((((((Kept.refl (fun k => k = w.heap.size ∨ k = w.heap.size + 1) w3).set (fun _ => Or.inl rfl) _).set (fun _ => Or.inr rfl) _).set (fun _ => Or.inr rfl) _).set (fun _ => Or.inr rfl) _).set (fun _ => Or.inr rfl) _).set (fun _ => Or.inr rfl) _
    have hF3 := hF0.kept hk3 (by omega)
    have hF4 := hF3.kept ((Kept.refl (fun k => k = w.heap.size) w3).set (a := ⟨w.heap.size, 0, none⟩) (fun _ => rfl) (.int .i64 z)) (by omega)
    refine ⟨(hF4.rootS ⟨z, g.root.num, g.root.text, g.root.node⟩).set (s' := .slice na n nc), ⟨⟨z, g.root.num, g.root.text, g.root.node⟩, g.nodes⟩, nl, at3, rfl, ⟨⟨hz, hg.root.num, hg.root.text, hg.root.node⟩, hg.len, hg.nodes⟩, hnl, hn.out.symm, ?_, ha3, hd3.kept hKa (by omega) (fun g off e hp => by have := hs g off e; omega), ?_⟩
    · rcases hO with h0 | ⟨hO, _, hvt⟩
      · exact Or.inl h0
      · refine Or.inr ⟨((hO.kept hK1 (fun _ _ e => e) (fun _ _ _ _ e => e)).kept hk3 (fun j e hp => ?_) (fun x hx j e hp => ?_)).kept hKa (fun j e hp => ?_) (fun x hx j e hp => ?_), hvt⟩
        · have := (hO.nodes.lt j (by rw [e]; rfl)).1; omega
        · have := ((hO.vals x hx).lt j (by rw [e]; rfl)).1; omega
        · have := (hO.nodes.lt j (by rw [e]; rfl)).2; omega
        · have := ((hO.vals x hx).lt j (by rw [e]; rfl)).2; omega
    · exact (((hK1.mono (fun _ _ e => e.elim)).trans (hk3.mono (fun _ _ e => Or.inl e)) (fun _ _ e => e)).trans hKa (fun k hk e => by omega))
  rcases Nat.eq_zero_or_pos n with hn0 | hn0
  · subst hn0
    go_wp2_with (go_at_call_of 52 ((7 : Int)); refine (l6pick_of b sa bs cap at_ 7 7 w1 rfl hD1 (by omega) (by omega) (by omega)).mono ?_; rintro e w3 ⟨y, at3, hy, ha3, rfl, hk3⟩; have hX3 := hX1.kept hk3.kept (by omega); have hF3 := hF0.kept hk3.kept (by omega); obtain ⟨yz, y0, y1, y2, y3, y4, yf⟩ := id hX3; obtain ⟨rz, r0, r1, r2, r3, r4, rf_⟩ := id hF3)
    · obtain ⟨w9, hw9⟩ : ∃ w9, Hid (w9 = ((((((w3.setCell ⟨w.heap.size, 0, none⟩ (.int .i64 ((y : Int) - 1))).setCell ⟨w.heap.size + 1, 0, none⟩ (.int .i64 ((y : Int) - 1))).setCell ⟨w.heap.size + 1, 1, none⟩ (.int .i64 g.root.num)).setCell ⟨w.heap.size + 1, 2, none⟩ (.string g.root.text)).setCell ⟨w.heap.size + 1, 3, none⟩ (.int .i64 g.root.node)).setCell ⟨w.heap.size + 1, 4, none⟩ (.slice na 0 nc))) := ⟨_, rfl⟩
      obtain ⟨⟨_, s0, s1, s2, s3, s4, _⟩, hfin⟩ := hroot w3 at3 ((y : Int) - 1) (by omega) (by unfold I64; omega) hk3.dc hk3.kept w9 hw9
      rw [← hw9.out]
      exact bodyPost_ret (v := (GG.mk ⟨(y : Int) - 1, g.root.num, g.root.text, g.root.node⟩ g.nodes).val na nc) (by simp [results, Try.results76, go_sem, s0, s1, s2, s3, s4, GG.val, ← hn.out]) rfl (by rw [← hn.out]; exact hfin)
  · have hd : ((n : Int) == 0) = false := by simp; omega
    obtain ⟨hO, hnt, hvt⟩ := hO.resolve_left (fun e => by have h1 := hn.out; rw [e] at h1; simp at h1; omega)
    go_wp2_with (go_at_call_of 52 ((5 : Int)); refine (l6pick_of b sa bs cap at_ 5 5 w1 rfl hD1 (by omega) (by omega) (by omega)).mono ?_; rintro e w2 ⟨x, at2, hx, ha2, rfl, hk2⟩; have hX2 := hX1.kept hk2.kept (by omega); have hF2 := hF0.kept hk2.kept (by omega); obtain ⟨yz, y0, y1, y2, y3, y4, yf⟩ := id hX2; obtain rfl | hx1 := eqz x)
    · refine (l6pick_of b sa bs cap at2 7 7 w2 rfl hk2.dc (by omega) (by omega) (by omega)).mono ?_
      rintro e w3 ⟨y, at3, hy, ha3, rfl, hk3⟩
      have hX3 := hX2.kept hk3.kept (by omega)
      have hF3 := hF2.kept hk3.kept (by omega)
      clear yz y0 y1 y2 y3 y4 yf
      obtain ⟨yz, y0, y1, y2, y3, y4, yf⟩ := id hX3
      obtain ⟨rz, r0, r1, r2, r3, r4, rf_⟩ := id hF3
      go_wp2
      obtain ⟨w9, hw9⟩ : ∃ w9, Hid (w9 = ((((((w3.setCell ⟨w.heap.size, 0, none⟩ (.int .i64 ((y : Int) - 1))).setCell ⟨w.heap.size + 1, 0, none⟩ (.int .i64 ((y : Int) - 1))).setCell ⟨w.heap.size + 1, 1, none⟩ (.int .i64 g.root.num)).setCell ⟨w.heap.size + 1, 2, none⟩ (.string g.root.text)).setCell ⟨w.heap.size + 1, 3, none⟩ (.int .i64 g.root.node)).setCell ⟨w.heap.size + 1, 4, none⟩ (.slice na n nc))) := ⟨_, rfl⟩
      obtain ⟨⟨_, s0, s1, s2, s3, s4, _⟩, hfin⟩ := hroot w3 at3 ((y : Int) - 1) (by omega) (by unfold I64; omega) hk3.dc (hk2.kept.trans hk3.kept (fun _ _ e => e)) w9 hw9
      rw [← hw9.out]
      exact bodyPost_ret (v := (GG.mk ⟨(y : Int) - 1, g.root.num, g.root.text, g.root.node⟩ g.nodes).val na nc) (by simp [results, Try.results76, go_sem, s0, s1, s2, s3, s4, GG.val, ← hn.out]) rfl (by rw [← hn.out]; exact hfin)
    · refine (l6pick_of b sa bs cap at2 n _ w2 rfl hk2.dc (by omega) (by omega) (by omega)).mono ?_
      rintro e w3 ⟨i, at3, hi, ha3, rfl, hk3⟩
      have hX3 := hX2.kept hk3.kept (by omega)
      have hF3 := hF2.kept hk3.kept (by omega)
      have hlen : nl.length = n := by rw [hn.out, ← hnl, List.length_map]
      have hK3 : Kept (fun k => k = b) w w3 := ((hK1.mono (fun _ _ e => e.elim)).trans hk2.kept (fun _ _ e => e)).trans hk3.kept (fun _ _ e => e)
      have hnb : ∀ j, na = some ⟨j, 0, none⟩ → base ≤ j ∧ j < w.heap.size := fun j e => hO.nodes.lt j (by rw [e]; rfl)
      have hvb : ∀ x, x ∈ nl → ∀ j, x.a = some ⟨j, 0, none⟩ → base ≤ j ∧ j < w.heap.size := fun x hx j e => (hO.vals x hx).lt j (by rw [e]; rfl)
      have hO3 := hO.kept hK3 (fun j e hp => by have := hnb j e; omega) (fun x hx j e hp => by have := hvb x hx j e; omega)
      clear yz y0 y1 y2 y3 y4 yf
      obtain ⟨yz, y0, y1, y2, y3, y4, yf⟩ := id hX3
      obtain ⟨X, N, hX, hXm, rfl, cN0, cN1⟩ := hO3.get (k := i) (by omega)
      have hend : ∀ (w8 : World) (at8 : Nat) (nl' : List NL), at8 ≤ at_ + 12 → nl'.length = n → (∀ x, x ∈ nl' → x.n.Ok ∧ ∀ j, x.a = some ⟨j, 0, none⟩ → j < w.heap.size ∧ j < top) → OwnG w8 base (some ⟨N, 0, none⟩) nc nl' → DC w8 b sa bs cap at8 → Kept (fun k => k = b ∨ (base ≤ k ∧ k < top)) w w8 → Five w8 (w.heap.size + 1) ⟨0, 0, ⟨#[]⟩, 0⟩ (.slice none 0 0) →
          ∀ w9, Hid (w9 = (((((w8.setCell ⟨w.heap.size + 1, 0, none⟩ (.int .i64 g.root.kind)).setCell ⟨w.heap.size + 1, 1, none⟩ (.int .i64 g.root.num)).setCell ⟨w.heap.size + 1, 2, none⟩ (.string g.root.text)).setCell ⟨w.heap.size + 1, 3, none⟩ (.int .i64 g.root.node)).setCell ⟨w.heap.size + 1, 4, none⟩ (.slice (some ⟨N, 0, none⟩) n nc))) →
          Five w9 (w.heap.size + 1) g.root (.slice (some ⟨N, 0, none⟩) n nc) ∧ SpoilD w b base top sa bs cap at_ (some ⟨N, 0, none⟩) nc n (.returned ((GG.mk g.root (nl'.map (·.n))).val (some ⟨N, 0, none⟩) nc)) w9 := by
        intro w8 at8 nl' ha8 hl8 hall hO8 hd8 hK8 hF8 w9 hw9
        have hw9 := hw9.out
        subst hw9
        have hKa : Kept (fun k => k = w.heap.size + 1) w8 (((((w8.setCell ⟨w.heap.size + 1, 0, none⟩ (.int .i64 g.root.kind)).setCell ⟨w.heap.size + 1, 1, none⟩ (.int .i64 g.root.num)).setCell ⟨w.heap.size + 1, 2, none⟩ (.string g.root.text)).setCell ⟨w.heap.size + 1, 3, none⟩ (.int .i64 g.root.node)).setCell ⟨w.heap.size + 1, 4, none⟩ (.slice (some ⟨N, 0, none⟩) n nc)) := (((((Kept.refl (fun k => k = w.heap.size + 1) w8).set (fun _ => rfl) _).set (fun _ => rfl) _).set (fun _ => rfl) _).set (fun _ => rfl) _).set (fun _ => rfl) _
        have hm9 : (nl'.map (·.n)).length = n := by rw [List.length_map]; exact hl8
        refine ⟨(hF8.rootS g.root).set (s' := .slice (some ⟨N, 0, none⟩) n nc), ⟨g.root, nl'.map (·.n)⟩, nl', at8, rfl, ⟨hg.root, by show (nl'.map (·.n)).length ≤ maxLen; rw [hm9]; unfold maxLen; omega, fun y hy => ?_⟩, rfl, hm9, Or.inr ⟨hO8.kept hKa (fun j e hp => by have := hnb j e; omega) (fun x hx j e hp => by have := (hall x hx).2 j e; omega), fun x hx j e => ((hall x hx).2 j e).2⟩, ha8, hd8.kept hKa (by omega) (fun g off e hp => by have := hs g off e; omega), hK8.trans hKa (fun k hk e => by omega)⟩
        obtain ⟨x, hx, rfl⟩ := List.mem_map.1 hy
        exact (hall x hx).1
      have hXO : X.n.Ok := hg.nodes _ (by rw [← hnl]; exact List.mem_map.2 ⟨X, hXm, rfl⟩)
      have hXl : X.n.vals.length ≤ 100 := (okN_parts (hnodes X.n (by rw [← hnl]; exact List.mem_map.2 ⟨X, hXm, rfl⟩))).1
      obtain ⟨m, hm⟩ := hid_ex X.n.vals.length
      rw [← hm.out] at cN1 hXl
      have hi0 : (0 : Int) ≤ (i : Int) := by omega
      have hin : (i : Int) < (n : Int) := by omega
      go_upto_region 5 with fail
      go_cut [40] from 28 (fun v wc => ∃ (bb : Bool) (at4 : Nat), v = .bool bb ∧ (bb = false → 0 < m) ∧ at4 ≤ at_ + 6 ∧ DC wc b sa bs cap at4 ∧ Kept (fun k => k = b) w wc ∧ Kept (fun k => k = b) w3 wc)
      case first =>
        rcases Nat.eq_zero_or_pos m with hm0 | hm0
        · subst hm0
          go_wp2
          go_meet
          case rel => exact ⟨true, at3, rfl, fun e => (by cases e), by omega, hk3.dc, hK3, Kept.refl _ _⟩
        · have hd2 : ((m : Int) == 0) = false := by simp; omega
          go_wp2_with (go_at_call_of 52 ((4 : Int)); refine (l6pick_of b sa bs cap at3 4 4 w3 rfl hk3.dc (by omega) (by omega) (by omega)).mono ?_; rintro e w4 ⟨x4, at4, hx4, ha4, rfl, hk4⟩; obtain rfl | hx41 := eqz x4)
          all_goals go_meet
          · exact ⟨true, at4, rfl, fun e => (by cases e), by omega, hk4.dc, hK3.trans hk4.kept (fun _ _ e => e), hk4.kept⟩
          · exact ⟨false, at4, rfl, fun _ => hm0, by omega, hk4.dc, hK3.trans hk4.kept (fun _ _ e => e), hk4.kept⟩
      case rest =>
        obtain ⟨bb, at4, rfl, hbb, ha4, hd4, hKc, hKc3⟩ := hcut
        have hNb0 := hnb N rfl
        have cP0 := hKc3.cell cN0 (by omega)
        have cP1 := hKc3.cell cN1 (by omega)
        have hX4 := hX3.kept hKc3 (by omega)
        have hF4 := hF3.kept hKc3 (by omega)
        have hO4 := hO.kept hKc (fun j e hp => by have := hnb j e; omega) (fun x hx j e hp => by have := hvb x hx j e; omega)
        clear yz y0 y1 y2 y3 y4 yf cN0 cN1 hX3 hF3 hX2 hF2 hX1 hF0 hO3 hk3 hk2 hKc3 hK3
        obtain ⟨yz, y0, y1, y2, y3, y4, yf⟩ := id hX4
        cases bb with
        | true =>
          go_upto_region 6 with fail
          have hdr : Kept (fun k => k = b) wc wc.drew := (Kept.refl _ wc).drew
          have hSS : Five wc.drew w.heap.size g.root (.slice (some ⟨N, 0, none⟩) n nc) ∧ Five wc.drew (w.heap.size + 1) ⟨0, 0, ⟨#[]⟩, 0⟩ (.slice none 0 0) ∧ OwnG wc.drew base (some ⟨N, 0, none⟩) nc nl ∧ (∃ at5, at5 ≤ at_ + 8 ∧ DC wc.drew b sa bs cap at5) ∧ Kept (fun k => k = b) w wc.drew :=
            ⟨hX4.kept hdr (by omega), hF4.kept hdr (by omega), hO4.kept hdr (fun j e hp => by have := hnb j e; omega) (fun x hx j e hp => by have := hvb x hx j e; omega), ⟨at4, by omega, hd4.drewN 1⟩, hKc.trans hdr (fun _ _ e => e)⟩
          refine wp_regionU (fun u => Five u w.heap.size g.root (.slice (some ⟨N, 0, none⟩) n nc) ∧ Five u (w.heap.size + 1) ⟨0, 0, ⟨#[]⟩, 0⟩ (.slice none 0 0) ∧ OwnG u base (some ⟨N, 0, none⟩) nc nl ∧ (∃ at5, at5 ≤ at_ + 8 ∧ DC u b sa bs cap at5) ∧ Kept (fun k => k = b) w u) 10 (by kernel_rfl) hSS (fun hS0 => ?_)
          have hdd : DC wc.drew b sa bs cap at4 := hd4.drewN 1
          generalize wc.drew = wd at hSS hS0 hdr hdd ⊢
          obtain ⟨hXd, hFd, hOd, _, hKd⟩ := hSS
          refine anyU_take (i := 0) (v := ?_) rfl (by kernel_rfl) (by kernel_rfl) (by kernel_rfl) (by kernel_rfl) (fun _ _ _ h => h) (Or.inl ⟨by rfl, ?_⟩) hS0 ?_
          rotate_left
          · intro u hSu; obtain ⟨⟨_, s0, s1, s2, s3, s4, _⟩, _⟩ := hSu; go_simp <;> with_reducible rfl
          simp only [Act.put, List.getElem_toArray, List.getElem_cons_zero, List.setIfInBounds_toArray, List.set_cons_zero, List.set_cons_succ]
          refine anyU_take (i := 1) (v := ?_) rfl (by kernel_rfl) (by kernel_rfl) (by kernel_rfl) (by kernel_rfl) (fun _ _ _ h => h) (Or.inl ⟨by rfl, ?_⟩) hS0 ?_
          rotate_left
          · intro u hSu; obtain ⟨⟨_, s0, s1, s2, s3, s4, _⟩, _⟩ := hSu; go_simp <;> with_reducible rfl
          simp only [Act.put, List.getElem_toArray, List.getElem_cons_zero, List.getElem_cons_succ, List.setIfInBounds_toArray, List.set_cons_zero, List.set_cons_succ]
          refine anyU_take (i := 2) (v := ?_) rfl (by kernel_rfl) (by kernel_rfl) (by kernel_rfl) (by kernel_rfl) (fun _ _ _ h => h) (Or.inl ⟨by rfl, ?_⟩) hS0 ?_
          rotate_left
          · intro u hSu; obtain ⟨⟨_, s0, s1, s2, s3, s4, _⟩, _⟩ := hSu; go_simp <;> with_reducible rfl
          simp only [Act.put, List.getElem_toArray, List.getElem_cons_zero, List.getElem_cons_succ, List.setIfInBounds_toArray, List.set_cons_zero, List.set_cons_succ]
          refine anyU_take (i := 4) (v := ?_) rfl (by kernel_rfl) (by kernel_rfl) (by kernel_rfl) (by kernel_rfl) (fun _ _ _ h => h) (Or.inl ⟨by rfl, ?_⟩) hS0 ?_
          rotate_left
          · intro u hSu; obtain ⟨⟨_, s0, s1, s2, s3, s4, _⟩, _⟩ := hSu; go_simp <;> with_reducible rfl
          simp only [Act.put, List.getElem_toArray, List.getElem_cons_zero, List.getElem_cons_succ, List.setIfInBounds_toArray, List.set_cons_zero, List.set_cons_succ]
          have hsz := hKd.size
          refine anyU_two (i := 3) (j := 5) (by kernel_rfl) rfl rfl (fun K hK => ?_) (fun K hK => ?_)
          · go_simp
            have hKL : Kept (fun k => k = b) wd (wd.alloc (.cells #[.int .i64 (-1), .int .i64 0, .int .i64 1000, .int .i64 1001] 3)) := (Kept.refl _ wd).alloc _
            have e0 : (wd.alloc (.cells #[.int .i64 (-1), .int .i64 0, .int .i64 1000, .int .i64 1001] 3)).cell? ⟨wd.heap.size, 0, none⟩ = some (.int .i64 (-1)) := by simp [go_sem]
            have e1 : (wd.alloc (.cells #[.int .i64 (-1), .int .i64 0, .int .i64 1000, .int .i64 1001] 3)).cell? ⟨wd.heap.size, 1, none⟩ = some (.int .i64 0) := by simp [go_sem]
            have e2 : (wd.alloc (.cells #[.int .i64 (-1), .int .i64 0, .int .i64 1000, .int .i64 1001] 3)).cell? ⟨wd.heap.size, 2, none⟩ = some (.int .i64 1000) := by simp [go_sem]
            have e3 : (wd.alloc (.cells #[.int .i64 (-1), .int .i64 0, .int .i64 1000, .int .i64 1001] 3)).cell? ⟨wd.heap.size, 3, none⟩ = some (.int .i64 1001) := by simp [go_sem]
            have hX6 := hXd.kept hKL (by omega)
            have hF6 := hFd.kept hKL (by omega)
            have hO6 := hOd.kept hKL (fun j e hp => by have := hnb j e; omega) (fun x hx j e hp => by have := hvb x hx j e; omega)
            have hK6 := hKd.trans hKL (fun _ _ e => e)
            have hd6 := hdd.kept ((Kept.refl (fun _ => False) wd).alloc (.cells #[.int .i64 (-1), .int .i64 0, .int .i64 1000, .int .i64 1001] 3)) (fun e => e) (fun _ _ _ e => e)
            refine hK.out _ _ ⟨hX6, hF6, hO6, ⟨at4, by omega, hd6⟩, hK6⟩ ?_
            clear hK
            generalize wd.alloc (.cells #[.int .i64 (-1), .int .i64 0, .int .i64 1000, .int .i64 1001] 3) = w6 at e0 e1 e2 e3 hX6 hF6 hO6 hK6 hd6 hKL ⊢
            generalize hL : wd.heap.size = L at e0 e1 e2 e3 ⊢
            refine anyU_one (i := 5) (by kernel_rfl) rfl (fun K hK => ?_)
            go_simp
            refine (l6pick_of b sa bs cap at4 4 4 w6 rfl hd6 (by omega) (by omega) (by omega)).mono ?_
            rintro e w7 ⟨x6, at7, hx6, ha7, rfl, hk7⟩
            have hX7 := hX6.kept hk7.kept (by omega)
            have hF7 := hF6.kept hk7.kept (by omega)
            have hO7 := hO6.kept hk7.kept (fun j e hp => by have := hnb j e; omega) (fun x hx j e hp => by have := hvb x hx j e; omega)
            have hK7 := hK6.trans hk7.kept (fun _ _ e => e)
            have hd7 := hk7.dc
            have ha7 : at7 ≤ at_ + 8 := by omega
            have c0 := hk7.kept.cell e0 (by omega)
            have c1 := hk7.kept.cell e1 (by omega)
            have c2 := hk7.kept.cell e2 (by omega)
            have c3 := hk7.kept.cell e3 (by omega)
            refine hK.out _ _ ⟨hX7, hF7, hO7, ⟨at7, ha7, hd7⟩, hK7⟩ ?_
            clear hK
            have cL : ∃ z : Int, I64 z ∧ w7.cell? ⟨L, x6, none⟩ = some (.int .i64 z) := by
              rcases (by omega : x6 = 0 ∨ x6 = 1 ∨ x6 = 2 ∨ x6 = 3) with rfl | rfl | rfl | rfl
              · exact ⟨-1, by unfold I64; omega, c0⟩
              · exact ⟨0, by unfold I64; omega, c1⟩
              · exact ⟨1000, by unfold I64; omega, c2⟩
              · exact ⟨1001, by unfold I64; omega, c3⟩
            obtain ⟨z, hz, cz⟩ := cL
            have hx0 : (0 : Int) ≤ (x6 : Int) := by omega
            have hx4i : (x6 : Int) < 4 := by omega
            refine anyU_one (i := 6) (by kernel_rfl) rfl (fun K hK => ?_)
            go_simp
            refine hK.out _ _ ⟨hX7, hF7, hO7, ⟨at7, ha7, hd7⟩, hK7⟩ ?_
            clear hK
            refine anyU_one (i := 7) (by kernel_rfl) rfl (fun K hK => ?_)
            go_simp
            refine hK.out _ _ ⟨hX7, hF7, hO7, ⟨at7, ha7, hd7⟩, hK7⟩ ?_
            clear hK
            refine anyU_one (i := 8) (by kernel_rfl) rfl (fun K hK => ?_)
            go_simp
            refine hK.out _ _ ⟨hX7, hF7, hO7, ⟨at7, ha7, hd7⟩, hK7⟩ ?_
            clear hK
            refine anyU_one (i := 9) (by kernel_rfl) rfl (fun K hK => ?_)
            go_simp
            refine hK.out _ _ ⟨hX7, hF7, hO7, ⟨at7, ha7, hd7⟩, hK7⟩ ?_
            clear hK
            have cN0 := hO7.nodes.cellAt (i * 2) (by omega)
            obtain ⟨z0, hz0'⟩ : ∃ z0, (nodeCells nl)[i * 2]? = some z0 := ⟨_, List.getElem?_eq_getElem (by rw [nodeCells_len]; omega)⟩
            rw [hz0'] at cN0
            have fN0 := hO7.nodes.frozenAt (i * 2)
            refine anyU_last (by kernel_rfl) rfl (by kernel_rfl) (fun K hK => ?_)
            go_simp
            refine hK.out _ _ ?_
            clear hK
            have hO8 := hO7.tag (t := i) (by omega) z
            have hKN : Kept (fun k => k = N) w7 (w7.setCell ⟨N, i * 2, none⟩ (.int .i64 z)) := (Kept.refl (fun k => k = N) w7).set (a := ⟨N, i * 2, none⟩) (fun _ => rfl) _
            have hNb := hnb N rfl
            have hNt := hnt N rfl
            have hX8 := hX7.kept hKN (by omega)
            have hF8 := hF7.kept hKN (by omega)
            have hd8 := hd7.kept hKN (by omega) (fun g off e hp => by have := hs g off e; omega)
            have hK8 : Kept (fun k => k = b ∨ (base ≤ k ∧ k < top)) w (w7.setCell ⟨N, i * 2, none⟩ (.int .i64 z)) := (hK7.mono (fun _ _ e => Or.inl e)).trans hKN (fun k _ e => by omega)
            have hX' := hX.out
            rw [← hX'] at hO8
            generalize w7.setCell ⟨N, i * 2, none⟩ (.int .i64 z) = w8 at hO8 hX8 hF8 hd8 hK8 ⊢
            clear yz y0 y1 y2 y3 y4 yf
            obtain ⟨yz, y0, y1, y2, y3, y4, yf⟩ := id hX8
            obtain ⟨rz, r0, r1, r2, r3, r4, rf_⟩ := id hF8
            go_wp2
            obtain ⟨w9, hw9⟩ : ∃ w9, Hid (w9 = (((((w8.setCell ⟨w.heap.size + 1, 0, none⟩ (.int .i64 g.root.kind)).setCell ⟨w.heap.size + 1, 1, none⟩ (.int .i64 g.root.num)).setCell ⟨w.heap.size + 1, 2, none⟩ (.string g.root.text)).setCell ⟨w.heap.size + 1, 3, none⟩ (.int .i64 g.root.node)).setCell ⟨w.heap.size + 1, 4, none⟩ (.slice (some ⟨N, 0, none⟩) n nc))) := ⟨_, rfl⟩
            obtain ⟨⟨_, s0, s1, s2, s3, s4, _⟩, hfin⟩ := hend w8 at7 (nl.set i ⟨⟨z, X.n.vals⟩, X.a, X.cap⟩) (by omega) (by rw [List.length_set]; exact hlen) (fun y hy => by
              rcases List.mem_or_eq_of_mem_set hy with h1 | rfl
              · exact ⟨hg.nodes _ (by rw [← hnl]; exact List.mem_map.2 ⟨y, h1, rfl⟩), fun j e => ⟨(hvb y h1 j e).2, hvt y h1 j e⟩⟩
              · exact ⟨⟨hz, hXO.len, hXO.vals⟩, fun j e => ⟨(hvb X hXm j e).2, hvt X hXm j e⟩⟩) hO8 hd8 hK8 hF8 w9 hw9
            rw [← hw9.out]
            exact bodyPost_ret (v := (GG.mk g.root ((nl.set i ⟨⟨z, X.n.vals⟩, X.a, X.cap⟩).map (·.n))).val (some ⟨N, 0, none⟩) nc) (by simp [results, Try.results76, go_sem, s0, s1, s2, s3, s4, GG.val, hlen]) rfl (by rw [← hn.out]; exact hfin)
          · go_simp
            refine (l6pick_of b sa bs cap at4 4 4 wd rfl hdd (by omega) (by omega) (by omega)).mono ?_
            rintro e w6 ⟨x6, at7, hx6, ha6, rfl, hk6⟩
            have ha7 : at7 ≤ at_ + 8 := by omega
            have hX6 := hXd.kept hk6.kept (by omega)
            have hF6 := hFd.kept hk6.kept (by omega)
            have hO6 := hOd.kept hk6.kept (fun j e hp => by have := hnb j e; omega) (fun x hx j e hp => by have := hvb x hx j e; omega)
            have hK6 := hKd.trans hk6.kept (fun _ _ e => e)
            have hs6 := hk6.kept.size
            refine hK.out _ _ ⟨hX6, hF6, hO6, ⟨at7, ha7, hk6.dc⟩, hK6⟩ ?_
            clear hK
            refine anyU_one (i := 3) (by kernel_rfl) rfl (fun K hK => ?_)
            go_simp
            have hKL : Kept (fun k => k = b) w6 (w6.alloc (.cells #[.int .i64 (-1), .int .i64 0, .int .i64 1000, .int .i64 1001] 3)) := (Kept.refl _ w6).alloc _
            have c0 : (w6.alloc (.cells #[.int .i64 (-1), .int .i64 0, .int .i64 1000, .int .i64 1001] 3)).cell? ⟨w6.heap.size, 0, none⟩ = some (.int .i64 (-1)) := by simp [go_sem]
            have c1 : (w6.alloc (.cells #[.int .i64 (-1), .int .i64 0, .int .i64 1000, .int .i64 1001] 3)).cell? ⟨w6.heap.size, 1, none⟩ = some (.int .i64 0) := by simp [go_sem]
            have c2 : (w6.alloc (.cells #[.int .i64 (-1), .int .i64 0, .int .i64 1000, .int .i64 1001] 3)).cell? ⟨w6.heap.size, 2, none⟩ = some (.int .i64 1000) := by simp [go_sem]
            have c3 : (w6.alloc (.cells #[.int .i64 (-1), .int .i64 0, .int .i64 1000, .int .i64 1001] 3)).cell? ⟨w6.heap.size, 3, none⟩ = some (.int .i64 1001) := by simp [go_sem]
            have hX7 := hX6.kept hKL (by omega)
            have hF7 := hF6.kept hKL (by omega)
            have hO7 := hO6.kept hKL (fun j e hp => by have := hnb j e; omega) (fun x hx j e hp => by have := hvb x hx j e; omega)
            have hK7 := hK6.trans hKL (fun _ _ e => e)
            have hd7 := hk6.dc.kept ((Kept.refl (fun _ => False) w6).alloc (.cells #[.int .i64 (-1), .int .i64 0, .int .i64 1000, .int .i64 1001] 3)) (fun e => e) (fun _ _ _ e => e)
            refine hK.out _ _ ⟨hX7, hF7, hO7, ⟨at7, ha7, hd7⟩, hK7⟩ ?_
            clear hK
            generalize w6.alloc (.cells #[.int .i64 (-1), .int .i64 0, .int .i64 1000, .int .i64 1001] 3) = w7 at c0 c1 c2 c3 hX7 hF7 hO7 hK7 hd7 hKL ⊢
            generalize hL : w6.heap.size = L at c0 c1 c2 c3 ⊢
            have cL : ∃ z : Int, I64 z ∧ w7.cell? ⟨L, x6, none⟩ = some (.int .i64 z) := by
              rcases (by omega : x6 = 0 ∨ x6 = 1 ∨ x6 = 2 ∨ x6 = 3) with rfl | rfl | rfl | rfl
              · exact ⟨-1, by unfold I64; omega, c0⟩
              · exact ⟨0, by unfold I64; omega, c1⟩
              · exact ⟨1000, by unfold I64; omega, c2⟩
              · exact ⟨1001, by unfold I64; omega, c3⟩
            obtain ⟨z, hz, cz⟩ := cL
            have hx0 : (0 : Int) ≤ (x6 : Int) := by omega
            have hx4i : (x6 : Int) < 4 := by omega
            refine anyU_one (i := 6) (by kernel_rfl) rfl (fun K hK => ?_)
            go_simp
            refine hK.out _ _ ⟨hX7, hF7, hO7, ⟨at7, ha7, hd7⟩, hK7⟩ ?_
            clear hK
            refine anyU_one (i := 7) (by kernel_rfl) rfl (fun K hK => ?_)
            go_simp
            refine hK.out _ _ ⟨hX7, hF7, hO7, ⟨at7, ha7, hd7⟩, hK7⟩ ?_
            clear hK
            refine anyU_one (i := 8) (by kernel_rfl) rfl (fun K hK => ?_)
            go_simp
            refine hK.out _ _ ⟨hX7, hF7, hO7, ⟨at7, ha7, hd7⟩, hK7⟩ ?_
            clear hK
            refine anyU_one (i := 9) (by kernel_rfl) rfl (fun K hK => ?_)
            go_simp
            refine hK.out _ _ ⟨hX7, hF7, hO7, ⟨at7, ha7, hd7⟩, hK7⟩ ?_
            clear hK
            have cN0 := hO7.nodes.cellAt (i * 2) (by omega)
            obtain ⟨z0, hz0'⟩ : ∃ z0, (nodeCells nl)[i * 2]? = some z0 := ⟨_, List.getElem?_eq_getElem (by rw [nodeCells_len]; omega)⟩
            rw [hz0'] at cN0
            have fN0 := hO7.nodes.frozenAt (i * 2)
            refine anyU_last (by kernel_rfl) rfl (by kernel_rfl) (fun K hK => ?_)
            go_simp
            refine hK.out _ _ ?_
            clear hK
            have hO8 := hO7.tag (t := i) (by omega) z
            have hKN : Kept (fun k => k = N) w7 (w7.setCell ⟨N, i * 2, none⟩ (.int .i64 z)) := (Kept.refl (fun k => k = N) w7).set (a := ⟨N, i * 2, none⟩) (fun _ => rfl) _
            have hNb := hnb N rfl
            have hNt := hnt N rfl
            have hX8 := hX7.kept hKN (by omega)
            have hF8 := hF7.kept hKN (by omega)
            have hd8 := hd7.kept hKN (by omega) (fun g off e hp => by have := hs g off e; omega)
            have hK8 : Kept (fun k => k = b ∨ (base ≤ k ∧ k < top)) w (w7.setCell ⟨N, i * 2, none⟩ (.int .i64 z)) := (hK7.mono (fun _ _ e => Or.inl e)).trans hKN (fun k _ e => by omega)
            have hX' := hX.out
            rw [← hX'] at hO8
            generalize w7.setCell ⟨N, i * 2, none⟩ (.int .i64 z) = w8 at hO8 hX8 hF8 hd8 hK8 ⊢
            clear yz y0 y1 y2 y3 y4 yf
            obtain ⟨yz, y0, y1, y2, y3, y4, yf⟩ := id hX8
            obtain ⟨rz, r0, r1, r2, r3, r4, rf_⟩ := id hF8
            go_wp2
            obtain ⟨w9, hw9⟩ : ∃ w9, Hid (w9 = (((((w8.setCell ⟨w.heap.size + 1, 0, none⟩ (.int .i64 g.root.kind)).setCell ⟨w.heap.size + 1, 1, none⟩ (.int .i64 g.root.num)).setCell ⟨w.heap.size + 1, 2, none⟩ (.string g.root.text)).setCell ⟨w.heap.size + 1, 3, none⟩ (.int .i64 g.root.node)).setCell ⟨w.heap.size + 1, 4, none⟩ (.slice (some ⟨N, 0, none⟩) n nc))) := ⟨_, rfl⟩
            obtain ⟨⟨_, s0, s1, s2, s3, s4, _⟩, hfin⟩ := hend w8 at7 (nl.set i ⟨⟨z, X.n.vals⟩, X.a, X.cap⟩) (by omega) (by rw [List.length_set]; exact hlen) (fun y hy => by
              rcases List.mem_or_eq_of_mem_set hy with h1 | rfl
              · exact ⟨hg.nodes _ (by rw [← hnl]; exact List.mem_map.2 ⟨y, h1, rfl⟩), fun j e => ⟨(hvb y h1 j e).2, hvt y h1 j e⟩⟩
              · exact ⟨⟨hz, hXO.len, hXO.vals⟩, fun j e => ⟨(hvb X hXm j e).2, hvt X hXm j e⟩⟩) hO8 hd8 hK8 hF8 w9 hw9
            rw [← hw9.out]
            exact bodyPost_ret (v := (GG.mk g.root ((nl.set i ⟨⟨z, X.n.vals⟩, X.a, X.cap⟩).map (·.n))).val (some ⟨N, 0, none⟩) nc) (by simp [results, Try.results76, go_sem, s0, s1, s2, s3, s4, GG.val, hlen]) rfl (by rw [← hn.out]; exact hfin)
        | false =>
          have hm0 := hbb rfl
          go_upto_region 10 with (go_at_call_of 52 ((m : Int)); refine (l6pick_of b sa bs cap at4 m _ wc rfl hd4 (by omega) (by omega) (by omega)).mono ?_; rintro e w5 ⟨k, at5, hk, ha5, rfl, hk5⟩; have hX5 := hX4.kept hk5.kept (by omega); have hF5 := hF4.kept hk5.kept (by omega); have hK5 := hKc.trans hk5.kept (fun _ _ e => e); have hO5 := hO.kept hK5 (fun j e hp => by have := hnb j e; omega) (fun x hx j e hp => by have := hvb x hx j e; omega); obtain ⟨v, V, hv, hvm, hXa, d0, d1, d2, d3⟩ := hO5.vget hXm (k := k) (by rw [← hm.out]; exact hk); have cQ1 := hk5.kept.cell cP1 (by omega); rw [hXa] at cQ1; have hki0 : (0 : Int) ≤ (k : Int) := (by omega); have hki : (k : Int) < (m : Int) := (by omega); obtain ⟨zz, z0, z1, z2, z3, z4, zf⟩ := id hX5)
          have hVb := hvb X hXm V hXa
          have hVt := hvt X hXm V hXa
          have hVO : v.Ok := hXO.vals v hvm
          have hP6 := Four.new w5 v 24
          have hA6 : Kept (fun _ => False) w5 (w5.alloc (.cells #[.int .i64 v.kind, .int .i64 v.num, .string v.text, .int .i64 v.node] 24)) := (Kept.refl _ w5).alloc _
          have hd6 := hk5.dc.kept hA6 (fun e => e) (fun _ _ _ e => e)
          have hK56 : Kept (fun k => k = b) w5 (w5.alloc (.cells #[.int .i64 v.kind, .int .i64 v.num, .string v.text, .int .i64 v.node] 24)) := (Kept.refl _ w5).alloc _
          have hs5 := hK5.size
          have hs6 : ((w5.alloc (.cells #[.int .i64 v.kind, .int .i64 v.num, .string v.text, .int .i64 v.node] 24))).heap.size = w5.heap.size + 1 := by simp
          generalize (w5.alloc (.cells #[.int .i64 v.kind, .int .i64 v.num, .string v.text, .int .i64 v.node] 24)) = w6 at hP6 hA6 hd6 hK56 hs6 ⊢
          obtain ⟨P, hP⟩ := hid_ex w5.heap.size
          rw [← hP.out] at hP6 hs6 ⊢
          have hPw : w.heap.size ≤ P := by rw [hP.out]; exact hs5
          have hPR : w.heap.size + 1 < P := by rw [hP.out]; exact hF5.lt
          have hK6 : Kept (fun k => k = b) w w6 := hK5.trans hK56 (fun _ _ e => e)
          have hK6c : Kept (fun k => k = b) w5 w6 := hK56
          have hX6 := hX5.kept hA6 (fun e => e)
          have hF6 := hF5.kept hA6 (fun e => e)
          clear d0 d1 d2 d3 zz z0 z1 z2 z3 z4 zf yz y0 y1 y2 y3 y4 yf hX5 hF5 hX4 hF4 hO5 hO4 cP0 cP1 hk5 hKc hd4 hA6 hK56
          go_upto_if 73 with (go_at_call_of 52 ((4 : Int)); refine (l6pick_of b sa bs cap at5 4 4 w6 rfl hd6 (by omega) (by omega) (by omega)).mono ?_; rintro e w7 ⟨x7, at7, hx7, ha7, rfl, hk7⟩)
          have hP7 := hP6.kept hk7.kept (by omega)
          obtain ⟨pz, p0, p1, p2, p3, pf⟩ := id hP7
          have hKw : ∀ {u : World} (o : Nat) (y : Value), Kept (fun k => k = b ∨ k = P) u (u.setCell ⟨P, o, none⟩ y) := fun o y => (Kept.refl (fun k => k = b ∨ k = P) _).set (a := ⟨P, o, none⟩) (fun _ => Or.inr rfl) y
          have hDw : ∀ {u : World} {at9 : Nat} (o : Nat) (y : Value), DC u b sa bs cap at9 → DC (u.setCell ⟨P, o, none⟩ y) b sa bs cap at9 := fun {u at9} o y h => h.kept ((Kept.refl (fun k => k = P) u).set (a := ⟨P, o, none⟩) (fun _ => rfl) y) (by omega) (fun g off e hp => by have := hs g off e; omega)
          have hK67 : Kept (fun k => k = b ∨ k = P) w6 w7 := hk7.kept.mono (fun _ _ e => Or.inl e)
          obtain rfl | rfl | rfl | rfl : x7 = 0 ∨ x7 = 1 ∨ x7 = 2 ∨ x7 = 3 := by omega
          · go_upto_region 18 with (go_at_call_of 52 ((7 : Int)); refine (l6pick_of b sa bs cap at7 7 7 w7 rfl hk7.dc (by omega) (by omega) (by omega)).mono ?_; rintro e w8 ⟨y, at8, hy, ha8, rfl, hk8⟩; have hP8 := hP7.kept hk8.kept (by omega); obtain ⟨qz, q0, q1, q2, q3, qf⟩ := id hP8)
            have hP9 := hP8.setF0 ((y : Int) - 1)
            have hv'O : GV.Ok ⟨(y : Int) - 1, v.num, v.text, v.node⟩ := ⟨by show I64 ((y : Int) - 1); unfold I64; omega, hVO.num, hVO.text, hVO.node⟩
            have hd9 := hDw 0 (.int .i64 ((y : Int) - 1)) hk8.dc
            have hKz := (hK67.trans (hk8.kept.mono (fun _ _ e => Or.inl e)) (fun _ _ e => e)).trans (hKw 0 (.int .i64 ((y : Int) - 1))) (fun _ _ e => e)
            have ha8 : at8 ≤ at_ + 12 := by omega
            generalize w8.setCell ⟨P, 0, none⟩ (.int .i64 ((y : Int) - 1)) = wc at hP9 hd9 hKz ⊢
            clear pz p0 p1 p2 p3 pf
            obtain ⟨v', hv'⟩ : ∃ v' : GV, v' = ⟨(y : Int) - 1, v.num, v.text, v.node⟩ := ⟨_, rfl⟩
            rw [← hv'] at hP9 hv'O
            clear hv'
            have hXz := hX6.kept hKz (by omega)
            have hFz := hF6.kept hKz (by omega)
            have hOz := (hO.kept hK6 (fun j e hp => by have := hnb j e; omega) (fun x hx j e hp => by have := hvb x hx j e; omega)).kept hKz (fun j e hp => by have := hnb j e; omega) (fun x hx j e hp => by have := hvb x hx j e; omega)
            have hK8 : Kept (fun k => k = b ∨ (base ≤ k ∧ k < top)) w wc := (hK6.mono (fun _ _ e => Or.inl e)).trans hKz (fun k hk e => by omega)
            have cW1 := hKz.cell (hK6c.cell cQ1 (by omega)) (by omega)
            have hdr : Kept (fun _ => False) wc wc.drew := (Kept.refl _ wc).drew
            have hSS : Five wc.drew w.heap.size g.root (.slice (some ⟨N, 0, none⟩) n nc) ∧ Four wc.drew P v' ∧ wc.drew.cell? ⟨N, i * 2 + 1, none⟩ = some (.slice (some ⟨V, 0, none⟩) m X.cap) := ⟨hXz.kept hdr (fun e => e), hP9.kept hdr (fun e => e), hdr.cell cW1 (fun e => e)⟩
            refine wp_regionU (fun u => Five u w.heap.size g.root (.slice (some ⟨N, 0, none⟩) n nc) ∧ Four u P v' ∧ u.cell? ⟨N, i * 2 + 1, none⟩ = some (.slice (some ⟨V, 0, none⟩) m X.cap)) 9 (by kernel_rfl) hSS (fun hS0 => ?_)
            refine anyU_take (i := 0) (v := ?_) rfl (by kernel_rfl) (by kernel_rfl) (by kernel_rfl) (by kernel_rfl) (fun _ _ _ h => h) (Or.inl ⟨by rfl, ?_⟩) hS0 ?_
            rotate_left
            · intro u hSu; obtain ⟨⟨_, s0, s1, s2, s3, s4, _⟩, ⟨_, t0, t1, t2, t3, _⟩, u0⟩ := hSu; go_simp <;> with_reducible rfl
            simp only [Act.put, List.getElem_toArray, List.getElem_cons_zero, List.setIfInBounds_toArray, List.set_cons_zero, List.set_cons_succ]
            refine anyU_take (i := 1) (v := ?_) rfl (by kernel_rfl) (by kernel_rfl) (by kernel_rfl) (by kernel_rfl) (fun _ _ _ h => h) (Or.inl ⟨by rfl, ?_⟩) hS0 ?_
            rotate_left
            · intro u hSu; obtain ⟨⟨_, s0, s1, s2, s3, s4, _⟩, ⟨_, t0, t1, t2, t3, _⟩, u0⟩ := hSu; go_simp <;> with_reducible rfl
            simp only [Act.put, List.getElem_toArray, List.getElem_cons_zero, List.getElem_cons_succ, List.setIfInBounds_toArray, List.set_cons_zero, List.set_cons_succ]
            refine anyU_take (i := 2) (v := ?_) rfl (by kernel_rfl) (by kernel_rfl) (by kernel_rfl) (by kernel_rfl) (fun _ _ _ h => h) (Or.inl ⟨by rfl, ?_⟩) hS0 ?_
            rotate_left
            · intro u hSu; obtain ⟨⟨_, s0, s1, s2, s3, s4, _⟩, ⟨_, t0, t1, t2, t3, _⟩, u0⟩ := hSu; go_simp <;> with_reducible rfl
            simp only [Act.put, List.getElem_toArray, List.getElem_cons_zero, List.getElem_cons_succ, List.setIfInBounds_toArray, List.set_cons_zero, List.set_cons_succ]
            refine anyU_take (i := 3) (v := .pointer (some ⟨N, i * 2, none⟩)) rfl (by kernel_rfl) (by kernel_rfl) (by kernel_rfl) (by kernel_rfl) (fun _ _ _ h => h) (Or.inl ⟨by rfl, ?_⟩) hS0 ?_
            · intro u hSu; go_simp
            simp only [Act.put, List.getElem_toArray, List.getElem_cons_zero, List.getElem_cons_succ, List.setIfInBounds_toArray, List.set_cons_zero, List.set_cons_succ]
            refine anyU_take (i := 4) (v := ?_) rfl (by kernel_rfl) (by kernel_rfl) (by kernel_rfl) (by kernel_rfl) (fun _ _ _ h => h) (Or.inl ⟨by rfl, ?_⟩) hS0 ?_
            rotate_left
            · intro u hSu; obtain ⟨⟨_, s0, s1, s2, s3, s4, _⟩, ⟨_, t0, t1, t2, t3, _⟩, u0⟩ := hSu; go_simp <;> with_reducible rfl
            simp only [Act.put, List.getElem_toArray, List.getElem_cons_zero, List.getElem_cons_succ, List.setIfInBounds_toArray, List.set_cons_zero, List.set_cons_succ]
            refine anyU_take (i := 5) (v := ?_) rfl (by kernel_rfl) (by kernel_rfl) (by kernel_rfl) (by kernel_rfl) (fun _ _ _ h => h) (Or.inl ⟨by rfl, ?_⟩) hS0 ?_
            rotate_left
            · intro u hSu; obtain ⟨⟨_, s0, s1, s2, s3, s4, _⟩, ⟨_, t0, t1, t2, t3, _⟩, u0⟩ := hSu; go_simp <;> with_reducible rfl
            simp only [Act.put, List.getElem_toArray, List.getElem_cons_zero, List.getElem_cons_succ, List.setIfInBounds_toArray, List.set_cons_zero, List.set_cons_succ]
            refine anyU_take (i := 6) (v := ?_) rfl (by kernel_rfl) (by kernel_rfl) (by kernel_rfl) (by kernel_rfl) (fun _ _ _ h => h) (Or.inl ⟨by rfl, ?_⟩) hS0 ?_
            rotate_left
            · intro u hSu; obtain ⟨⟨_, s0, s1, s2, s3, s4, _⟩, ⟨_, t0, t1, t2, t3, _⟩, u0⟩ := hSu; go_simp <;> with_reducible rfl
            simp only [Act.put, List.getElem_toArray, List.getElem_cons_zero, List.getElem_cons_succ, List.setIfInBounds_toArray, List.set_cons_zero, List.set_cons_succ]
            refine anyU_take (i := 7) (v := ?_) rfl (by kernel_rfl) (by kernel_rfl) (by kernel_rfl) (by kernel_rfl) (fun _ _ _ h => h) (Or.inl ⟨by rfl, ?_⟩) hS0 ?_
            rotate_left
            · intro u hSu; obtain ⟨⟨_, s0, s1, s2, s3, s4, _⟩, ⟨_, t0, t1, t2, t3, _⟩, u0⟩ := hSu; go_simp <;> with_reducible rfl
            simp only [Act.put, List.getElem_toArray, List.getElem_cons_zero, List.getElem_cons_succ, List.setIfInBounds_toArray, List.set_cons_zero, List.set_cons_succ]
            refine anyU_take (i := 8) (v := .pointer (some ⟨V, k * 4, none⟩)) rfl (by kernel_rfl) (by kernel_rfl) (by kernel_rfl) (by kernel_rfl) (fun _ _ _ h => h) (Or.inl ⟨by rfl, ?_⟩) hS0 ?_
            · intro u hSu; go_simp
            simp only [Act.put, List.getElem_toArray, List.getElem_cons_zero, List.getElem_cons_succ, List.setIfInBounds_toArray, List.set_cons_zero, List.set_cons_succ]
            have hOd := hOz.kept hdr (fun _ _ e => e) (fun _ _ _ _ e => e)
            have hFd := hFz.kept hdr (fun e => e)
            have hdd := hd9.kept hdr (fun e => e) (fun _ _ _ e => e)
            have hKd := hK8.trans (hdr.mono (fun _ _ e => e.elim)) (fun _ _ e => e)
            have hXd := hSS.1
            generalize wc.drew = wz at hOd hFd hdd hKd hXd hS0 ⊢
            have hrow := hOd.vals X hXm
            rw [hXa] at hrow
            have hml : k < X.n.vals.length := by rw [← hm.out]; exact hk
            obtain ⟨v0, V0, _, _, hXa0, d0, d1, d2, d3⟩ := hOd.vget hXm hml
            obtain rfl : V = V0 := by rw [hXa] at hXa0; exact some_addr hXa0
            have fV := fun o => hrow.frozenAt o
            refine anyU_last (by kernel_rfl) rfl (by kernel_rfl) (fun K hK => ?_)
            go_simp
            refine hK.out _ _ ?_
            clear hK
            have hO9 := hOd.val (t := i) (by omega) (V := V) (by rw [← hX.out]; exact hXa) (k := k) (by rw [← hX.out]; exact hml) v'
            rw [← hX.out] at hO9
            have hKV : Kept (fun k => k = V) wz ((((wz.setCell ⟨V, k * 4, none⟩ (.int .i64 v'.kind)).setCell ⟨V, k * 4 + 1, none⟩ (.int .i64 v'.num)).setCell ⟨V, k * 4 + 2, none⟩ (.string v'.text)).setCell ⟨V, k * 4 + 3, none⟩ (.int .i64 v'.node)) := ((((Kept.refl (fun k => k = V) wz).set (fun _ => rfl) _).set (fun _ => rfl) _).set (fun _ => rfl) _).set (fun _ => rfl) _
            have hX9 := hXd.kept hKV (by omega)
            have hF9 := hFd.kept hKV (by omega)
            have hd9 := hdd.kept hKV (by omega) (fun g off e hp => by have := hs g off e; omega)
            have hK9 : Kept (fun k => k = b ∨ (base ≤ k ∧ k < top)) w ((((wz.setCell ⟨V, k * 4, none⟩ (.int .i64 v'.kind)).setCell ⟨V, k * 4 + 1, none⟩ (.int .i64 v'.num)).setCell ⟨V, k * 4 + 2, none⟩ (.string v'.text)).setCell ⟨V, k * 4 + 3, none⟩ (.int .i64 v'.node)) := hKd.trans hKV (fun k _ e => by omega)
            generalize ((((wz.setCell ⟨V, k * 4, none⟩ (.int .i64 v'.kind)).setCell ⟨V, k * 4 + 1, none⟩ (.int .i64 v'.num)).setCell ⟨V, k * 4 + 2, none⟩ (.string v'.text)).setCell ⟨V, k * 4 + 3, none⟩ (.int .i64 v'.node)) = w8 at hO9 hX9 hF9 hd9 hK9 ⊢
            obtain ⟨yz, y0, y1, y2, y3, y4, yf⟩ := id hX9
            obtain ⟨rz, r0, r1, r2, r3, r4, rf_⟩ := id hF9
            go_wp2
            obtain ⟨w9, hw9⟩ : ∃ w9, Hid (w9 = (((((w8.setCell ⟨w.heap.size + 1, 0, none⟩ (.int .i64 g.root.kind)).setCell ⟨w.heap.size + 1, 1, none⟩ (.int .i64 g.root.num)).setCell ⟨w.heap.size + 1, 2, none⟩ (.string g.root.text)).setCell ⟨w.heap.size + 1, 3, none⟩ (.int .i64 g.root.node)).setCell ⟨w.heap.size + 1, 4, none⟩ (.slice (some ⟨N, 0, none⟩) n nc))) := ⟨_, rfl⟩
            obtain ⟨⟨_, s0, s1, s2, s3, s4, _⟩, hfin⟩ := hend w8 at8 (nl.set i ⟨⟨X.n.tag, X.n.vals.set k v'⟩, X.a, X.cap⟩) (by omega) (by rw [List.length_set]; exact hlen) (fun y hy => by
              rcases List.mem_or_eq_of_mem_set hy with h1 | rfl
              · exact ⟨hg.nodes _ (by rw [← hnl]; exact List.mem_map.2 ⟨y, h1, rfl⟩), fun j e => ⟨(hvb y h1 j e).2, hvt y h1 j e⟩⟩
              · exact ⟨⟨hXO.tag, by show (X.n.vals.set k v').length ≤ maxLen; rw [List.length_set]; exact hXO.len, fun u hu => by
                  rcases List.mem_or_eq_of_mem_set hu with h2 | rfl
                  · exact hXO.vals u h2
                  · exact hv'O⟩, fun j e => ⟨(hvb X hXm j e).2, hvt X hXm j e⟩⟩) hO9 hd9 hK9 hF9 w9 hw9
            rw [← hw9.out]
            exact bodyPost_ret (v := (GG.mk g.root ((nl.set i ⟨⟨X.n.tag, X.n.vals.set k v'⟩, X.a, X.cap⟩).map (·.n))).val (some ⟨N, 0, none⟩) nc) (by simp [results, Try.results76, go_sem, s0, s1, s2, s3, s4, GG.val, hlen]) rfl (by rw [← hn.out]; exact hfin)

          · go_upto_region 18 with fail
            have hP9 := hP7.setF1 1
            have hv'O : GV.Ok ⟨v.kind, 1, v.text, v.node⟩ := ⟨hVO.kind, by show I64 1; unfold I64; omega, hVO.text, hVO.node⟩
            have hd9 := hDw 1 (.int .i64 1) hk7.dc
            have hKz := (hK67).trans (hKw 1 (.int .i64 1)) (fun _ _ e => e)
            have ha8 : at7 ≤ at_ + 12 := by omega
            generalize w7.setCell ⟨P, 1, none⟩ (.int .i64 1) = wc at hP9 hd9 hKz ⊢
            clear pz p0 p1 p2 p3 pf
            obtain ⟨v', hv'⟩ : ∃ v' : GV, v' = ⟨v.kind, 1, v.text, v.node⟩ := ⟨_, rfl⟩
            rw [← hv'] at hP9 hv'O
            clear hv'
            have hXz := hX6.kept hKz (by omega)
            have hFz := hF6.kept hKz (by omega)
            have hOz := (hO.kept hK6 (fun j e hp => by have := hnb j e; omega) (fun x hx j e hp => by have := hvb x hx j e; omega)).kept hKz (fun j e hp => by have := hnb j e; omega) (fun x hx j e hp => by have := hvb x hx j e; omega)
            have hK8 : Kept (fun k => k = b ∨ (base ≤ k ∧ k < top)) w wc := (hK6.mono (fun _ _ e => Or.inl e)).trans hKz (fun k hk e => by omega)
            have cW1 := hKz.cell (hK6c.cell cQ1 (by omega)) (by omega)
            have hdr : Kept (fun _ => False) wc wc.drew := (Kept.refl _ wc).drew
            have hSS : Five wc.drew w.heap.size g.root (.slice (some ⟨N, 0, none⟩) n nc) ∧ Four wc.drew P v' ∧ wc.drew.cell? ⟨N, i * 2 + 1, none⟩ = some (.slice (some ⟨V, 0, none⟩) m X.cap) := ⟨hXz.kept hdr (fun e => e), hP9.kept hdr (fun e => e), hdr.cell cW1 (fun e => e)⟩
            refine wp_regionU (fun u => Five u w.heap.size g.root (.slice (some ⟨N, 0, none⟩) n nc) ∧ Four u P v' ∧ u.cell? ⟨N, i * 2 + 1, none⟩ = some (.slice (some ⟨V, 0, none⟩) m X.cap)) 9 (by kernel_rfl) hSS (fun hS0 => ?_)
            refine anyU_take (i := 0) (v := ?_) rfl (by kernel_rfl) (by kernel_rfl) (by kernel_rfl) (by kernel_rfl) (fun _ _ _ h => h) (Or.inl ⟨by rfl, ?_⟩) hS0 ?_
            rotate_left
            · intro u hSu; obtain ⟨⟨_, s0, s1, s2, s3, s4, _⟩, ⟨_, t0, t1, t2, t3, _⟩, u0⟩ := hSu; go_simp <;> with_reducible rfl
            simp only [Act.put, List.getElem_toArray, List.getElem_cons_zero, List.setIfInBounds_toArray, List.set_cons_zero, List.set_cons_succ]
            refine anyU_take (i := 1) (v := ?_) rfl (by kernel_rfl) (by kernel_rfl) (by kernel_rfl) (by kernel_rfl) (fun _ _ _ h => h) (Or.inl ⟨by rfl, ?_⟩) hS0 ?_
            rotate_left
            · intro u hSu; obtain ⟨⟨_, s0, s1, s2, s3, s4, _⟩, ⟨_, t0, t1, t2, t3, _⟩, u0⟩ := hSu; go_simp <;> with_reducible rfl
            simp only [Act.put, List.getElem_toArray, List.getElem_cons_zero, List.getElem_cons_succ, List.setIfInBounds_toArray, List.set_cons_zero, List.set_cons_succ]
            refine anyU_take (i := 2) (v := ?_) rfl (by kernel_rfl) (by kernel_rfl) (by kernel_rfl) (by kernel_rfl) (fun _ _ _ h => h) (Or.inl ⟨by rfl, ?_⟩) hS0 ?_
            rotate_left
            · intro u hSu; obtain ⟨⟨_, s0, s1, s2, s3, s4, _⟩, ⟨_, t0, t1, t2, t3, _⟩, u0⟩ := hSu; go_simp <;> with_reducible rfl
            simp only [Act.put, List.getElem_toArray, List.getElem_cons_zero, List.getElem_cons_succ, List.setIfInBounds_toArray, List.set_cons_zero, List.set_cons_succ]
            refine anyU_take (i := 3) (v := .pointer (some ⟨N, i * 2, none⟩)) rfl (by kernel_rfl) (by kernel_rfl) (by kernel_rfl) (by kernel_rfl) (fun _ _ _ h => h) (Or.inl ⟨by rfl, ?_⟩) hS0 ?_
            · intro u hSu; go_simp
            simp only [Act.put, List.getElem_toArray, List.getElem_cons_zero, List.getElem_cons_succ, List.setIfInBounds_toArray, List.set_cons_zero, List.set_cons_succ]
            refine anyU_take (i := 4) (v := ?_) rfl (by kernel_rfl) (by kernel_rfl) (by kernel_rfl) (by kernel_rfl) (fun _ _ _ h => h) (Or.inl ⟨by rfl, ?_⟩) hS0 ?_
            rotate_left
            · intro u hSu; obtain ⟨⟨_, s0, s1, s2, s3, s4, _⟩, ⟨_, t0, t1, t2, t3, _⟩, u0⟩ := hSu; go_simp <;> with_reducible rfl
            simp only [Act.put, List.getElem_toArray, List.getElem_cons_zero, List.getElem_cons_succ, List.setIfInBounds_toArray, List.set_cons_zero, List.set_cons_succ]
            refine anyU_take (i := 5) (v := ?_) rfl (by kernel_rfl) (by kernel_rfl) (by kernel_rfl) (by kernel_rfl) (fun _ _ _ h => h) (Or.inl ⟨by rfl, ?_⟩) hS0 ?_
            rotate_left
            · intro u hSu; obtain ⟨⟨_, s0, s1, s2, s3, s4, _⟩, ⟨_, t0, t1, t2, t3, _⟩, u0⟩ := hSu; go_simp <;> with_reducible rfl
            simp only [Act.put, List.getElem_toArray, List.getElem_cons_zero, List.getElem_cons_succ, List.setIfInBounds_toArray, List.set_cons_zero, List.set_cons_succ]
            refine anyU_take (i := 6) (v := ?_) rfl (by kernel_rfl) (by kernel_rfl) (by kernel_rfl) (by kernel_rfl) (fun _ _ _ h => h) (Or.inl ⟨by rfl, ?_⟩) hS0 ?_
            rotate_left
            · intro u hSu; obtain ⟨⟨_, s0, s1, s2, s3, s4, _⟩, ⟨_, t0, t1, t2, t3, _⟩, u0⟩ := hSu; go_simp <;> with_reducible rfl
            simp only [Act.put, List.getElem_toArray, List.getElem_cons_zero, List.getElem_cons_succ, List.setIfInBounds_toArray, List.set_cons_zero, List.set_cons_succ]
            refine anyU_take (i := 7) (v := ?_) rfl (by kernel_rfl) (by kernel_rfl) (by kernel_rfl) (by kernel_rfl) (fun _ _ _ h => h) (Or.inl ⟨by rfl, ?_⟩) hS0 ?_
            rotate_left
            · intro u hSu; obtain ⟨⟨_, s0, s1, s2, s3, s4, _⟩, ⟨_, t0, t1, t2, t3, _⟩, u0⟩ := hSu; go_simp <;> with_reducible rfl
            simp only [Act.put, List.getElem_toArray, List.getElem_cons_zero, List.getElem_cons_succ, List.setIfInBounds_toArray, List.set_cons_zero, List.set_cons_succ]
            refine anyU_take (i := 8) (v := .pointer (some ⟨V, k * 4, none⟩)) rfl (by kernel_rfl) (by kernel_rfl) (by kernel_rfl) (by kernel_rfl) (fun _ _ _ h => h) (Or.inl ⟨by rfl, ?_⟩) hS0 ?_
            · intro u hSu; go_simp
            simp only [Act.put, List.getElem_toArray, List.getElem_cons_zero, List.getElem_cons_succ, List.setIfInBounds_toArray, List.set_cons_zero, List.set_cons_succ]
            have hOd := hOz.kept hdr (fun _ _ e => e) (fun _ _ _ _ e => e)
            have hFd := hFz.kept hdr (fun e => e)
            have hdd := hd9.kept hdr (fun e => e) (fun _ _ _ e => e)
            have hKd := hK8.trans (hdr.mono (fun _ _ e => e.elim)) (fun _ _ e => e)
            have hXd := hSS.1
            generalize wc.drew = wz at hOd hFd hdd hKd hXd hS0 ⊢
            have hrow := hOd.vals X hXm
            rw [hXa] at hrow
            have hml : k < X.n.vals.length := by rw [← hm.out]; exact hk
            obtain ⟨v0, V0, _, _, hXa0, d0, d1, d2, d3⟩ := hOd.vget hXm hml
            obtain rfl : V = V0 := by rw [hXa] at hXa0; exact some_addr hXa0
            have fV := fun o => hrow.frozenAt o
            refine anyU_last (by kernel_rfl) rfl (by kernel_rfl) (fun K hK => ?_)
            go_simp
            refine hK.out _ _ ?_
            clear hK
            have hO9 := hOd.val (t := i) (by omega) (V := V) (by rw [← hX.out]; exact hXa) (k := k) (by rw [← hX.out]; exact hml) v'
            rw [← hX.out] at hO9
            have hKV : Kept (fun k => k = V) wz ((((wz.setCell ⟨V, k * 4, none⟩ (.int .i64 v'.kind)).setCell ⟨V, k * 4 + 1, none⟩ (.int .i64 v'.num)).setCell ⟨V, k * 4 + 2, none⟩ (.string v'.text)).setCell ⟨V, k * 4 + 3, none⟩ (.int .i64 v'.node)) := ((((Kept.refl (fun k => k = V) wz).set (fun _ => rfl) _).set (fun _ => rfl) _).set (fun _ => rfl) _).set (fun _ => rfl) _
            have hX9 := hXd.kept hKV (by omega)
            have hF9 := hFd.kept hKV (by omega)
            have hd9 := hdd.kept hKV (by omega) (fun g off e hp => by have := hs g off e; omega)
            have hK9 : Kept (fun k => k = b ∨ (base ≤ k ∧ k < top)) w ((((wz.setCell ⟨V, k * 4, none⟩ (.int .i64 v'.kind)).setCell ⟨V, k * 4 + 1, none⟩ (.int .i64 v'.num)).setCell ⟨V, k * 4 + 2, none⟩ (.string v'.text)).setCell ⟨V, k * 4 + 3, none⟩ (.int .i64 v'.node)) := hKd.trans hKV (fun k _ e => by omega)
            generalize ((((wz.setCell ⟨V, k * 4, none⟩ (.int .i64 v'.kind)).setCell ⟨V, k * 4 + 1, none⟩ (.int .i64 v'.num)).setCell ⟨V, k * 4 + 2, none⟩ (.string v'.text)).setCell ⟨V, k * 4 + 3, none⟩ (.int .i64 v'.node)) = w8 at hO9 hX9 hF9 hd9 hK9 ⊢
            obtain ⟨yz, y0, y1, y2, y3, y4, yf⟩ := id hX9
            obtain ⟨rz, r0, r1, r2, r3, r4, rf_⟩ := id hF9
            go_wp2
            obtain ⟨w9, hw9⟩ : ∃ w9, Hid (w9 = (((((w8.setCell ⟨w.heap.size + 1, 0, none⟩ (.int .i64 g.root.kind)).setCell ⟨w.heap.size + 1, 1, none⟩ (.int .i64 g.root.num)).setCell ⟨w.heap.size + 1, 2, none⟩ (.string g.root.text)).setCell ⟨w.heap.size + 1, 3, none⟩ (.int .i64 g.root.node)).setCell ⟨w.heap.size + 1, 4, none⟩ (.slice (some ⟨N, 0, none⟩) n nc))) := ⟨_, rfl⟩
            obtain ⟨⟨_, s0, s1, s2, s3, s4, _⟩, hfin⟩ := hend w8 at7 (nl.set i ⟨⟨X.n.tag, X.n.vals.set k v'⟩, X.a, X.cap⟩) (by omega) (by rw [List.length_set]; exact hlen) (fun y hy => by
              rcases List.mem_or_eq_of_mem_set hy with h1 | rfl
              · exact ⟨hg.nodes _ (by rw [← hnl]; exact List.mem_map.2 ⟨y, h1, rfl⟩), fun j e => ⟨(hvb y h1 j e).2, hvt y h1 j e⟩⟩
              · exact ⟨⟨hXO.tag, by show (X.n.vals.set k v').length ≤ maxLen; rw [List.length_set]; exact hXO.len, fun u hu => by
                  rcases List.mem_or_eq_of_mem_set hu with h2 | rfl
                  · exact hXO.vals u h2
                  · exact hv'O⟩, fun j e => ⟨(hvb X hXm j e).2, hvt X hXm j e⟩⟩) hO9 hd9 hK9 hF9 w9 hw9
            rw [← hw9.out]
            exact bodyPost_ret (v := (GG.mk g.root ((nl.set i ⟨⟨X.n.tag, X.n.vals.set k v'⟩, X.a, X.cap⟩).map (·.n))).val (some ⟨N, 0, none⟩) nc) (by simp [results, Try.results76, go_sem, s0, s1, s2, s3, s4, GG.val, hlen]) rfl (by rw [← hn.out]; exact hfin)

          · obtain ⟨_, y0, y1, y2, y3, y4, _⟩ := hX6.kept hk7.kept (by omega)
            go_upto_region 18 with (go_at_call 52; refine (l6pick_of b sa bs cap at7 (n + 2) _ w7 (by omega) hk7.dc (by omega) (by omega) (by omega)).mono ?_; rintro e w8 ⟨y, at8, hy, ha8, rfl, hk8⟩; have hP8 := hP7.kept hk8.kept (by omega); obtain ⟨qz, q0, q1, q2, q3, qf⟩ := id hP8)
            clear y0 y1 y2 y3 y4
            have hP9 := hP8.setF3 ((y : Int) - 1)
            have hv'O : GV.Ok ⟨v.kind, v.num, v.text, (y : Int) - 1⟩ := ⟨hVO.kind, hVO.num, hVO.text, by show I64 ((y : Int) - 1); unfold I64; omega⟩
            have hd9 := hDw 3 (.int .i64 ((y : Int) - 1)) hk8.dc
            have hKz := (hK67.trans (hk8.kept.mono (fun _ _ e => Or.inl e)) (fun _ _ e => e)).trans (hKw 3 (.int .i64 ((y : Int) - 1))) (fun _ _ e => e)
            have ha8 : at8 ≤ at_ + 12 := by omega
            generalize w8.setCell ⟨P, 3, none⟩ (.int .i64 ((y : Int) - 1)) = wc at hP9 hd9 hKz ⊢
            clear pz p0 p1 p2 p3 pf
            obtain ⟨v', hv'⟩ : ∃ v' : GV, v' = ⟨v.kind, v.num, v.text, (y : Int) - 1⟩ := ⟨_, rfl⟩
            rw [← hv'] at hP9 hv'O
            clear hv'
            have hXz := hX6.kept hKz (by omega)
            have hFz := hF6.kept hKz (by omega)
            have hOz := (hO.kept hK6 (fun j e hp => by have := hnb j e; omega) (fun x hx j e hp => by have := hvb x hx j e; omega)).kept hKz (fun j e hp => by have := hnb j e; omega) (fun x hx j e hp => by have := hvb x hx j e; omega)
            have hK8 : Kept (fun k => k = b ∨ (base ≤ k ∧ k < top)) w wc := (hK6.mono (fun _ _ e => Or.inl e)).trans hKz (fun k hk e => by omega)
            have cW1 := hKz.cell (hK6c.cell cQ1 (by omega)) (by omega)
            have hdr : Kept (fun _ => False) wc wc.drew := (Kept.refl _ wc).drew
            have hSS : Five wc.drew w.heap.size g.root (.slice (some ⟨N, 0, none⟩) n nc) ∧ Four wc.drew P v' ∧ wc.drew.cell? ⟨N, i * 2 + 1, none⟩ = some (.slice (some ⟨V, 0, none⟩) m X.cap) := ⟨hXz.kept hdr (fun e => e), hP9.kept hdr (fun e => e), hdr.cell cW1 (fun e => e)⟩
            refine wp_regionU (fun u => Five u w.heap.size g.root (.slice (some ⟨N, 0, none⟩) n nc) ∧ Four u P v' ∧ u.cell? ⟨N, i * 2 + 1, none⟩ = some (.slice (some ⟨V, 0, none⟩) m X.cap)) 9 (by kernel_rfl) hSS (fun hS0 => ?_)
            refine anyU_take (i := 0) (v := ?_) rfl (by kernel_rfl) (by kernel_rfl) (by kernel_rfl) (by kernel_rfl) (fun _ _ _ h => h) (Or.inl ⟨by rfl, ?_⟩) hS0 ?_
            rotate_left
            · intro u hSu; obtain ⟨⟨_, s0, s1, s2, s3, s4, _⟩, ⟨_, t0, t1, t2, t3, _⟩, u0⟩ := hSu; go_simp <;> with_reducible rfl
            simp only [Act.put, List.getElem_toArray, List.getElem_cons_zero, List.setIfInBounds_toArray, List.set_cons_zero, List.set_cons_succ]
            refine anyU_take (i := 1) (v := ?_) rfl (by kernel_rfl) (by kernel_rfl) (by kernel_rfl) (by kernel_rfl) (fun _ _ _ h => h) (Or.inl ⟨by rfl, ?_⟩) hS0 ?_
            rotate_left
            · intro u hSu; obtain ⟨⟨_, s0, s1, s2, s3, s4, _⟩, ⟨_, t0, t1, t2, t3, _⟩, u0⟩ := hSu; go_simp <;> with_reducible rfl
            simp only [Act.put, List.getElem_toArray, List.getElem_cons_zero, List.getElem_cons_succ, List.setIfInBounds_toArray, List.set_cons_zero, List.set_cons_succ]
            refine anyU_take (i := 2) (v := ?_) rfl (by kernel_rfl) (by kernel_rfl) (by kernel_rfl) (by kernel_rfl) (fun _ _ _ h => h) (Or.inl ⟨by rfl, ?_⟩) hS0 ?_
            rotate_left
            · intro u hSu; obtain ⟨⟨_, s0, s1, s2, s3, s4, _⟩, ⟨_, t0, t1, t2, t3, _⟩, u0⟩ := hSu; go_simp <;> with_reducible rfl
            simp only [Act.put, List.getElem_toArray, List.getElem_cons_zero, List.getElem_cons_succ, List.setIfInBounds_toArray, List.set_cons_zero, List.set_cons_succ]
            refine anyU_take (i := 3) (v := .pointer (some ⟨N, i * 2, none⟩)) rfl (by kernel_rfl) (by kernel_rfl) (by kernel_rfl) (by kernel_rfl) (fun _ _ _ h => h) (Or.inl ⟨by rfl, ?_⟩) hS0 ?_
            · intro u hSu; go_simp
            simp only [Act.put, List.getElem_toArray, List.getElem_cons_zero, List.getElem_cons_succ, List.setIfInBounds_toArray, List.set_cons_zero, List.set_cons_succ]
            refine anyU_take (i := 4) (v := ?_) rfl (by kernel_rfl) (by kernel_rfl) (by kernel_rfl) (by kernel_rfl) (fun _ _ _ h => h) (Or.inl ⟨by rfl, ?_⟩) hS0 ?_
            rotate_left
            · intro u hSu; obtain ⟨⟨_, s0, s1, s2, s3, s4, _⟩, ⟨_, t0, t1, t2, t3, _⟩, u0⟩ := hSu; go_simp <;> with_reducible rfl
            simp only [Act.put, List.getElem_toArray, List.getElem_cons_zero, List.getElem_cons_succ, List.setIfInBounds_toArray, List.set_cons_zero, List.set_cons_succ]
            refine anyU_take (i := 5) (v := ?_) rfl (by kernel_rfl) (by kernel_rfl) (by kernel_rfl) (by kernel_rfl) (fun _ _ _ h => h) (Or.inl ⟨by rfl, ?_⟩) hS0 ?_
            rotate_left
            · intro u hSu; obtain ⟨⟨_, s0, s1, s2, s3, s4, _⟩, ⟨_, t0, t1, t2, t3, _⟩, u0⟩ := hSu; go_simp <;> with_reducible rfl
            simp only [Act.put, List.getElem_toArray, List.getElem_cons_zero, List.getElem_cons_succ, List.setIfInBounds_toArray, List.set_cons_zero, List.set_cons_succ]
            refine anyU_take (i := 6) (v := ?_) rfl (by kernel_rfl) (by kernel_rfl) (by kernel_rfl) (by kernel_rfl) (fun _ _ _ h => h) (Or.inl ⟨by rfl, ?_⟩) hS0 ?_
            rotate_left
            · intro u hSu; obtain ⟨⟨_, s0, s1, s2, s3, s4, _⟩, ⟨_, t0, t1, t2, t3, _⟩, u0⟩ := hSu; go_simp <;> with_reducible rfl
            simp only [Act.put, List.getElem_toArray, List.getElem_cons_zero, List.getElem_cons_succ, List.setIfInBounds_toArray, List.set_cons_zero, List.set_cons_succ]
            refine anyU_take (i := 7) (v := ?_) rfl (by kernel_rfl) (by kernel_rfl) (by kernel_rfl) (by kernel_rfl) (fun _ _ _ h => h) (Or.inl ⟨by rfl, ?_⟩) hS0 ?_
            rotate_left
            · intro u hSu; obtain ⟨⟨_, s0, s1, s2, s3, s4, _⟩, ⟨_, t0, t1, t2, t3, _⟩, u0⟩ := hSu; go_simp <;> with_reducible rfl
            simp only [Act.put, List.getElem_toArray, List.getElem_cons_zero, List.getElem_cons_succ, List.setIfInBounds_toArray, List.set_cons_zero, List.set_cons_succ]
            refine anyU_take (i := 8) (v := .pointer (some ⟨V, k * 4, none⟩)) rfl (by kernel_rfl) (by kernel_rfl) (by kernel_rfl) (by kernel_rfl) (fun _ _ _ h => h) (Or.inl ⟨by rfl, ?_⟩) hS0 ?_
            · intro u hSu; go_simp
            simp only [Act.put, List.getElem_toArray, List.getElem_cons_zero, List.getElem_cons_succ, List.setIfInBounds_toArray, List.set_cons_zero, List.set_cons_succ]
            have hOd := hOz.kept hdr (fun _ _ e => e) (fun _ _ _ _ e => e)
            have hFd := hFz.kept hdr (fun e => e)
            have hdd := hd9.kept hdr (fun e => e) (fun _ _ _ e => e)
            have hKd := hK8.trans (hdr.mono (fun _ _ e => e.elim)) (fun _ _ e => e)
            have hXd := hSS.1
            generalize wc.drew = wz at hOd hFd hdd hKd hXd hS0 ⊢
            have hrow := hOd.vals X hXm
            rw [hXa] at hrow
            have hml : k < X.n.vals.length := by rw [← hm.out]; exact hk
            obtain ⟨v0, V0, _, _, hXa0, d0, d1, d2, d3⟩ := hOd.vget hXm hml
            obtain rfl : V = V0 := by rw [hXa] at hXa0; exact some_addr hXa0
            have fV := fun o => hrow.frozenAt o
            refine anyU_last (by kernel_rfl) rfl (by kernel_rfl) (fun K hK => ?_)
            go_simp
            refine hK.out _ _ ?_
            clear hK
            have hO9 := hOd.val (t := i) (by omega) (V := V) (by rw [← hX.out]; exact hXa) (k := k) (by rw [← hX.out]; exact hml) v'
            rw [← hX.out] at hO9
            have hKV : Kept (fun k => k = V) wz ((((wz.setCell ⟨V, k * 4, none⟩ (.int .i64 v'.kind)).setCell ⟨V, k * 4 + 1, none⟩ (.int .i64 v'.num)).setCell ⟨V, k * 4 + 2, none⟩ (.string v'.text)).setCell ⟨V, k * 4 + 3, none⟩ (.int .i64 v'.node)) := ((((Kept.refl (fun k => k = V) wz).set (fun _ => rfl) _).set (fun _ => rfl) _).set (fun _ => rfl) _).set (fun _ => rfl) _
            have hX9 := hXd.kept hKV (by omega)
            have hF9 := hFd.kept hKV (by omega)
            have hd9 := hdd.kept hKV (by omega) (fun g off e hp => by have := hs g off e; omega)
            have hK9 : Kept (fun k => k = b ∨ (base ≤ k ∧ k < top)) w ((((wz.setCell ⟨V, k * 4, none⟩ (.int .i64 v'.kind)).setCell ⟨V, k * 4 + 1, none⟩ (.int .i64 v'.num)).setCell ⟨V, k * 4 + 2, none⟩ (.string v'.text)).setCell ⟨V, k * 4 + 3, none⟩ (.int .i64 v'.node)) := hKd.trans hKV (fun k _ e => by omega)
            generalize ((((wz.setCell ⟨V, k * 4, none⟩ (.int .i64 v'.kind)).setCell ⟨V, k * 4 + 1, none⟩ (.int .i64 v'.num)).setCell ⟨V, k * 4 + 2, none⟩ (.string v'.text)).setCell ⟨V, k * 4 + 3, none⟩ (.int .i64 v'.node)) = w8 at hO9 hX9 hF9 hd9 hK9 ⊢
            obtain ⟨yz, y0, y1, y2, y3, y4, yf⟩ := id hX9
            obtain ⟨rz, r0, r1, r2, r3, r4, rf_⟩ := id hF9
            go_wp2
            obtain ⟨w9, hw9⟩ : ∃ w9, Hid (w9 = (((((w8.setCell ⟨w.heap.size + 1, 0, none⟩ (.int .i64 g.root.kind)).setCell ⟨w.heap.size + 1, 1, none⟩ (.int .i64 g.root.num)).setCell ⟨w.heap.size + 1, 2, none⟩ (.string g.root.text)).setCell ⟨w.heap.size + 1, 3, none⟩ (.int .i64 g.root.node)).setCell ⟨w.heap.size + 1, 4, none⟩ (.slice (some ⟨N, 0, none⟩) n nc))) := ⟨_, rfl⟩
            obtain ⟨⟨_, s0, s1, s2, s3, s4, _⟩, hfin⟩ := hend w8 at8 (nl.set i ⟨⟨X.n.tag, X.n.vals.set k v'⟩, X.a, X.cap⟩) (by omega) (by rw [List.length_set]; exact hlen) (fun y hy => by
              rcases List.mem_or_eq_of_mem_set hy with h1 | rfl
              · exact ⟨hg.nodes _ (by rw [← hnl]; exact List.mem_map.2 ⟨y, h1, rfl⟩), fun j e => ⟨(hvb y h1 j e).2, hvt y h1 j e⟩⟩
              · exact ⟨⟨hXO.tag, by show (X.n.vals.set k v').length ≤ maxLen; rw [List.length_set]; exact hXO.len, fun u hu => by
                  rcases List.mem_or_eq_of_mem_set hu with h2 | rfl
                  · exact hXO.vals u h2
                  · exact hv'O⟩, fun j e => ⟨(hvb X hXm j e).2, hvt X hXm j e⟩⟩) hO9 hd9 hK9 hF9 w9 hw9
            rw [← hw9.out]
            exact bodyPost_ret (v := (GG.mk g.root ((nl.set i ⟨⟨X.n.tag, X.n.vals.set k v'⟩, X.a, X.cap⟩).map (·.n))).val (some ⟨N, 0, none⟩) nc) (by simp [results, Try.results76, go_sem, s0, s1, s2, s3, s4, GG.val, hlen]) rfl (by rw [← hn.out]; exact hfin)

          · go_upto_region 18 with fail
            have hP9 := hP7.setF2 ⟨#[116]⟩
            have hv'O : GV.Ok ⟨v.kind, v.num, ⟨#[116]⟩, v.node⟩ := ⟨hVO.kind, hVO.num, by show (ByteArray.mk #[116]).size ≤ maxLen; decide, hVO.node⟩
            have hd9 := hDw 2 (.string ⟨#[116]⟩) hk7.dc
            have hKz := (hK67).trans (hKw 2 (.string ⟨#[116]⟩)) (fun _ _ e => e)
            have ha8 : at7 ≤ at_ + 12 := by omega
            generalize w7.setCell ⟨P, 2, none⟩ (.string ⟨#[116]⟩) = wc at hP9 hd9 hKz ⊢
            clear pz p0 p1 p2 p3 pf
            obtain ⟨v', hv'⟩ : ∃ v' : GV, v' = ⟨v.kind, v.num, ⟨#[116]⟩, v.node⟩ := ⟨_, rfl⟩
            rw [← hv'] at hP9 hv'O
            clear hv'
            have hXz := hX6.kept hKz (by omega)
            have hFz := hF6.kept hKz (by omega)
            have hOz := (hO.kept hK6 (fun j e hp => by have := hnb j e; omega) (fun x hx j e hp => by have := hvb x hx j e; omega)).kept hKz (fun j e hp => by have := hnb j e; omega) (fun x hx j e hp => by have := hvb x hx j e; omega)
            have hK8 : Kept (fun k => k = b ∨ (base ≤ k ∧ k < top)) w wc := (hK6.mono (fun _ _ e => Or.inl e)).trans hKz (fun k hk e => by omega)
            have cW1 := hKz.cell (hK6c.cell cQ1 (by omega)) (by omega)
            have hdr : Kept (fun _ => False) wc wc.drew := (Kept.refl _ wc).drew
            have hSS : Five wc.drew w.heap.size g.root (.slice (some ⟨N, 0, none⟩) n nc) ∧ Four wc.drew P v' ∧ wc.drew.cell? ⟨N, i * 2 + 1, none⟩ = some (.slice (some ⟨V, 0, none⟩) m X.cap) := ⟨hXz.kept hdr (fun e => e), hP9.kept hdr (fun e => e), hdr.cell cW1 (fun e => e)⟩
            refine wp_regionU (fun u => Five u w.heap.size g.root (.slice (some ⟨N, 0, none⟩) n nc) ∧ Four u P v' ∧ u.cell? ⟨N, i * 2 + 1, none⟩ = some (.slice (some ⟨V, 0, none⟩) m X.cap)) 9 (by kernel_rfl) hSS (fun hS0 => ?_)
            refine anyU_take (i := 0) (v := ?_) rfl (by kernel_rfl) (by kernel_rfl) (by kernel_rfl) (by kernel_rfl) (fun _ _ _ h => h) (Or.inl ⟨by rfl, ?_⟩) hS0 ?_
            rotate_left
            · intro u hSu; obtain ⟨⟨_, s0, s1, s2, s3, s4, _⟩, ⟨_, t0, t1, t2, t3, _⟩, u0⟩ := hSu; go_simp <;> with_reducible rfl
            simp only [Act.put, List.getElem_toArray, List.getElem_cons_zero, List.setIfInBounds_toArray, List.set_cons_zero, List.set_cons_succ]
            refine anyU_take (i := 1) (v := ?_) rfl (by kernel_rfl) (by kernel_rfl) (by kernel_rfl) (by kernel_rfl) (fun _ _ _ h => h) (Or.inl ⟨by rfl, ?_⟩) hS0 ?_
            rotate_left
            · intro u hSu; obtain ⟨⟨_, s0, s1, s2, s3, s4, _⟩, ⟨_, t0, t1, t2, t3, _⟩, u0⟩ := hSu; go_simp <;> with_reducible rfl
            simp only [Act.put, List.getElem_toArray, List.getElem_cons_zero, List.getElem_cons_succ, List.setIfInBounds_toArray, List.set_cons_zero, List.set_cons_succ]
            refine anyU_take (i := 2) (v := ?_) rfl (by kernel_rfl) (by kernel_rfl) (by kernel_rfl) (by kernel_rfl) (fun _ _ _ h => h) (Or.inl ⟨by rfl, ?_⟩) hS0 ?_
            rotate_left
            · intro u hSu; obtain ⟨⟨_, s0, s1, s2, s3, s4, _⟩, ⟨_, t0, t1, t2, t3, _⟩, u0⟩ := hSu; go_simp <;> with_reducible rfl
            simp only [Act.put, List.getElem_toArray, List.getElem_cons_zero, List.getElem_cons_succ, List.setIfInBounds_toArray, List.set_cons_zero, List.set_cons_succ]
            refine anyU_take (i := 3) (v := .pointer (some ⟨N, i * 2, none⟩)) rfl (by kernel_rfl) (by kernel_rfl) (by kernel_rfl) (by kernel_rfl) (fun _ _ _ h => h) (Or.inl ⟨by rfl, ?_⟩) hS0 ?_
            · intro u hSu; go_simp
            simp only [Act.put, List.getElem_toArray, List.getElem_cons_zero, List.getElem_cons_succ, List.setIfInBounds_toArray, List.set_cons_zero, List.set_cons_succ]
            refine anyU_take (i := 4) (v := ?_) rfl (by kernel_rfl) (by kernel_rfl) (by kernel_rfl) (by kernel_rfl) (fun _ _ _ h => h) (Or.inl ⟨by rfl, ?_⟩) hS0 ?_
            rotate_left
            · intro u hSu; obtain ⟨⟨_, s0, s1, s2, s3, s4, _⟩, ⟨_, t0, t1, t2, t3, _⟩, u0⟩ := hSu; go_simp <;> with_reducible rfl
            simp only [Act.put, List.getElem_toArray, List.getElem_cons_zero, List.getElem_cons_succ, List.setIfInBounds_toArray, List.set_cons_zero, List.set_cons_succ]
            refine anyU_take (i := 5) (v := ?_) rfl (by kernel_rfl) (by kernel_rfl) (by kernel_rfl) (by kernel_rfl) (fun _ _ _ h => h) (Or.inl ⟨by rfl, ?_⟩) hS0 ?_
            rotate_left
            · intro u hSu; obtain ⟨⟨_, s0, s1, s2, s3, s4, _⟩, ⟨_, t0, t1, t2, t3, _⟩, u0⟩ := hSu; go_simp <;> with_reducible rfl
            simp only [Act.put, List.getElem_toArray, List.getElem_cons_zero, List.getElem_cons_succ, List.setIfInBounds_toArray, List.set_cons_zero, List.set_cons_succ]
            refine anyU_take (i := 6) (v := ?_) rfl (by kernel_rfl) (by kernel_rfl) (by kernel_rfl) (by kernel_rfl) (fun _ _ _ h => h) (Or.inl ⟨by rfl, ?_⟩) hS0 ?_
            rotate_left
            · intro u hSu; obtain ⟨⟨_, s0, s1, s2, s3, s4, _⟩, ⟨_, t0, t1, t2, t3, _⟩, u0⟩ := hSu; go_simp <;> with_reducible rfl
            simp only [Act.put, List.getElem_toArray, List.getElem_cons_zero, List.getElem_cons_succ, List.setIfInBounds_toArray, List.set_cons_zero, List.set_cons_succ]
            refine anyU_take (i := 7) (v := ?_) rfl (by kernel_rfl) (by kernel_rfl) (by kernel_rfl) (by kernel_rfl) (fun _ _ _ h => h) (Or.inl ⟨by rfl, ?_⟩) hS0 ?_
            rotate_left
            · intro u hSu; obtain ⟨⟨_, s0, s1, s2, s3, s4, _⟩, ⟨_, t0, t1, t2, t3, _⟩, u0⟩ := hSu; go_simp <;> with_reducible rfl
            simp only [Act.put, List.getElem_toArray, List.getElem_cons_zero, List.getElem_cons_succ, List.setIfInBounds_toArray, List.set_cons_zero, List.set_cons_succ]
            refine anyU_take (i := 8) (v := .pointer (some ⟨V, k * 4, none⟩)) rfl (by kernel_rfl) (by kernel_rfl) (by kernel_rfl) (by kernel_rfl) (fun _ _ _ h => h) (Or.inl ⟨by rfl, ?_⟩) hS0 ?_
            · intro u hSu; go_simp
            simp only [Act.put, List.getElem_toArray, List.getElem_cons_zero, List.getElem_cons_succ, List.setIfInBounds_toArray, List.set_cons_zero, List.set_cons_succ]
            have hOd := hOz.kept hdr (fun _ _ e => e) (fun _ _ _ _ e => e)
            have hFd := hFz.kept hdr (fun e => e)
            have hdd := hd9.kept hdr (fun e => e) (fun _ _ _ e => e)
            have hKd := hK8.trans (hdr.mono (fun _ _ e => e.elim)) (fun _ _ e => e)
            have hXd := hSS.1
            generalize wc.drew = wz at hOd hFd hdd hKd hXd hS0 ⊢
            have hrow := hOd.vals X hXm
            rw [hXa] at hrow
            have hml : k < X.n.vals.length := by rw [← hm.out]; exact hk
            obtain ⟨v0, V0, _, _, hXa0, d0, d1, d2, d3⟩ := hOd.vget hXm hml
            obtain rfl : V = V0 := by rw [hXa] at hXa0; exact some_addr hXa0
            have fV := fun o => hrow.frozenAt o
            refine anyU_last (by kernel_rfl) rfl (by kernel_rfl) (fun K hK => ?_)
            go_simp
            refine hK.out _ _ ?_
            clear hK
            have hO9 := hOd.val (t := i) (by omega) (V := V) (by rw [← hX.out]; exact hXa) (k := k) (by rw [← hX.out]; exact hml) v'
            rw [← hX.out] at hO9
            have hKV : Kept (fun k => k = V) wz ((((wz.setCell ⟨V, k * 4, none⟩ (.int .i64 v'.kind)).setCell ⟨V, k * 4 + 1, none⟩ (.int .i64 v'.num)).setCell ⟨V, k * 4 + 2, none⟩ (.string v'.text)).setCell ⟨V, k * 4 + 3, none⟩ (.int .i64 v'.node)) := ((((Kept.refl (fun k => k = V) wz).set (fun _ => rfl) _).set (fun _ => rfl) _).set (fun _ => rfl) _).set (fun _ => rfl) _
            have hX9 := hXd.kept hKV (by omega)
            have hF9 := hFd.kept hKV (by omega)
            have hd9 := hdd.kept hKV (by omega) (fun g off e hp => by have := hs g off e; omega)
            have hK9 : Kept (fun k => k = b ∨ (base ≤ k ∧ k < top)) w ((((wz.setCell ⟨V, k * 4, none⟩ (.int .i64 v'.kind)).setCell ⟨V, k * 4 + 1, none⟩ (.int .i64 v'.num)).setCell ⟨V, k * 4 + 2, none⟩ (.string v'.text)).setCell ⟨V, k * 4 + 3, none⟩ (.int .i64 v'.node)) := hKd.trans hKV (fun k _ e => by omega)
            generalize ((((wz.setCell ⟨V, k * 4, none⟩ (.int .i64 v'.kind)).setCell ⟨V, k * 4 + 1, none⟩ (.int .i64 v'.num)).setCell ⟨V, k * 4 + 2, none⟩ (.string v'.text)).setCell ⟨V, k * 4 + 3, none⟩ (.int .i64 v'.node)) = w8 at hO9 hX9 hF9 hd9 hK9 ⊢
            obtain ⟨yz, y0, y1, y2, y3, y4, yf⟩ := id hX9
            obtain ⟨rz, r0, r1, r2, r3, r4, rf_⟩ := id hF9
            go_wp2
            obtain ⟨w9, hw9⟩ : ∃ w9, Hid (w9 = (((((w8.setCell ⟨w.heap.size + 1, 0, none⟩ (.int .i64 g.root.kind)).setCell ⟨w.heap.size + 1, 1, none⟩ (.int .i64 g.root.num)).setCell ⟨w.heap.size + 1, 2, none⟩ (.string g.root.text)).setCell ⟨w.heap.size + 1, 3, none⟩ (.int .i64 g.root.node)).setCell ⟨w.heap.size + 1, 4, none⟩ (.slice (some ⟨N, 0, none⟩) n nc))) := ⟨_, rfl⟩
            obtain ⟨⟨_, s0, s1, s2, s3, s4, _⟩, hfin⟩ := hend w8 at7 (nl.set i ⟨⟨X.n.tag, X.n.vals.set k v'⟩, X.a, X.cap⟩) (by omega) (by rw [List.length_set]; exact hlen) (fun y hy => by
              rcases List.mem_or_eq_of_mem_set hy with h1 | rfl
              · exact ⟨hg.nodes _ (by rw [← hnl]; exact List.mem_map.2 ⟨y, h1, rfl⟩), fun j e => ⟨(hvb y h1 j e).2, hvt y h1 j e⟩⟩
              · exact ⟨⟨hXO.tag, by show (X.n.vals.set k v').length ≤ maxLen; rw [List.length_set]; exact hXO.len, fun u hu => by
                  rcases List.mem_or_eq_of_mem_set hu with h2 | rfl
                  · exact hXO.vals u h2
                  · exact hv'O⟩, fun j e => ⟨(hvb X hXm j e).2, hvt X hXm j e⟩⟩) hO9 hd9 hK9 hF9 w9 hw9
            rw [← hw9.out]
            exact bodyPost_ret (v := (GG.mk g.root ((nl.set i ⟨⟨X.n.tag, X.n.vals.set k v'⟩, X.a, X.cap⟩).map (·.n))).val (some ⟨N, 0, none⟩) nc) (by simp [results, Try.results76, go_sem, s0, s1, s2, s3, s4, GG.val, hlen]) rfl (by rw [← hn.out]; exact hfin)


end Go.Proofs.Ythjddpkegooobaa
