import Derived.Test.YtmdpmdmilgbfiaaGreatDoorPartZI
import Derived.Test.YtmdpmdmilgbfiaaGreatDoorPartZJ

/-
  LAWKEEPS: FnKeeps, walked. Own work.
-/
namespace Go.Proofs.YtmdpmdmilgbfiaaGreatDoor
open Go.RowKit

theorem one_byte (w : World) (x : Nat) : (w.alloc (.cells #[.int .u8 (x : Int)] 5)).ownsRow w.heap.size 5 1 (.slice (some ⟨w.heap.size, 0, none⟩) [x].length 1) [x].length (bcells [x]) :=
  ⟨rfl, Or.inr ⟨w.heap.size, 1, #[.int .u8 (x : Int)], rfl, Nat.le_refl _, blk_new_at _ _ _ rfl, Nat.le_refl _, by decide, rfl, rfl⟩⟩

/-- the law's variables: the disk and the last graph -/
structure KS (wr : World) (D L : Nat) (d : DD) (l : DL) (last : GG) (na : Option Addr) (nc : Nat) (nl : List NL) : Prop where
  xd : VB wr D (.slice l.ba d.blocks.length l.bc) (.slice l.wa d.waiting.length l.wc)
  xl : Five wr L last.root (.slice na last.nodes.length nc)
  md : ∃ lo hi fa ga fc gc, MD wr lo hi l d fa ga fc gc ∧ hi ≤ wr.heap.size ∧ (hi ≤ D ∨ L < lo)
  ow : OwnG wr (L + 1) na nc nl
  ns : nl.map (·.n) = last.nodes
  ok : last.Ok
  lt : D < L
theorem KS.grow {w w' : World} {D L : Nat} {d : DD} {l : DL} {last : GG} {na : Option Addr} {nc : Nat} {nl : List NL} (h : KS w D L d l last na nc nl) (hb : Below w.heap.size w w') : KS w' D L d l last na nc nl := by
  obtain ⟨lo, hi, fa, ga, fc, gc, hm, h1, h2⟩ := h.md
  have K := Kept.of_below hb (fun _ => False)
  exact ⟨h.xd.grow hb, h.xl.kept K (fun e => e), ⟨lo, hi, fa, ga, fc, gc, hm.grow hb, Nat.le_trans h1 hb.size, h2⟩, h.ow.kept K (fun _ _ e => e) (fun _ _ _ _ e => e), h.ns, h.ok, h.lt⟩
theorem KS.at_ {w : World} {D L : Nat} {d : DD} {l : DL} {last : GG} {na : Option Addr} {nc : Nat} {nl : List NL} (h : KS w D L d l last na nc nl) : DAt w l d := by
  obtain ⟨lo, hi, fa, ga, fc, gc, hm, _⟩ := h.md
  exact hm.at_
theorem owns_ge {w : World} {base t size n c : Nat} {na : Option Addr} {xs : List Value} (h : w.ownsRow base t size (.slice na n c) n xs) {b : Nat} (e : na = some ⟨b, 0, none⟩) : base ≤ b := by
  rcases h.2 with ⟨h1, _⟩ | ⟨g, cap, cur, h1, hb, _⟩
  · injection h1 with h2; rw [e] at h2; cases h2
  · injection h1 with h2
    rw [e] at h2
    simp only [Option.some.injEq, Addr.mk.injEq, and_true] at h2
    omega
theorem owns_ltK {w : World} {base t size n c g : Nat} {xs : List Value} (h : w.ownsRow base t size (.slice (some ⟨g, 0, none⟩) n c) n xs) : g < w.heap.size := by
  rcases h.2 with ⟨h1, _⟩ | ⟨g', cap, cur, h1, hb, hg, _⟩
  · cases h1
  · injection h1 with h2
    simp only [Option.some.injEq, Addr.mk.injEq, and_true] at h2
    subst h2
    rcases Nat.lt_or_ge g w.heap.size with hlt | hge
    · exact hlt
    · rw [Array.getElem?_eq_none hge] at hg; cases hg
theorem OwnG.ge {w : World} {base : Nat} {na : Option Addr} {nc : Nat} {nl : List NL} (h : OwnG w base na nc nl) {p : Nat → Prop} (hp : ∀ b, base ≤ b → ¬ p b) : (∀ b, na = some ⟨b, 0, none⟩ → ¬ p b) ∧ (∀ x, x ∈ nl → ∀ b, x.a = some ⟨b, 0, none⟩ → ¬ p b) :=
  ⟨fun b e => hp b (owns_ge h.nodes e), fun x hx b e => hp b (owns_ge (h.vals x hx) e)⟩
/-- another disk is put into the variable -/
theorem KS.putD {w : World} {D L : Nat} {d d' : DD} {l l' : DL} {last : GG} {na : Option Addr} {nc : Nat} {nl : List NL} {lo hi : Nat} {fa ga : Nat → Option Addr} {fc gc : Nat → Nat} (h : KS w D L d l last na nc nl) (hm : MD w lo hi l' d' fa ga fc gc) (h1 : hi ≤ w.heap.size) (h2 : L < lo) :
    KS ((w.setCell ⟨D, 0, none⟩ (.slice l'.ba d'.blocks.length l'.bc)).setCell ⟨D, 1, none⟩ (.slice l'.wa d'.waiting.length l'.wc)) D L d' l' last na nc nl ∧ Kept (fun z => z = D) w ((w.setCell ⟨D, 0, none⟩ (.slice l'.ba d'.blocks.length l'.bc)).setCell ⟨D, 1, none⟩ (.slice l'.wa d'.waiting.length l'.wc)) := by
  have K := ((Kept.refl (fun z => z = D) w).set (a := ⟨D, 0, none⟩) (fun _ => rfl) (.slice l'.ba d'.blocks.length l'.bc)).set (a := ⟨D, 1, none⟩) (fun _ => rfl) (.slice l'.wa d'.waiting.length l'.wc)
  have hlt := h.lt
  obtain ⟨g1, g2⟩ := h.ow.ge (p := fun z => z = D) (fun b hb e => by omega)
  exact ⟨⟨(h.xd.set0 _).set1 _, h.xl.kept K (fun e => by omega), ⟨lo, hi, fa, ga, fc, gc, hm.out K (fun b hb _ e => by omega), Nat.le_trans h1 K.size, Or.inr h2⟩, h.ow.kept K g1 g2, h.ns, h.ok, h.lt⟩, K⟩
/-- another graph is put into the variable -/
theorem KS.putL {w : World} {D L : Nat} {d : DD} {l : DL} {last g : GG} {na na' : Option Addr} {nc nc' : Nat} {nl nl' : List NL} (h : KS w D L d l last na nc nl) (ho : OwnG w (L + 1) na' nc' nl') (hn : nl'.map (·.n) = g.nodes) (hg : g.Ok) :
    KS (((((w.setCell ⟨L, 0, none⟩ (.int .i64 g.root.kind)).setCell ⟨L, 1, none⟩ (.int .i64 g.root.num)).setCell ⟨L, 2, none⟩ (.string g.root.text)).setCell ⟨L, 3, none⟩ (.int .i64 g.root.node)).setCell ⟨L, 4, none⟩ (.slice na' g.nodes.length nc')) D L d l g na' nc' nl' ∧
      Kept (fun z => z = L) w (((((w.setCell ⟨L, 0, none⟩ (.int .i64 g.root.kind)).setCell ⟨L, 1, none⟩ (.int .i64 g.root.num)).setCell ⟨L, 2, none⟩ (.string g.root.text)).setCell ⟨L, 3, none⟩ (.int .i64 g.root.node)).setCell ⟨L, 4, none⟩ (.slice na' g.nodes.length nc')) := by
  have K := (((((Kept.refl (fun z => z = L) w).set (a := ⟨L, 0, none⟩) (fun _ => rfl) (.int .i64 g.root.kind)).set (a := ⟨L, 1, none⟩) (fun _ => rfl) (.int .i64 g.root.num)).set (a := ⟨L, 2, none⟩) (fun _ => rfl) (.string g.root.text)).set (a := ⟨L, 3, none⟩) (fun _ => rfl) (.int .i64 g.root.node)).set (a := ⟨L, 4, none⟩) (fun _ => rfl) (.slice na' g.nodes.length nc')
  have hlt := h.lt
  obtain ⟨g1, g2⟩ := ho.ge (p := fun z => z = L) (fun b hb e => by omega)
  obtain ⟨lo, hi, fa, ga, fc, gc, hm, h1, h2⟩ := h.md
  exact ⟨⟨h.xd.kept K (fun e => by omega), (h.xl.rootS g.root).set, ⟨lo, hi, fa, ga, fc, gc, hm.out K (fun b hb hb2 e => by omega), Nat.le_trans h1 K.size, h2⟩, ho.kept K g1 g2, hn, hg, h.lt⟩, K⟩
theorem KS.nodes {w : World} {D L : Nat} {d : DD} {l : DL} {last : GG} {na : Option Addr} {nc : Nat} {nl : List NL} (h : KS w D L d l last na nc nl) : NodesAt w.heap.size w na last.nodes := by rw [← h.ns]; exact h.ow.at_

theorem zeroG_okK : zeroG.Ok := ⟨⟨small_i64 (by show (0 : Int) ≤ 0 ∧ (0 : Int) ≤ 1000000; omega), small_i64 (by show (0 : Int) ≤ 0 ∧ (0 : Int) ≤ 1000000; omega), Nat.zero_le _, small_i64 (by show (0 : Int) ≤ 0 ∧ (0 : Int) ≤ 1000000; omega)⟩, Nat.zero_le _, fun n hn => (by cases hn)⟩

set_option maxHeartbeats 8000000 in
set_option maxRecDepth 100000 in
theorem lawKeeps (a a' : Option Addr) (cap cap' : Nat) (bs bs' : List Nat) (w : World) (ha : BytesAt w a bs) (ha' : BytesAt w a' bs') (hl : bs.length ≤ maxLen) (hl' : bs'.length ≤ maxLen) (hx : ∀ x, x ∈ bs → x < 256) (hx' : ∀ x, x ∈ bs' → x < 256)
    (hg : w.cell? ⟨0, 0, none⟩ = some (.iface 211 (.agg #[.pointer (some ⟨1, 80, none⟩)]))) :
    Calls Tryz.prog 5 #[.slice a bs.length cap, .slice a' bs'.length cap'] w fun e w' => e = .returned (.bool true) ∧ Below w.heap.size w w' := by
  have hml := hl
  have hml' := hl'
  unfold maxLen at hml hml'
  by_cases hs1 : bs.length ≤ 1048576
  case neg =>
    have hd : ((1048576 : Int) < (bs.length : Int)) := by omega
    go_enter Tryz.func5, Tryz.ntmps5
    go_wp2
    go_ret
    exact ⟨rfl, gre _⟩
  by_cases hs2 : bs'.length ≤ 1048576
  case neg =>
    have hd : ¬ ((1048576 : Int) < (bs.length : Int)) := by omega
    have hd2 : ((1048576 : Int) < (bs'.length : Int)) := by omega
    go_enter Tryz.func5, Tryz.ntmps5
    go_wp2
    go_ret
    exact ⟨rfl, gre _⟩
  have hd : ¬ ((1048576 : Int) < (bs.length : Int)) := by omega
  have hd2 : ¬ ((1048576 : Int) < (bs'.length : Int)) := by omega
  go_enter Tryz.func5, Tryz.ntmps5
  go_upto_region 5 with (go_at_call 25; refine (implBlank_any _).mono ?_; rintro e w1 ⟨l0, fa0, ga0, fc0, gc0, rfl, hM1, hb1⟩)
  have hB0 : Below w.heap.size w ((w1.alloc (.cells #[.slice l0.ba blankD.blocks.length l0.bc, .slice l0.wa blankD.waiting.length l0.wc] 46)).alloc (.cells #[.int .i64 0, .int .i64 0, .string ⟨#[]⟩, .int .i64 0, .slice none 0 0] 32)) := gal (gal hb1 _) _
  have hBA := gal (gal (gre w1) (.cells #[.slice l0.ba blankD.blocks.length l0.bc, .slice l0.wa blankD.waiting.length l0.wc] 46)) (.cells #[.int .i64 0, .int .i64 0, .string ⟨#[]⟩, .int .i64 0, .slice none 0 0] 32)
  have hS0 : KS ((w1.alloc (.cells #[.slice l0.ba blankD.blocks.length l0.bc, .slice l0.wa blankD.waiting.length l0.wc] 46)).alloc (.cells #[.int .i64 0, .int .i64 0, .string ⟨#[]⟩, .int .i64 0, .slice none 0 0] 32)) w1.heap.size (w1.heap.size + 1) blankD l0 zeroG none 0 [] :=
    ⟨(VB.new w1 _ _ _).grow (gal (gre _) _), Five.new_at _ zeroG.root (.slice none 0 0) _ _ (by simp), ⟨_, _, _, _, _, _, hM1.grow hBA, hBA.size, Or.inl (Nat.le_refl _)⟩, ⟨World.ownsRow_nil _ _ _ _, fun x hx => (by cases hx), fun x hx => (by cases hx), fun i j _ hj => absurd hj (Nat.not_lt_zero _)⟩, rfl, zeroG_okK, Nat.lt_succ_self _⟩
  have hD0 : w.heap.size ≤ w1.heap.size := hb1.size
  generalize (w1.alloc (.cells #[.slice l0.ba blankD.blocks.length l0.bc, .slice l0.wa blankD.waiting.length l0.wc] 46)).alloc (.cells #[.int .i64 0, .int .i64 0, .string ⟨#[]⟩, .int .i64 0, .slice none 0 0] 32) = w2 at hB0 hS0 ⊢
  clear hBA hM1 hb1
  generalize w1.heap.size + 1 = L at hS0 ⊢
  generalize w1.heap.size = D at hS0 hD0 ⊢
  have hI0 := KInv.zero zeroG
  generalize blankD = d0 at hS0 hI0 ⊢
  generalize zeroG = g0 at hS0 hI0 ⊢
  go_wp2
  go_loopw [7, 8] (fun gen i wr => ∃ (k n : Nat) (d : DD) (l : DL) (last : GG) (na : Option Addr) (nc : Nat) (nl : List NL), k ≤ 5 ∧ n ≤ k ∧ gen = .int .i64 n ∧ i = .int .i64 k ∧ KInv n d last ∧ KS wr D L d l last na nc nl ∧ Below w.heap.size w wr) (fun _ i _ => 5 - (intOf i).toNat)
  case atStart => exact ⟨0, 0, d0, l0, g0, none, 0, [], by omega, Nat.le_refl _, rfl, rfl, hI0, hS0, hB0⟩
  case round =>
    clear hI0 hS0 hB0
    obtain ⟨k, n, d, l, last, na, nc, nl, hk5, hnk, rfl, rfl, hI, hS, hB⟩ := hrel
    go_upto_if 26 with (go_at_call 19; refine (wByte_any a' bs' cap' 0 _ (ha'.grow hB) hl' hx').mono ?_; rintro e w1 ⟨x, hx256, rfl, hb1⟩; obtain ⟨m, hm⟩ := hid_ex (x % 5); have hm5 : m < 5 := (by rw [hm.out]; exact Nat.mod_lt _ (by decide)); have hr : Int.tmod (x : Int) 5 = (m : Int) := (by rw [hm.out]; exact (Int.ofNat_tmod x 5).symm))
    by_cases hkm : k ≤ m
    case neg =>
      have hc : ¬ ((k : Int) ≤ (m : Int)) := by omega
      have hS1 := hS.grow hb1
      have hok := hI.gd.ok
      obtain ⟨v0, v1, _⟩ := id hS1.xd
      go_wp2_with (go_at_call 29; refine (implDiskOk_any d l _ hI.gd.o hS1.at_).mono ?_; rintro e w2 ⟨rfl, hb2⟩; rw [hok])
      go_ret
      exact ⟨rfl, gca (gca hB hb1) hb2⟩
    have hc : (k : Int) ≤ (m : Int) := by omega
    have e8 : IntKind.u8.wrap (k : Int) = (k : Int) := by rw [IntKind.wrap_u8']; omega
    have hlL := hS.xl.lt
    obtain ⟨cs, hcs⟩ := hid_ex ([k] ++ bs)
    have hcl : cs.length ≤ maxLen := by rw [hcs.out]; unfold maxLen; simp; omega
    have hcx : ∀ x, x ∈ cs → x < 256 := by
      rw [hcs.out]
      intro x hx2
      rcases List.mem_append.1 hx2 with e | e
      · have := List.mem_singleton.1 e; omega
      · exact hx x e
    go_upto_region 10 with (first
      | (at_builtin; refine wpList_append_code (base := w1.heap.size) (oa := some ⟨w1.heap.size, 0, none⟩) (xs := [k]) (bs := bs) (sa := a) (cap := cap) (c := 1) _ rfl (.tmp 31) (.tmp 32) rfl rfl rfl (by simp) (one_byte w1 k) (ha.grow (gal (gca hB hb1) _)) (by simp; omega) (by simp) ?_; intro gA cA w2 hO2 hgr2; rw [← hcs.out] at hO2 ⊢; have hb2 : Below w1.heap.size w1 w2 := (gal (gre w1) _).trans ((Kept.of_grown hgr2).below (by simp) (fun z hz e => by simp [Value.ownBlock] at e; omega)))
      | (go_at_call 13; refine (drawn_any (some ⟨gA, 0, none⟩) cs cA _ (owns_bytesD hO2) hcx hcl (fun g off e => by have h7 := owns_ltK hO2; simp only [Option.some.injEq, Addr.mk.injEq, and_true] at e; omega)).mono ?_; rintro e w3 ⟨g, ga, gc, gl, rfl, hgn, hgO, hgok, hgw, hb3⟩))
    have hG4 := Five.new_at w3 g.root (.slice ga g.nodes.length gc) 32 w3.heap.size rfl
    have hA4 := gal (gre w3) (.cells #[.int .i64 g.root.kind, .int .i64 g.root.num, .string g.root.text, .int .i64 g.root.node, .slice ga g.nodes.length gc] 32)
    have hb4 : Below wr.heap.size wr (w3.alloc (.cells #[.int .i64 g.root.kind, .int .i64 g.root.num, .string g.root.text, .int .i64 g.root.node, .slice ga g.nodes.length gc] 32)) := gal (gca (gca hb1 hb2) hb3) _
    have hS4 := hS.grow hb4
    have hgw4 := (hgw.kept (Kept.of_below hA4 (fun _ => False)) (fun _ _ e => e) (fun _ _ _ _ e => e)).le (base' := L + 1) (by have := hb1.size; have := hb2.size; omega)
    have hB4 := gca hB hb4
    have hLG : L < w3.heap.size := by have := hb1.size; have := hb2.size; have := hb3.size; omega
    generalize w3.alloc (.cells #[.int .i64 g.root.kind, .int .i64 g.root.num, .string g.root.text, .int .i64 g.root.node, .slice ga g.nodes.length gc] 32) = w4 at hG4 hA4 hb4 hS4 hgw4 hB4 ⊢
    generalize w3.heap.size = G at hG4 hLG ⊢
    clear hA4 hb4 hgw hb1 hb2 hb3 hB hS hO2 hgr2 hcs hcl hcx hlL hr hm
    obtain ⟨_, g0, g1, g2, g3, g4, _⟩ := id hG4
    have hgN4 : NodesAt w4.heap.size w4 ga g.nodes := by rw [← hgn]; exact hgw4.at_
    obtain ⟨p, hp⟩ := hid_ex (packB g)
    go_upto_if 38 with (go_at_call 16; refine (specPack_any ga gc g _ hgO hgN4).mono ?_; rintro e w5 ⟨oa5, oc5, rfl, _, hb5⟩; rw [← hp.out])
    by_cases hp0 : p.length = 0
    case pos =>
      have hcp : (p.length : Int) = 0 := by omega
      go_wp2
      go_roundw
      case rel => exact ⟨k + 1, n, d, l, last, na, nc, nl, by omega, by omega, rfl, by go_num, hI, hS4.grow hb5, gca hB4 hb5⟩
      case measure => simp [intOf]; omega
    have hcp : ¬ ((p.length : Int) = 0) := by omega
    have hpne : packB g ≠ [] := fun e => hp0 (by rw [hp.out, e]; rfl)
    obtain ⟨o, ⟨xok, xg, xl, xsm⟩, hN⟩ := hI.step (by omega) hgO hpne
    obtain ⟨d', hd'⟩ := hid_ex (d.keep g)
    rw [← hd'.out] at hN
    have hS5 := hS4.grow hb5
    have hG5 := hG4.kept (Kept.of_below hb5 (fun _ => False)) (fun e => e)
    have hgw5 := hgw4.kept (Kept.of_below hb5 (fun _ => False)) (fun _ _ e => e) (fun _ _ _ _ e => e)
    have hgN5 : NodesAt w5.heap.size w5 ga g.nodes := by rw [← hgn]; exact hgw5.at_
    have hB5 := gca hB4 hb5
    clear g0 g1 g2 g3 g4 hG4 hgN4 hgw4 hS4 hB4 hb5
    obtain ⟨_, g0, g1, g2, g3, g4, _⟩ := id hG5
    obtain ⟨v0, v1, _⟩ := id hS5.xd
    go_upto_region 13 with (go_at_call 26; refine (implKeep_any d l ga gc g _ hI.gd.o hS5.at_ hgO hgN5).mono ?_; rintro e w6 ⟨l6, fa6, ga6, fc6, gc6, rfl, hM6, hb6⟩; rw [← hd'.out] at hM6 ⊢; obtain ⟨f0, f1, ff⟩ := id (hS5.grow hb6).xd)
    obtain ⟨hS7, hK7⟩ := (hS5.grow hb6).putD hM6 (Nat.le_refl _) (by have := hS5.xl.lt; omega)
    have hK6 := (Kept.of_below hb6 (fun z => z = D)).trans hK7 (fun _ _ e => e)
    have hDL := hS5.lt
    have hG7 := hG5.kept hK6 (fun e => by omega)
    have hgw7 := hgw5.kept hK6 (hgw5.ge (fun b hb e => by omega)).1 (hgw5.ge (fun b hb e => by omega)).2
    have hB7 := hB5.trans (hK6.below (B := w.heap.size) hB5.size (fun z hz e => by omega))
    generalize (w6.setCell ⟨D, 0, none⟩ (.slice l6.ba d'.blocks.length l6.bc)).setCell ⟨D, 1, none⟩ (.slice l6.wa d'.waiting.length l6.wc) = w7 at hS7 hK7 hK6 hG7 hgw7 hB7 ⊢
    clear v0 v1 f0 f1 ff g0 g1 g2 g3 g4 hS5 hG5 hgw5 hgN5 hB5 hM6 hb6 hK7 hK6
    have hgN7 : NodesAt w7.heap.size w7 ga g.nodes := by rw [← hgn]; exact hgw7.at_
    obtain ⟨c, hc2⟩ := hid_ex (canon g)
    have hcz : Hid (canonZ g = c) := (by show _ = _; rw [hc2.out]; exact if_pos hgok)
    have hcO : c.Ok := by rw [hc2.out]; exact canon_ok hgO hgok
    have ht := hN.t
    rw [← hc2.out] at ht
    have htk := fun (u : World) (hb : Below w7.heap.size w7 u) => implTake_any d' l6 u hN.inv.gd.o (hS7.grow hb).at_ (cell_later (gca hB7 hb) hg)
    rw [ht] at htk
    have hB : Below w7.heap.size w7 w7.drew := gdr (gre _)
    refine wp_regionU (fun u => VB u D (.slice l6.ba d'.blocks.length l6.bc) (.slice l6.wa d'.waiting.length l6.wc) ∧ Five u G g.root (.slice ga g.nodes.length gc)) 99 (by kernel_rfl) ⟨hS7.xd.grow hB, hG7.kept (Kept.of_below hB (fun _ => False)) (fun e => e)⟩ (fun _ => ?_)
    refine anyU_take (i := 0) (v := ?_) rfl (by kernel_rfl) (by kernel_rfl) (by kernel_rfl) (by kernel_rfl) (fun _ _ _ h => h) (Or.inl ⟨by rfl, ?_⟩) ⟨hS7.xd.grow hB, hG7.kept (Kept.of_below hB (fun _ => False)) (fun e => e)⟩ ?_
    rotate_left
    · intro u hSu; obtain ⟨⟨v0, v1, _⟩, ⟨_, g0, g1, g2, g3, g4, _⟩⟩ := hSu; go_simp <;> with_reducible rfl
    simp only [Act.put, List.getElem_toArray, List.getElem_cons_zero, List.setIfInBounds_toArray, List.set_cons_zero, List.set_cons_succ]
    refine anyU_take (i := 2) (v := ?_) rfl (by kernel_rfl) (by kernel_rfl) (by kernel_rfl) (by kernel_rfl) (fun _ _ _ h => h) (Or.inl ⟨by rfl, ?_⟩) ⟨hS7.xd.grow hB, hG7.kept (Kept.of_below hB (fun _ => False)) (fun e => e)⟩ ?_
    rotate_left
    · intro u hSu; obtain ⟨⟨v0, v1, _⟩, ⟨_, g0, g1, g2, g3, g4, _⟩⟩ := hSu; go_simp <;> with_reducible rfl
    simp only [Act.put, List.getElem_toArray, List.getElem_cons_zero, List.getElem_cons_succ, List.setIfInBounds_toArray, List.set_cons_zero, List.set_cons_succ]
    refine anyU_take (i := 3) (v := ?_) rfl (by kernel_rfl) (by kernel_rfl) (by kernel_rfl) (by kernel_rfl) (fun _ _ _ h => h) (Or.inl ⟨by rfl, ?_⟩) ⟨hS7.xd.grow hB, hG7.kept (Kept.of_below hB (fun _ => False)) (fun e => e)⟩ ?_
    rotate_left
    · intro u hSu; obtain ⟨⟨v0, v1, _⟩, ⟨_, g0, g1, g2, g3, g4, _⟩⟩ := hSu; go_simp <;> with_reducible rfl
    simp only [Act.put, List.getElem_toArray, List.getElem_cons_zero, List.getElem_cons_succ, List.setIfInBounds_toArray, List.set_cons_zero, List.set_cons_succ]
    refine anyU_one (i := 1) (by kernel_rfl) rfl (fun K hK => ?_)
    go_simp
    refine (htk _ hB).mono ?_
    rintro e w8 ⟨ta, tc, tl, rfl, htn, hto, hb8⟩
    have hB := gca hB hb8; have htN := hto.at_; rw [htn] at htN
    refine hK.out _ _ ⟨hS7.xd.grow hB, hG7.kept (Kept.of_below hB (fun _ => False)) (fun e => e)⟩ ?_
    clear hK
    refine anyU_one (i := 4) (by kernel_rfl) rfl (fun K hK => ?_)
    go_simp
    refine (specCanonZ_any ga gc g _ hgO (hgN7.grow hB)).mono ?_
    rintro e w9 ⟨ca, cc, rfl, hcN, hb9⟩
    rw [hcz.out] at hcN ⊢; have hB := gca hB hb9
    refine hK.out _ _ ⟨hS7.xd.grow hB, hG7.kept (Kept.of_below hB (fun _ => False)) (fun e => e)⟩ ?_
    clear hK
    refine anyU_take (i := 5) (v := ?_) rfl (by kernel_rfl) (by kernel_rfl) (by kernel_rfl) (by kernel_rfl) (fun _ _ _ h => h) (Or.inl ⟨by rfl, ?_⟩) ⟨hS7.xd.grow hB, hG7.kept (Kept.of_below hB (fun _ => False)) (fun e => e)⟩ ?_
    rotate_left
    · intro u hSu; obtain ⟨⟨v0, v1, _⟩, ⟨_, g0, g1, g2, g3, g4, _⟩⟩ := hSu; go_simp <;> with_reducible rfl
    simp only [Act.put, List.getElem_toArray, List.getElem_cons_zero, List.getElem_cons_succ, List.setIfInBounds_toArray, List.set_cons_zero, List.set_cons_succ]
    refine anyU_one (i := 6) (by kernel_rfl) rfl (fun K hK => ?_)
    go_simp
    refine (wTaken_same ⟨0, ((n + 1 : Nat) : Int), c⟩ ta ca tc cc _ hcO (htN.grow hb9) hcN).mono ?_
    rintro e w10 ⟨rfl, hb10⟩
    have hB := gca hB hb10
    refine hK.out _ _ ⟨hS7.xd.grow hB, hG7.kept (Kept.of_below hB (fun _ => False)) (fun e => e)⟩ ?_
    clear hK
    refine anyU_take (i := 7) (v := ?_) rfl (by kernel_rfl) (by kernel_rfl) (by kernel_rfl) (by kernel_rfl) (fun _ _ _ h => h) (Or.inl ⟨by rfl, ?_⟩) ⟨hS7.xd.grow hB, hG7.kept (Kept.of_below hB (fun _ => False)) (fun e => e)⟩ ?_
    rotate_left
    · intro u hSu; obtain ⟨⟨v0, v1, _⟩, ⟨_, g0, g1, g2, g3, g4, _⟩⟩ := hSu; go_simp <;> with_reducible rfl
    simp only [Act.put, List.getElem_toArray, List.getElem_cons_zero, List.getElem_cons_succ, List.setIfInBounds_toArray, List.set_cons_zero, List.set_cons_succ]
    refine anyU_done (by kernel_rfl) ?_
    have hS10 := hS7.grow hB
    have hG10 := hG7.kept (Kept.of_below hB (fun _ => False)) (fun e => e)
    have hgw10 := hgw7.kept (Kept.of_below hB (fun _ => False)) (fun _ _ e => e) (fun _ _ _ _ e => e)
    have hB10 := gca hB7 hB
    clear hS7 hG7 hgw7 hB7 hB hb8 hb9 hb10 htN hto hcN hgN7 htk
    have e1 : ((n + 1 : Nat) : Int) = (n : Int) + 1 := by omega
    have hnk2 := hN.k
    rw [e1, ← hp.out] at hnk2
    have hol := hN.lt
    have hnwc := implNewest_any d' l6 w10 hN.inv.gd.o hS10.at_
    rw [hnk2] at hnwc
    obtain ⟨v0, v1, _⟩ := id hS10.xd
    go_upto_region 16 with (go_at_call 27; refine hnwc.mono ?_; rintro e w11 ⟨ka, kc, rfl, _, _, hb11⟩)
    have hV12 := V4.new_at w11 (.bool true) (.int .i64 ((n : Int) + 1)) (.int .i64 (o : Int)) (.slice ka p.length kc) 62 w11.heap.size rfl
    have hb12 := gal hb11 (.cells #[.bool true, .int .i64 ((n : Int) + 1), .int .i64 (o : Int), .slice ka p.length kc] 62)
    have hS12 := hS10.grow hb12
    have hB12 := gca hB10 hb12
    generalize w11.alloc (.cells #[.bool true, .int .i64 ((n : Int) + 1), .int .i64 (o : Int), .slice ka p.length kc] 62) = w12 at hV12 hb12 hS12 hB12 ⊢
    generalize w11.heap.size = KP at hV12 ⊢
    clear v0 v1 hb11 hnwc hnk2
    obtain ⟨v0, v1, _⟩ := id hS12.xd
    obtain ⟨_, k0, k1, k2, k3, _⟩ := id hV12
    have hhd := implHeadOf_any d' l6 (1 - (o : Int)) w12 hN.inv.gd.o hS12.at_ (small_i64 (by omega))
    rw [hN.h] at hhd
    go_upto_region 17 with (go_at_call 28; refine hhd.mono ?_; rintro e w13 ⟨rfl, hb13⟩)
    have hH14 := HV.new_at w13 ⟨xok, xg, xl, xsm⟩ 65 w13.heap.size rfl
    have hb14 := gal hb13 (.cells #[.bool xok, .int .i64 xg, .int .i64 xl, .int .i64 xsm] 65)
    have hS14 := hS12.grow hb14
    have hV14 := hV12.kept (Kept.of_below hb14 (fun _ => False)) (fun e => e)
    have hB14 := gca hB12 hb14
    have hb14a := gca hb12 hb14
    generalize w13.alloc (.cells #[.bool xok, .int .i64 xg, .int .i64 xl, .int .i64 xsm] 65) = w14 at hH14 hb14 hS14 hV14 hB14 hb14a ⊢
    generalize w13.heap.size = HP at hH14 ⊢
    have hG14 := hG10.kept (Kept.of_below hb14a (fun _ => False)) (fun e => e)
    have hgw14 := hgw10.kept (Kept.of_below hb14a (fun _ => False)) (fun _ _ e => e) (fun _ _ _ _ e => e)
    clear v0 v1 k0 k1 k2 k3 hb13 hb14 hb14a hb12 hhd hS12 hV12 hB12 hS10 hG10 hgw10 hB10
    have hnz := hN.z
    have hns := hN.s
    dsimp only at hnz hns
    have hgg : (((n : Int) + 1) != ((n : Int) + 1)) = false := by simp
    have hB : Below w14.heap.size w14 w14.drew := gdr (gre _)
    by_cases hn0 : n = 0
    case pos =>
      obtain rfl : xok = false := hnz hn0
      have hgt : ¬ ((1 : Int) < (n : Int) + 1) := by omega
      refine wp_regionU (fun u => V4 u KP (.bool true) (.int .i64 ((n : Int) + 1)) (.int .i64 (o : Int)) (.slice ka p.length kc) ∧ HV u HP ⟨false, xg, xl, xsm⟩ ∧ Five u L last.root (.slice na last.nodes.length nc)) 99 (by kernel_rfl) ⟨hV14.kept (Kept.of_below hB (fun _ => False)) (fun e => e), hH14.grow hB, hS14.xl.kept (Kept.of_below hB (fun _ => False)) (fun e => e)⟩ (fun _ => ?_)
      refine anyU_take (i := 0) (v := ?_) rfl (by kernel_rfl) (by kernel_rfl) (by kernel_rfl) (by kernel_rfl) (fun _ _ _ h => h) (Or.inl ⟨by rfl, ?_⟩) ⟨hV14.kept (Kept.of_below hB (fun _ => False)) (fun e => e), hH14.grow hB, hS14.xl.kept (Kept.of_below hB (fun _ => False)) (fun e => e)⟩ ?_
      rotate_left
      · intro u hSu; obtain ⟨⟨_, k0, k1, k2, k3, _⟩, ⟨⟨_, z0, z1, z2, z3⟩, _⟩, ⟨_, t0, t1, t2, t3, t4, _⟩⟩ := hSu; go_simp <;> with_reducible rfl
      simp only [Act.put, List.getElem_toArray, List.getElem_cons_zero, List.setIfInBounds_toArray, List.set_cons_zero, List.set_cons_succ]
      refine anyU_take (i := 1) (v := ?_) rfl (by kernel_rfl) (by kernel_rfl) (by kernel_rfl) (by kernel_rfl) (fun _ _ _ h => h) (Or.inl ⟨by rfl, ?_⟩) ⟨hV14.kept (Kept.of_below hB (fun _ => False)) (fun e => e), hH14.grow hB, hS14.xl.kept (Kept.of_below hB (fun _ => False)) (fun e => e)⟩ ?_
      rotate_left
      · intro u hSu; obtain ⟨⟨_, k0, k1, k2, k3, _⟩, ⟨⟨_, z0, z1, z2, z3⟩, _⟩, ⟨_, t0, t1, t2, t3, t4, _⟩⟩ := hSu; go_simp <;> with_reducible rfl
      simp only [Act.put, List.getElem_toArray, List.getElem_cons_zero, List.getElem_cons_succ, List.setIfInBounds_toArray, List.set_cons_zero, List.set_cons_succ]
      refine anyU_take (i := 2) (v := ?_) rfl (by kernel_rfl) (by kernel_rfl) (by kernel_rfl) (by kernel_rfl) (fun _ _ _ h => h) (Or.inl ⟨by rfl, ?_⟩) ⟨hV14.kept (Kept.of_below hB (fun _ => False)) (fun e => e), hH14.grow hB, hS14.xl.kept (Kept.of_below hB (fun _ => False)) (fun e => e)⟩ ?_
      rotate_left
      · intro u hSu; obtain ⟨⟨_, k0, k1, k2, k3, _⟩, ⟨⟨_, z0, z1, z2, z3⟩, _⟩, ⟨_, t0, t1, t2, t3, t4, _⟩⟩ := hSu; go_simp <;> with_reducible rfl
      simp only [Act.put, List.getElem_toArray, List.getElem_cons_zero, List.getElem_cons_succ, List.setIfInBounds_toArray, List.set_cons_zero, List.set_cons_succ]
      refine anyU_take (i := 3) (v := ?_) rfl (by kernel_rfl) (by kernel_rfl) (by kernel_rfl) (by kernel_rfl) (fun _ _ _ h => h) (Or.inl ⟨by rfl, ?_⟩) ⟨hV14.kept (Kept.of_below hB (fun _ => False)) (fun e => e), hH14.grow hB, hS14.xl.kept (Kept.of_below hB (fun _ => False)) (fun e => e)⟩ ?_
      rotate_left
      · intro u hSu; obtain ⟨⟨_, k0, k1, k2, k3, _⟩, ⟨⟨_, z0, z1, z2, z3⟩, _⟩, ⟨_, t0, t1, t2, t3, t4, _⟩⟩ := hSu; go_simp <;> with_reducible rfl
      simp only [Act.put, List.getElem_toArray, List.getElem_cons_zero, List.getElem_cons_succ, List.setIfInBounds_toArray, List.set_cons_zero, List.set_cons_succ]
      refine anyU_take (i := 4) (v := ?_) rfl (by kernel_rfl) (by kernel_rfl) (by kernel_rfl) (by kernel_rfl) (fun _ _ _ h => h) (Or.inl ⟨by rfl, ?_⟩) ⟨hV14.kept (Kept.of_below hB (fun _ => False)) (fun e => e), hH14.grow hB, hS14.xl.kept (Kept.of_below hB (fun _ => False)) (fun e => e)⟩ ?_
      rotate_left
      · intro u hSu; obtain ⟨⟨_, k0, k1, k2, k3, _⟩, ⟨⟨_, z0, z1, z2, z3⟩, _⟩, ⟨_, t0, t1, t2, t3, t4, _⟩⟩ := hSu; go_simp <;> with_reducible rfl
      simp only [Act.put, List.getElem_toArray, List.getElem_cons_zero, List.getElem_cons_succ, List.setIfInBounds_toArray, List.set_cons_zero, List.set_cons_succ]
      refine anyU_take (i := 5) (v := ?_) rfl (by kernel_rfl) (by kernel_rfl) (by kernel_rfl) (by kernel_rfl) (fun _ _ _ h => h) (Or.inl ⟨by rfl, ?_⟩) ⟨hV14.kept (Kept.of_below hB (fun _ => False)) (fun e => e), hH14.grow hB, hS14.xl.kept (Kept.of_below hB (fun _ => False)) (fun e => e)⟩ ?_
      rotate_left
      · intro u hSu; obtain ⟨⟨_, k0, k1, k2, k3, _⟩, ⟨⟨_, z0, z1, z2, z3⟩, _⟩, ⟨_, t0, t1, t2, t3, t4, _⟩⟩ := hSu; go_simp <;> with_reducible rfl
      simp only [Act.put, List.getElem_toArray, List.getElem_cons_zero, List.getElem_cons_succ, List.setIfInBounds_toArray, List.set_cons_zero, List.set_cons_succ]
      refine anyU_take (i := 6) (v := ?_) rfl (by kernel_rfl) (by kernel_rfl) (by kernel_rfl) (by kernel_rfl) (fun _ _ _ h => h) (Or.inl ⟨by rfl, ?_⟩) ⟨hV14.kept (Kept.of_below hB (fun _ => False)) (fun e => e), hH14.grow hB, hS14.xl.kept (Kept.of_below hB (fun _ => False)) (fun e => e)⟩ ?_
      rotate_left
      · intro u hSu; obtain ⟨⟨_, k0, k1, k2, k3, _⟩, ⟨⟨_, z0, z1, z2, z3⟩, _⟩, ⟨_, t0, t1, t2, t3, t4, _⟩⟩ := hSu; go_simp <;> with_reducible rfl
      simp only [Act.put, List.getElem_toArray, List.getElem_cons_zero, List.getElem_cons_succ, List.setIfInBounds_toArray, List.set_cons_zero, List.set_cons_succ]
      refine anyU_take (i := 7) (v := ?_) rfl (by kernel_rfl) (by kernel_rfl) (by kernel_rfl) (by kernel_rfl) (fun _ _ _ h => h) (Or.inl ⟨by rfl, ?_⟩) ⟨hV14.kept (Kept.of_below hB (fun _ => False)) (fun e => e), hH14.grow hB, hS14.xl.kept (Kept.of_below hB (fun _ => False)) (fun e => e)⟩ ?_
      rotate_left
      · intro u hSu; obtain ⟨⟨_, k0, k1, k2, k3, _⟩, ⟨⟨_, z0, z1, z2, z3⟩, _⟩, ⟨_, t0, t1, t2, t3, t4, _⟩⟩ := hSu; go_simp <;> with_reducible rfl
      simp only [Act.put, List.getElem_toArray, List.getElem_cons_zero, List.getElem_cons_succ, List.setIfInBounds_toArray, List.set_cons_zero, List.set_cons_succ]
      refine anyU_take (i := 8) (v := ?_) rfl (by kernel_rfl) (by kernel_rfl) (by kernel_rfl) (by kernel_rfl) (fun _ _ _ h => h) (Or.inl ⟨by rfl, ?_⟩) ⟨hV14.kept (Kept.of_below hB (fun _ => False)) (fun e => e), hH14.grow hB, hS14.xl.kept (Kept.of_below hB (fun _ => False)) (fun e => e)⟩ ?_
      rotate_left
      · intro u hSu; obtain ⟨⟨_, k0, k1, k2, k3, _⟩, ⟨⟨_, z0, z1, z2, z3⟩, _⟩, ⟨_, t0, t1, t2, t3, t4, _⟩⟩ := hSu; go_simp <;> with_reducible rfl
      simp only [Act.put, List.getElem_toArray, List.getElem_cons_zero, List.getElem_cons_succ, List.setIfInBounds_toArray, List.set_cons_zero, List.set_cons_succ]
      refine anyU_take (i := 9) (v := ?_) rfl (by kernel_rfl) (by kernel_rfl) (by kernel_rfl) (by kernel_rfl) (fun _ _ _ h => h) (Or.inl ⟨by rfl, ?_⟩) ⟨hV14.kept (Kept.of_below hB (fun _ => False)) (fun e => e), hH14.grow hB, hS14.xl.kept (Kept.of_below hB (fun _ => False)) (fun e => e)⟩ ?_
      rotate_left
      · intro u hSu; obtain ⟨⟨_, k0, k1, k2, k3, _⟩, ⟨⟨_, z0, z1, z2, z3⟩, _⟩, ⟨_, t0, t1, t2, t3, t4, _⟩⟩ := hSu; go_simp <;> with_reducible rfl
      simp only [Act.put, List.getElem_toArray, List.getElem_cons_zero, List.getElem_cons_succ, List.setIfInBounds_toArray, List.set_cons_zero, List.set_cons_succ]
      refine anyU_take (i := 10) (v := ?_) rfl (by kernel_rfl) (by kernel_rfl) (by kernel_rfl) (by kernel_rfl) (fun _ _ _ h => h) (Or.inl ⟨by rfl, ?_⟩) ⟨hV14.kept (Kept.of_below hB (fun _ => False)) (fun e => e), hH14.grow hB, hS14.xl.kept (Kept.of_below hB (fun _ => False)) (fun e => e)⟩ ?_
      rotate_left
      · intro u hSu; obtain ⟨⟨_, k0, k1, k2, k3, _⟩, ⟨⟨_, z0, z1, z2, z3⟩, _⟩, ⟨_, t0, t1, t2, t3, t4, _⟩⟩ := hSu; go_simp <;> with_reducible rfl
      simp only [Act.put, List.getElem_toArray, List.getElem_cons_zero, List.getElem_cons_succ, List.setIfInBounds_toArray, List.set_cons_zero, List.set_cons_succ]
      refine anyU_take (i := 11) (v := ?_) rfl (by kernel_rfl) (by kernel_rfl) (by kernel_rfl) (by kernel_rfl) (fun _ _ _ h => h) (Or.inl ⟨by rfl, ?_⟩) ⟨hV14.kept (Kept.of_below hB (fun _ => False)) (fun e => e), hH14.grow hB, hS14.xl.kept (Kept.of_below hB (fun _ => False)) (fun e => e)⟩ ?_
      rotate_left
      · intro u hSu; obtain ⟨⟨_, k0, k1, k2, k3, _⟩, ⟨⟨_, z0, z1, z2, z3⟩, _⟩, ⟨_, t0, t1, t2, t3, t4, _⟩⟩ := hSu; go_simp <;> with_reducible rfl
      simp only [Act.put, List.getElem_toArray, List.getElem_cons_zero, List.getElem_cons_succ, List.setIfInBounds_toArray, List.set_cons_zero, List.set_cons_succ]
      refine anyU_take (i := 12) (v := ?_) rfl (by kernel_rfl) (by kernel_rfl) (by kernel_rfl) (by kernel_rfl) (fun _ _ _ h => h) (Or.inl ⟨by rfl, ?_⟩) ⟨hV14.kept (Kept.of_below hB (fun _ => False)) (fun e => e), hH14.grow hB, hS14.xl.kept (Kept.of_below hB (fun _ => False)) (fun e => e)⟩ ?_
      rotate_left
      · intro u hSu; obtain ⟨⟨_, k0, k1, k2, k3, _⟩, ⟨⟨_, z0, z1, z2, z3⟩, _⟩, ⟨_, t0, t1, t2, t3, t4, _⟩⟩ := hSu; go_simp <;> with_reducible rfl
      simp only [Act.put, List.getElem_toArray, List.getElem_cons_zero, List.getElem_cons_succ, List.setIfInBounds_toArray, List.set_cons_zero, List.set_cons_succ]
      refine anyU_take (i := 13) (v := ?_) rfl (by kernel_rfl) (by kernel_rfl) (by kernel_rfl) (by kernel_rfl) (fun _ _ _ h => h) (Or.inl ⟨by rfl, ?_⟩) ⟨hV14.kept (Kept.of_below hB (fun _ => False)) (fun e => e), hH14.grow hB, hS14.xl.kept (Kept.of_below hB (fun _ => False)) (fun e => e)⟩ ?_
      rotate_left
      · intro u hSu; obtain ⟨⟨_, k0, k1, k2, k3, _⟩, ⟨⟨_, z0, z1, z2, z3⟩, _⟩, ⟨_, t0, t1, t2, t3, t4, _⟩⟩ := hSu; go_simp <;> with_reducible rfl
      simp only [Act.put, List.getElem_toArray, List.getElem_cons_zero, List.getElem_cons_succ, List.setIfInBounds_toArray, List.set_cons_zero, List.set_cons_succ]
      refine anyU_take (i := 14) (v := ?_) rfl (by kernel_rfl) (by kernel_rfl) (by kernel_rfl) (by kernel_rfl) (fun _ _ _ h => h) (Or.inl ⟨by rfl, ?_⟩) ⟨hV14.kept (Kept.of_below hB (fun _ => False)) (fun e => e), hH14.grow hB, hS14.xl.kept (Kept.of_below hB (fun _ => False)) (fun e => e)⟩ ?_
      rotate_left
      · intro u hSu; obtain ⟨⟨_, k0, k1, k2, k3, _⟩, ⟨⟨_, z0, z1, z2, z3⟩, _⟩, ⟨_, t0, t1, t2, t3, t4, _⟩⟩ := hSu; go_simp <;> with_reducible rfl
      simp only [Act.put, List.getElem_toArray, List.getElem_cons_zero, List.getElem_cons_succ, List.setIfInBounds_toArray, List.set_cons_zero, List.set_cons_succ]
      refine anyU_take (i := 15) (v := ?_) rfl (by kernel_rfl) (by kernel_rfl) (by kernel_rfl) (by kernel_rfl) (fun _ _ _ h => h) (Or.inl ⟨by rfl, ?_⟩) ⟨hV14.kept (Kept.of_below hB (fun _ => False)) (fun e => e), hH14.grow hB, hS14.xl.kept (Kept.of_below hB (fun _ => False)) (fun e => e)⟩ ?_
      rotate_left
      · intro u hSu; obtain ⟨⟨_, k0, k1, k2, k3, _⟩, ⟨⟨_, z0, z1, z2, z3⟩, _⟩, ⟨_, t0, t1, t2, t3, t4, _⟩⟩ := hSu; go_simp <;> with_reducible rfl
      simp only [Act.put, List.getElem_toArray, List.getElem_cons_zero, List.getElem_cons_succ, List.setIfInBounds_toArray, List.set_cons_zero, List.set_cons_succ]
      refine anyU_take (i := 16) (v := ?_) rfl (by kernel_rfl) (by kernel_rfl) (by kernel_rfl) (by kernel_rfl) (fun _ _ _ h => h) (Or.inl ⟨by rfl, ?_⟩) ⟨hV14.kept (Kept.of_below hB (fun _ => False)) (fun e => e), hH14.grow hB, hS14.xl.kept (Kept.of_below hB (fun _ => False)) (fun e => e)⟩ ?_
      rotate_left
      · intro u hSu; obtain ⟨⟨_, k0, k1, k2, k3, _⟩, ⟨⟨_, z0, z1, z2, z3⟩, _⟩, ⟨_, t0, t1, t2, t3, t4, _⟩⟩ := hSu; go_simp <;> with_reducible rfl
      simp only [Act.put, List.getElem_toArray, List.getElem_cons_zero, List.getElem_cons_succ, List.setIfInBounds_toArray, List.set_cons_zero, List.set_cons_succ]
      refine anyU_take (i := 17) (v := ?_) rfl (by kernel_rfl) (by kernel_rfl) (by kernel_rfl) (by kernel_rfl) (fun _ _ _ h => h) (Or.inl ⟨by rfl, ?_⟩) ⟨hV14.kept (Kept.of_below hB (fun _ => False)) (fun e => e), hH14.grow hB, hS14.xl.kept (Kept.of_below hB (fun _ => False)) (fun e => e)⟩ ?_
      rotate_left
      · intro u hSu; obtain ⟨⟨_, k0, k1, k2, k3, _⟩, ⟨⟨_, z0, z1, z2, z3⟩, _⟩, ⟨_, t0, t1, t2, t3, t4, _⟩⟩ := hSu; go_simp <;> with_reducible rfl
      simp only [Act.put, List.getElem_toArray, List.getElem_cons_zero, List.getElem_cons_succ, List.setIfInBounds_toArray, List.set_cons_zero, List.set_cons_succ]
      refine anyU_take (i := 18) (v := ?_) rfl (by kernel_rfl) (by kernel_rfl) (by kernel_rfl) (by kernel_rfl) (fun _ _ _ h => h) (Or.inl ⟨by rfl, ?_⟩) ⟨hV14.kept (Kept.of_below hB (fun _ => False)) (fun e => e), hH14.grow hB, hS14.xl.kept (Kept.of_below hB (fun _ => False)) (fun e => e)⟩ ?_
      rotate_left
      · intro u hSu; obtain ⟨⟨_, k0, k1, k2, k3, _⟩, ⟨⟨_, z0, z1, z2, z3⟩, _⟩, ⟨_, t0, t1, t2, t3, t4, _⟩⟩ := hSu; go_simp <;> with_reducible rfl
      simp only [Act.put, List.getElem_toArray, List.getElem_cons_zero, List.getElem_cons_succ, List.setIfInBounds_toArray, List.set_cons_zero, List.set_cons_succ]
      refine anyU_take (i := 19) (v := ?_) rfl (by kernel_rfl) (by kernel_rfl) (by kernel_rfl) (by kernel_rfl) (fun _ _ _ h => h) (Or.inl ⟨by rfl, ?_⟩) ⟨hV14.kept (Kept.of_below hB (fun _ => False)) (fun e => e), hH14.grow hB, hS14.xl.kept (Kept.of_below hB (fun _ => False)) (fun e => e)⟩ ?_
      rotate_left
      · intro u hSu; obtain ⟨⟨_, k0, k1, k2, k3, _⟩, ⟨⟨_, z0, z1, z2, z3⟩, _⟩, ⟨_, t0, t1, t2, t3, t4, _⟩⟩ := hSu; go_simp <;> with_reducible rfl
      simp only [Act.put, List.getElem_toArray, List.getElem_cons_zero, List.getElem_cons_succ, List.setIfInBounds_toArray, List.set_cons_zero, List.set_cons_succ]
      refine anyU_take (i := 20) (v := undef) rfl (by kernel_rfl) (by kernel_rfl) (by kernel_rfl) (by kernel_rfl) (fun _ _ _ h => h) (Or.inr ⟨by rfl, rfl⟩) ⟨hV14.kept (Kept.of_below hB (fun _ => False)) (fun e => e), hH14.grow hB, hS14.xl.kept (Kept.of_below hB (fun _ => False)) (fun e => e)⟩ ?_
      simp only [Act.put, List.getElem_toArray, List.getElem_cons_zero, List.getElem_cons_succ, List.setIfInBounds_toArray, List.set_cons_zero, List.set_cons_succ]
      refine anyU_take (i := 21) (v := undef) rfl (by kernel_rfl) (by kernel_rfl) (by kernel_rfl) (by kernel_rfl) (fun _ _ _ h => h) (Or.inr ⟨by rfl, rfl⟩) ⟨hV14.kept (Kept.of_below hB (fun _ => False)) (fun e => e), hH14.grow hB, hS14.xl.kept (Kept.of_below hB (fun _ => False)) (fun e => e)⟩ ?_
      simp only [Act.put, List.getElem_toArray, List.getElem_cons_zero, List.getElem_cons_succ, List.setIfInBounds_toArray, List.set_cons_zero, List.set_cons_succ]
      refine anyU_take (i := 22) (v := undef) rfl (by kernel_rfl) (by kernel_rfl) (by kernel_rfl) (by kernel_rfl) (fun _ _ _ h => h) (Or.inr ⟨by rfl, rfl⟩) ⟨hV14.kept (Kept.of_below hB (fun _ => False)) (fun e => e), hH14.grow hB, hS14.xl.kept (Kept.of_below hB (fun _ => False)) (fun e => e)⟩ ?_
      simp only [Act.put, List.getElem_toArray, List.getElem_cons_zero, List.getElem_cons_succ, List.setIfInBounds_toArray, List.set_cons_zero, List.set_cons_succ]
      refine anyU_take (i := 23) (v := undef) rfl (by kernel_rfl) (by kernel_rfl) (by kernel_rfl) (by kernel_rfl) (fun _ _ _ h => h) (Or.inr ⟨by rfl, rfl⟩) ⟨hV14.kept (Kept.of_below hB (fun _ => False)) (fun e => e), hH14.grow hB, hS14.xl.kept (Kept.of_below hB (fun _ => False)) (fun e => e)⟩ ?_
      simp only [Act.put, List.getElem_toArray, List.getElem_cons_zero, List.getElem_cons_succ, List.setIfInBounds_toArray, List.set_cons_zero, List.set_cons_succ]
      refine anyU_take (i := 24) (v := undef) rfl (by kernel_rfl) (by kernel_rfl) (by kernel_rfl) (by kernel_rfl) (fun _ _ _ h => h) (Or.inr ⟨by rfl, rfl⟩) ⟨hV14.kept (Kept.of_below hB (fun _ => False)) (fun e => e), hH14.grow hB, hS14.xl.kept (Kept.of_below hB (fun _ => False)) (fun e => e)⟩ ?_
      simp only [Act.put, List.getElem_toArray, List.getElem_cons_zero, List.getElem_cons_succ, List.setIfInBounds_toArray, List.set_cons_zero, List.set_cons_succ]
      refine anyU_take (i := 25) (v := undef) rfl (by kernel_rfl) (by kernel_rfl) (by kernel_rfl) (by kernel_rfl) (fun _ _ _ h => h) (Or.inr ⟨by rfl, rfl⟩) ⟨hV14.kept (Kept.of_below hB (fun _ => False)) (fun e => e), hH14.grow hB, hS14.xl.kept (Kept.of_below hB (fun _ => False)) (fun e => e)⟩ ?_
      simp only [Act.put, List.getElem_toArray, List.getElem_cons_zero, List.getElem_cons_succ, List.setIfInBounds_toArray, List.set_cons_zero, List.set_cons_succ]
      refine anyU_take (i := 26) (v := undef) rfl (by kernel_rfl) (by kernel_rfl) (by kernel_rfl) (by kernel_rfl) (fun _ _ _ h => h) (Or.inr ⟨by rfl, rfl⟩) ⟨hV14.kept (Kept.of_below hB (fun _ => False)) (fun e => e), hH14.grow hB, hS14.xl.kept (Kept.of_below hB (fun _ => False)) (fun e => e)⟩ ?_
      simp only [Act.put, List.getElem_toArray, List.getElem_cons_zero, List.getElem_cons_succ, List.setIfInBounds_toArray, List.set_cons_zero, List.set_cons_succ]
      refine anyU_take (i := 27) (v := undef) rfl (by kernel_rfl) (by kernel_rfl) (by kernel_rfl) (by kernel_rfl) (fun _ _ _ h => h) (Or.inr ⟨by rfl, rfl⟩) ⟨hV14.kept (Kept.of_below hB (fun _ => False)) (fun e => e), hH14.grow hB, hS14.xl.kept (Kept.of_below hB (fun _ => False)) (fun e => e)⟩ ?_
      simp only [Act.put, List.getElem_toArray, List.getElem_cons_zero, List.getElem_cons_succ, List.setIfInBounds_toArray, List.set_cons_zero, List.set_cons_succ]
      refine anyU_take (i := 28) (v := undef) rfl (by kernel_rfl) (by kernel_rfl) (by kernel_rfl) (by kernel_rfl) (fun _ _ _ h => h) (Or.inr ⟨by rfl, rfl⟩) ⟨hV14.kept (Kept.of_below hB (fun _ => False)) (fun e => e), hH14.grow hB, hS14.xl.kept (Kept.of_below hB (fun _ => False)) (fun e => e)⟩ ?_
      simp only [Act.put, List.getElem_toArray, List.getElem_cons_zero, List.getElem_cons_succ, List.setIfInBounds_toArray, List.set_cons_zero, List.set_cons_succ]
      refine anyU_skipH (i := 29) (by kernel_rfl) rfl (by rfl) ⟨hV14.kept (Kept.of_below hB (fun _ => False)) (fun e => e), hH14.grow hB, hS14.xl.kept (Kept.of_below hB (fun _ => False)) (fun e => e)⟩ ?_
      simp only [Act.put, List.getElem_toArray, List.getElem_cons_zero, List.getElem_cons_succ, List.setIfInBounds_toArray, List.set_cons_zero, List.set_cons_succ]
      refine anyU_take (i := 30) (v := undef) rfl (by kernel_rfl) (by kernel_rfl) (by kernel_rfl) (by kernel_rfl) (fun _ _ _ h => h) (Or.inr ⟨by rfl, rfl⟩) ⟨hV14.kept (Kept.of_below hB (fun _ => False)) (fun e => e), hH14.grow hB, hS14.xl.kept (Kept.of_below hB (fun _ => False)) (fun e => e)⟩ ?_
      simp only [Act.put, List.getElem_toArray, List.getElem_cons_zero, List.getElem_cons_succ, List.setIfInBounds_toArray, List.set_cons_zero, List.set_cons_succ]
      refine anyU_take (i := 31) (v := undef) rfl (by kernel_rfl) (by kernel_rfl) (by kernel_rfl) (by kernel_rfl) (fun _ _ _ h => h) (Or.inr ⟨by rfl, rfl⟩) ⟨hV14.kept (Kept.of_below hB (fun _ => False)) (fun e => e), hH14.grow hB, hS14.xl.kept (Kept.of_below hB (fun _ => False)) (fun e => e)⟩ ?_
      simp only [Act.put, List.getElem_toArray, List.getElem_cons_zero, List.getElem_cons_succ, List.setIfInBounds_toArray, List.set_cons_zero, List.set_cons_succ]
      refine anyU_take (i := 32) (v := undef) rfl (by kernel_rfl) (by kernel_rfl) (by kernel_rfl) (by kernel_rfl) (fun _ _ _ h => h) (Or.inr ⟨by rfl, rfl⟩) ⟨hV14.kept (Kept.of_below hB (fun _ => False)) (fun e => e), hH14.grow hB, hS14.xl.kept (Kept.of_below hB (fun _ => False)) (fun e => e)⟩ ?_
      simp only [Act.put, List.getElem_toArray, List.getElem_cons_zero, List.getElem_cons_succ, List.setIfInBounds_toArray, List.set_cons_zero, List.set_cons_succ]
      refine anyU_take (i := 33) (v := ?_) rfl (by kernel_rfl) (by kernel_rfl) (by kernel_rfl) (by kernel_rfl) (fun _ _ _ h => h) (Or.inl ⟨by rfl, ?_⟩) ⟨hV14.kept (Kept.of_below hB (fun _ => False)) (fun e => e), hH14.grow hB, hS14.xl.kept (Kept.of_below hB (fun _ => False)) (fun e => e)⟩ ?_
      rotate_left
      · intro u hSu; obtain ⟨⟨_, k0, k1, k2, k3, _⟩, ⟨⟨_, z0, z1, z2, z3⟩, _⟩, ⟨_, t0, t1, t2, t3, t4, _⟩⟩ := hSu; go_simp <;> with_reducible rfl
      simp only [Act.put, List.getElem_toArray, List.getElem_cons_zero, List.getElem_cons_succ, List.setIfInBounds_toArray, List.set_cons_zero, List.set_cons_succ]
      refine anyU_take (i := 34) (v := ?_) rfl (by kernel_rfl) (by kernel_rfl) (by kernel_rfl) (by kernel_rfl) (fun _ _ _ h => h) (Or.inl ⟨by rfl, ?_⟩) ⟨hV14.kept (Kept.of_below hB (fun _ => False)) (fun e => e), hH14.grow hB, hS14.xl.kept (Kept.of_below hB (fun _ => False)) (fun e => e)⟩ ?_
      rotate_left
      · intro u hSu; obtain ⟨⟨_, k0, k1, k2, k3, _⟩, ⟨⟨_, z0, z1, z2, z3⟩, _⟩, ⟨_, t0, t1, t2, t3, t4, _⟩⟩ := hSu; go_simp <;> with_reducible rfl
      simp only [Act.put, List.getElem_toArray, List.getElem_cons_zero, List.getElem_cons_succ, List.setIfInBounds_toArray, List.set_cons_zero, List.set_cons_succ]
      refine anyU_done (by kernel_rfl) ?_
      have hS15 := hS14.grow hB
      have hG15 := hG14.kept (Kept.of_below hB (fun _ => False)) (fun e => e)
      have hgw15 := hgw14.kept (Kept.of_below hB (fun _ => False)) (fun _ _ e => e) (fun _ _ _ _ e => e)
      have hB15 := gca hB14 hB
      generalize w14.drew = w15 at hS15 hG15 hgw15 hB15 ⊢
      clear hS14 hG14 hgw14 hB14 hV14 hH14 hB
      obtain ⟨_, g0, g1, g2, g3, g4, _⟩ := id hG15
      obtain ⟨_, f0, f1, f2, f3, f4, ff⟩ := id hS15.xl
      go_wp2
      obtain ⟨hS16, hK16⟩ := hS15.putL hgw15 hgn hgO
      have hB16 := hB15.trans (hK16.below (B := w.heap.size) hB15.size (fun z hz e => by omega))
      generalize ((((w15.setCell ⟨L, 0, none⟩ (.int .i64 g.root.kind)).setCell ⟨L, 1, none⟩ (.int .i64 g.root.num)).setCell ⟨L, 2, none⟩ (.string g.root.text)).setCell ⟨L, 3, none⟩ (.int .i64 g.root.node)).setCell ⟨L, 4, none⟩ (.slice ga g.nodes.length gc) = w16 at hS16 hK16 hB16 ⊢
      go_roundw
      case rel => exact ⟨k + 1, n + 1, d', l6, g, ga, gc, gl, by omega, by omega, by go_num, by go_num, hN.inv, hS16, hB16⟩
      case measure => simp [intOf]; omega
    case neg =>
      obtain ⟨rfl, rfl, rfl⟩ := hns (by omega)
      have hgt : (1 : Int) < (n : Int) + 1 := by omega
      have hnn : ((n : Int) != (n : Int)) = false := by simp
      have hpp : (((packB last).length : Int) != ((packB last).length : Int)) = false := by simp
      refine wp_regionU (fun u => V4 u KP (.bool true) (.int .i64 ((n : Int) + 1)) (.int .i64 (o : Int)) (.slice ka p.length kc) ∧ HV u HP ⟨true, (n : Int), ((packB last).length : Int), xsm⟩ ∧ Five u L last.root (.slice na last.nodes.length nc)) 99 (by kernel_rfl) ⟨hV14.kept (Kept.of_below hB (fun _ => False)) (fun e => e), hH14.grow hB, hS14.xl.kept (Kept.of_below hB (fun _ => False)) (fun e => e)⟩ (fun _ => ?_)
      refine anyU_take (i := 0) (v := ?_) rfl (by kernel_rfl) (by kernel_rfl) (by kernel_rfl) (by kernel_rfl) (fun _ _ _ h => h) (Or.inl ⟨by rfl, ?_⟩) ⟨hV14.kept (Kept.of_below hB (fun _ => False)) (fun e => e), hH14.grow hB, hS14.xl.kept (Kept.of_below hB (fun _ => False)) (fun e => e)⟩ ?_
      rotate_left
      · intro u hSu; obtain ⟨⟨_, k0, k1, k2, k3, _⟩, ⟨⟨_, z0, z1, z2, z3⟩, _⟩, ⟨_, t0, t1, t2, t3, t4, _⟩⟩ := hSu; go_simp <;> with_reducible rfl
      simp only [Act.put, List.getElem_toArray, List.getElem_cons_zero, List.setIfInBounds_toArray, List.set_cons_zero, List.set_cons_succ]
      refine anyU_take (i := 1) (v := ?_) rfl (by kernel_rfl) (by kernel_rfl) (by kernel_rfl) (by kernel_rfl) (fun _ _ _ h => h) (Or.inl ⟨by rfl, ?_⟩) ⟨hV14.kept (Kept.of_below hB (fun _ => False)) (fun e => e), hH14.grow hB, hS14.xl.kept (Kept.of_below hB (fun _ => False)) (fun e => e)⟩ ?_
      rotate_left
      · intro u hSu; obtain ⟨⟨_, k0, k1, k2, k3, _⟩, ⟨⟨_, z0, z1, z2, z3⟩, _⟩, ⟨_, t0, t1, t2, t3, t4, _⟩⟩ := hSu; go_simp <;> with_reducible rfl
      simp only [Act.put, List.getElem_toArray, List.getElem_cons_zero, List.getElem_cons_succ, List.setIfInBounds_toArray, List.set_cons_zero, List.set_cons_succ]
      refine anyU_take (i := 2) (v := ?_) rfl (by kernel_rfl) (by kernel_rfl) (by kernel_rfl) (by kernel_rfl) (fun _ _ _ h => h) (Or.inl ⟨by rfl, ?_⟩) ⟨hV14.kept (Kept.of_below hB (fun _ => False)) (fun e => e), hH14.grow hB, hS14.xl.kept (Kept.of_below hB (fun _ => False)) (fun e => e)⟩ ?_
      rotate_left
      · intro u hSu; obtain ⟨⟨_, k0, k1, k2, k3, _⟩, ⟨⟨_, z0, z1, z2, z3⟩, _⟩, ⟨_, t0, t1, t2, t3, t4, _⟩⟩ := hSu; go_simp <;> with_reducible rfl
      simp only [Act.put, List.getElem_toArray, List.getElem_cons_zero, List.getElem_cons_succ, List.setIfInBounds_toArray, List.set_cons_zero, List.set_cons_succ]
      refine anyU_take (i := 3) (v := ?_) rfl (by kernel_rfl) (by kernel_rfl) (by kernel_rfl) (by kernel_rfl) (fun _ _ _ h => h) (Or.inl ⟨by rfl, ?_⟩) ⟨hV14.kept (Kept.of_below hB (fun _ => False)) (fun e => e), hH14.grow hB, hS14.xl.kept (Kept.of_below hB (fun _ => False)) (fun e => e)⟩ ?_
      rotate_left
      · intro u hSu; obtain ⟨⟨_, k0, k1, k2, k3, _⟩, ⟨⟨_, z0, z1, z2, z3⟩, _⟩, ⟨_, t0, t1, t2, t3, t4, _⟩⟩ := hSu; go_simp <;> with_reducible rfl
      simp only [Act.put, List.getElem_toArray, List.getElem_cons_zero, List.getElem_cons_succ, List.setIfInBounds_toArray, List.set_cons_zero, List.set_cons_succ]
      refine anyU_take (i := 4) (v := ?_) rfl (by kernel_rfl) (by kernel_rfl) (by kernel_rfl) (by kernel_rfl) (fun _ _ _ h => h) (Or.inl ⟨by rfl, ?_⟩) ⟨hV14.kept (Kept.of_below hB (fun _ => False)) (fun e => e), hH14.grow hB, hS14.xl.kept (Kept.of_below hB (fun _ => False)) (fun e => e)⟩ ?_
      rotate_left
      · intro u hSu; obtain ⟨⟨_, k0, k1, k2, k3, _⟩, ⟨⟨_, z0, z1, z2, z3⟩, _⟩, ⟨_, t0, t1, t2, t3, t4, _⟩⟩ := hSu; go_simp <;> with_reducible rfl
      simp only [Act.put, List.getElem_toArray, List.getElem_cons_zero, List.getElem_cons_succ, List.setIfInBounds_toArray, List.set_cons_zero, List.set_cons_succ]
      refine anyU_take (i := 5) (v := ?_) rfl (by kernel_rfl) (by kernel_rfl) (by kernel_rfl) (by kernel_rfl) (fun _ _ _ h => h) (Or.inl ⟨by rfl, ?_⟩) ⟨hV14.kept (Kept.of_below hB (fun _ => False)) (fun e => e), hH14.grow hB, hS14.xl.kept (Kept.of_below hB (fun _ => False)) (fun e => e)⟩ ?_
      rotate_left
      · intro u hSu; obtain ⟨⟨_, k0, k1, k2, k3, _⟩, ⟨⟨_, z0, z1, z2, z3⟩, _⟩, ⟨_, t0, t1, t2, t3, t4, _⟩⟩ := hSu; go_simp <;> with_reducible rfl
      simp only [Act.put, List.getElem_toArray, List.getElem_cons_zero, List.getElem_cons_succ, List.setIfInBounds_toArray, List.set_cons_zero, List.set_cons_succ]
      refine anyU_take (i := 6) (v := ?_) rfl (by kernel_rfl) (by kernel_rfl) (by kernel_rfl) (by kernel_rfl) (fun _ _ _ h => h) (Or.inl ⟨by rfl, ?_⟩) ⟨hV14.kept (Kept.of_below hB (fun _ => False)) (fun e => e), hH14.grow hB, hS14.xl.kept (Kept.of_below hB (fun _ => False)) (fun e => e)⟩ ?_
      rotate_left
      · intro u hSu; obtain ⟨⟨_, k0, k1, k2, k3, _⟩, ⟨⟨_, z0, z1, z2, z3⟩, _⟩, ⟨_, t0, t1, t2, t3, t4, _⟩⟩ := hSu; go_simp <;> with_reducible rfl
      simp only [Act.put, List.getElem_toArray, List.getElem_cons_zero, List.getElem_cons_succ, List.setIfInBounds_toArray, List.set_cons_zero, List.set_cons_succ]
      refine anyU_take (i := 7) (v := ?_) rfl (by kernel_rfl) (by kernel_rfl) (by kernel_rfl) (by kernel_rfl) (fun _ _ _ h => h) (Or.inl ⟨by rfl, ?_⟩) ⟨hV14.kept (Kept.of_below hB (fun _ => False)) (fun e => e), hH14.grow hB, hS14.xl.kept (Kept.of_below hB (fun _ => False)) (fun e => e)⟩ ?_
      rotate_left
      · intro u hSu; obtain ⟨⟨_, k0, k1, k2, k3, _⟩, ⟨⟨_, z0, z1, z2, z3⟩, _⟩, ⟨_, t0, t1, t2, t3, t4, _⟩⟩ := hSu; go_simp <;> with_reducible rfl
      simp only [Act.put, List.getElem_toArray, List.getElem_cons_zero, List.getElem_cons_succ, List.setIfInBounds_toArray, List.set_cons_zero, List.set_cons_succ]
      refine anyU_take (i := 8) (v := ?_) rfl (by kernel_rfl) (by kernel_rfl) (by kernel_rfl) (by kernel_rfl) (fun _ _ _ h => h) (Or.inl ⟨by rfl, ?_⟩) ⟨hV14.kept (Kept.of_below hB (fun _ => False)) (fun e => e), hH14.grow hB, hS14.xl.kept (Kept.of_below hB (fun _ => False)) (fun e => e)⟩ ?_
      rotate_left
      · intro u hSu; obtain ⟨⟨_, k0, k1, k2, k3, _⟩, ⟨⟨_, z0, z1, z2, z3⟩, _⟩, ⟨_, t0, t1, t2, t3, t4, _⟩⟩ := hSu; go_simp <;> with_reducible rfl
      simp only [Act.put, List.getElem_toArray, List.getElem_cons_zero, List.getElem_cons_succ, List.setIfInBounds_toArray, List.set_cons_zero, List.set_cons_succ]
      refine anyU_take (i := 9) (v := ?_) rfl (by kernel_rfl) (by kernel_rfl) (by kernel_rfl) (by kernel_rfl) (fun _ _ _ h => h) (Or.inl ⟨by rfl, ?_⟩) ⟨hV14.kept (Kept.of_below hB (fun _ => False)) (fun e => e), hH14.grow hB, hS14.xl.kept (Kept.of_below hB (fun _ => False)) (fun e => e)⟩ ?_
      rotate_left
      · intro u hSu; obtain ⟨⟨_, k0, k1, k2, k3, _⟩, ⟨⟨_, z0, z1, z2, z3⟩, _⟩, ⟨_, t0, t1, t2, t3, t4, _⟩⟩ := hSu; go_simp <;> with_reducible rfl
      simp only [Act.put, List.getElem_toArray, List.getElem_cons_zero, List.getElem_cons_succ, List.setIfInBounds_toArray, List.set_cons_zero, List.set_cons_succ]
      refine anyU_take (i := 10) (v := ?_) rfl (by kernel_rfl) (by kernel_rfl) (by kernel_rfl) (by kernel_rfl) (fun _ _ _ h => h) (Or.inl ⟨by rfl, ?_⟩) ⟨hV14.kept (Kept.of_below hB (fun _ => False)) (fun e => e), hH14.grow hB, hS14.xl.kept (Kept.of_below hB (fun _ => False)) (fun e => e)⟩ ?_
      rotate_left
      · intro u hSu; obtain ⟨⟨_, k0, k1, k2, k3, _⟩, ⟨⟨_, z0, z1, z2, z3⟩, _⟩, ⟨_, t0, t1, t2, t3, t4, _⟩⟩ := hSu; go_simp <;> with_reducible rfl
      simp only [Act.put, List.getElem_toArray, List.getElem_cons_zero, List.getElem_cons_succ, List.setIfInBounds_toArray, List.set_cons_zero, List.set_cons_succ]
      refine anyU_take (i := 11) (v := ?_) rfl (by kernel_rfl) (by kernel_rfl) (by kernel_rfl) (by kernel_rfl) (fun _ _ _ h => h) (Or.inl ⟨by rfl, ?_⟩) ⟨hV14.kept (Kept.of_below hB (fun _ => False)) (fun e => e), hH14.grow hB, hS14.xl.kept (Kept.of_below hB (fun _ => False)) (fun e => e)⟩ ?_
      rotate_left
      · intro u hSu; obtain ⟨⟨_, k0, k1, k2, k3, _⟩, ⟨⟨_, z0, z1, z2, z3⟩, _⟩, ⟨_, t0, t1, t2, t3, t4, _⟩⟩ := hSu; go_simp <;> with_reducible rfl
      simp only [Act.put, List.getElem_toArray, List.getElem_cons_zero, List.getElem_cons_succ, List.setIfInBounds_toArray, List.set_cons_zero, List.set_cons_succ]
      refine anyU_take (i := 12) (v := ?_) rfl (by kernel_rfl) (by kernel_rfl) (by kernel_rfl) (by kernel_rfl) (fun _ _ _ h => h) (Or.inl ⟨by rfl, ?_⟩) ⟨hV14.kept (Kept.of_below hB (fun _ => False)) (fun e => e), hH14.grow hB, hS14.xl.kept (Kept.of_below hB (fun _ => False)) (fun e => e)⟩ ?_
      rotate_left
      · intro u hSu; obtain ⟨⟨_, k0, k1, k2, k3, _⟩, ⟨⟨_, z0, z1, z2, z3⟩, _⟩, ⟨_, t0, t1, t2, t3, t4, _⟩⟩ := hSu; go_simp <;> with_reducible rfl
      simp only [Act.put, List.getElem_toArray, List.getElem_cons_zero, List.getElem_cons_succ, List.setIfInBounds_toArray, List.set_cons_zero, List.set_cons_succ]
      refine anyU_take (i := 13) (v := ?_) rfl (by kernel_rfl) (by kernel_rfl) (by kernel_rfl) (by kernel_rfl) (fun _ _ _ h => h) (Or.inl ⟨by rfl, ?_⟩) ⟨hV14.kept (Kept.of_below hB (fun _ => False)) (fun e => e), hH14.grow hB, hS14.xl.kept (Kept.of_below hB (fun _ => False)) (fun e => e)⟩ ?_
      rotate_left
      · intro u hSu; obtain ⟨⟨_, k0, k1, k2, k3, _⟩, ⟨⟨_, z0, z1, z2, z3⟩, _⟩, ⟨_, t0, t1, t2, t3, t4, _⟩⟩ := hSu; go_simp <;> with_reducible rfl
      simp only [Act.put, List.getElem_toArray, List.getElem_cons_zero, List.getElem_cons_succ, List.setIfInBounds_toArray, List.set_cons_zero, List.set_cons_succ]
      refine anyU_take (i := 14) (v := ?_) rfl (by kernel_rfl) (by kernel_rfl) (by kernel_rfl) (by kernel_rfl) (fun _ _ _ h => h) (Or.inl ⟨by rfl, ?_⟩) ⟨hV14.kept (Kept.of_below hB (fun _ => False)) (fun e => e), hH14.grow hB, hS14.xl.kept (Kept.of_below hB (fun _ => False)) (fun e => e)⟩ ?_
      rotate_left
      · intro u hSu; obtain ⟨⟨_, k0, k1, k2, k3, _⟩, ⟨⟨_, z0, z1, z2, z3⟩, _⟩, ⟨_, t0, t1, t2, t3, t4, _⟩⟩ := hSu; go_simp <;> with_reducible rfl
      simp only [Act.put, List.getElem_toArray, List.getElem_cons_zero, List.getElem_cons_succ, List.setIfInBounds_toArray, List.set_cons_zero, List.set_cons_succ]
      refine anyU_take (i := 15) (v := ?_) rfl (by kernel_rfl) (by kernel_rfl) (by kernel_rfl) (by kernel_rfl) (fun _ _ _ h => h) (Or.inl ⟨by rfl, ?_⟩) ⟨hV14.kept (Kept.of_below hB (fun _ => False)) (fun e => e), hH14.grow hB, hS14.xl.kept (Kept.of_below hB (fun _ => False)) (fun e => e)⟩ ?_
      rotate_left
      · intro u hSu; obtain ⟨⟨_, k0, k1, k2, k3, _⟩, ⟨⟨_, z0, z1, z2, z3⟩, _⟩, ⟨_, t0, t1, t2, t3, t4, _⟩⟩ := hSu; go_simp <;> with_reducible rfl
      simp only [Act.put, List.getElem_toArray, List.getElem_cons_zero, List.getElem_cons_succ, List.setIfInBounds_toArray, List.set_cons_zero, List.set_cons_succ]
      refine anyU_take (i := 16) (v := ?_) rfl (by kernel_rfl) (by kernel_rfl) (by kernel_rfl) (by kernel_rfl) (fun _ _ _ h => h) (Or.inl ⟨by rfl, ?_⟩) ⟨hV14.kept (Kept.of_below hB (fun _ => False)) (fun e => e), hH14.grow hB, hS14.xl.kept (Kept.of_below hB (fun _ => False)) (fun e => e)⟩ ?_
      rotate_left
      · intro u hSu; obtain ⟨⟨_, k0, k1, k2, k3, _⟩, ⟨⟨_, z0, z1, z2, z3⟩, _⟩, ⟨_, t0, t1, t2, t3, t4, _⟩⟩ := hSu; go_simp <;> with_reducible rfl
      simp only [Act.put, List.getElem_toArray, List.getElem_cons_zero, List.getElem_cons_succ, List.setIfInBounds_toArray, List.set_cons_zero, List.set_cons_succ]
      refine anyU_take (i := 17) (v := ?_) rfl (by kernel_rfl) (by kernel_rfl) (by kernel_rfl) (by kernel_rfl) (fun _ _ _ h => h) (Or.inl ⟨by rfl, ?_⟩) ⟨hV14.kept (Kept.of_below hB (fun _ => False)) (fun e => e), hH14.grow hB, hS14.xl.kept (Kept.of_below hB (fun _ => False)) (fun e => e)⟩ ?_
      rotate_left
      · intro u hSu; obtain ⟨⟨_, k0, k1, k2, k3, _⟩, ⟨⟨_, z0, z1, z2, z3⟩, _⟩, ⟨_, t0, t1, t2, t3, t4, _⟩⟩ := hSu; go_simp <;> with_reducible rfl
      simp only [Act.put, List.getElem_toArray, List.getElem_cons_zero, List.getElem_cons_succ, List.setIfInBounds_toArray, List.set_cons_zero, List.set_cons_succ]
      refine anyU_take (i := 18) (v := ?_) rfl (by kernel_rfl) (by kernel_rfl) (by kernel_rfl) (by kernel_rfl) (fun _ _ _ h => h) (Or.inl ⟨by rfl, ?_⟩) ⟨hV14.kept (Kept.of_below hB (fun _ => False)) (fun e => e), hH14.grow hB, hS14.xl.kept (Kept.of_below hB (fun _ => False)) (fun e => e)⟩ ?_
      rotate_left
      · intro u hSu; obtain ⟨⟨_, k0, k1, k2, k3, _⟩, ⟨⟨_, z0, z1, z2, z3⟩, _⟩, ⟨_, t0, t1, t2, t3, t4, _⟩⟩ := hSu; go_simp <;> with_reducible rfl
      simp only [Act.put, List.getElem_toArray, List.getElem_cons_zero, List.getElem_cons_succ, List.setIfInBounds_toArray, List.set_cons_zero, List.set_cons_succ]
      refine anyU_take (i := 19) (v := ?_) rfl (by kernel_rfl) (by kernel_rfl) (by kernel_rfl) (by kernel_rfl) (fun _ _ _ h => h) (Or.inl ⟨by rfl, ?_⟩) ⟨hV14.kept (Kept.of_below hB (fun _ => False)) (fun e => e), hH14.grow hB, hS14.xl.kept (Kept.of_below hB (fun _ => False)) (fun e => e)⟩ ?_
      rotate_left
      · intro u hSu; obtain ⟨⟨_, k0, k1, k2, k3, _⟩, ⟨⟨_, z0, z1, z2, z3⟩, _⟩, ⟨_, t0, t1, t2, t3, t4, _⟩⟩ := hSu; go_simp <;> with_reducible rfl
      simp only [Act.put, List.getElem_toArray, List.getElem_cons_zero, List.getElem_cons_succ, List.setIfInBounds_toArray, List.set_cons_zero, List.set_cons_succ]
      refine anyU_take (i := 20) (v := ?_) rfl (by kernel_rfl) (by kernel_rfl) (by kernel_rfl) (by kernel_rfl) (fun _ _ _ h => h) (Or.inl ⟨by rfl, ?_⟩) ⟨hV14.kept (Kept.of_below hB (fun _ => False)) (fun e => e), hH14.grow hB, hS14.xl.kept (Kept.of_below hB (fun _ => False)) (fun e => e)⟩ ?_
      rotate_left
      · intro u hSu; obtain ⟨⟨_, k0, k1, k2, k3, _⟩, ⟨⟨_, z0, z1, z2, z3⟩, _⟩, ⟨_, t0, t1, t2, t3, t4, _⟩⟩ := hSu; go_simp <;> with_reducible rfl
      simp only [Act.put, List.getElem_toArray, List.getElem_cons_zero, List.getElem_cons_succ, List.setIfInBounds_toArray, List.set_cons_zero, List.set_cons_succ]
      refine anyU_take (i := 21) (v := ?_) rfl (by kernel_rfl) (by kernel_rfl) (by kernel_rfl) (by kernel_rfl) (fun _ _ _ h => h) (Or.inl ⟨by rfl, ?_⟩) ⟨hV14.kept (Kept.of_below hB (fun _ => False)) (fun e => e), hH14.grow hB, hS14.xl.kept (Kept.of_below hB (fun _ => False)) (fun e => e)⟩ ?_
      rotate_left
      · intro u hSu; obtain ⟨⟨_, k0, k1, k2, k3, _⟩, ⟨⟨_, z0, z1, z2, z3⟩, _⟩, ⟨_, t0, t1, t2, t3, t4, _⟩⟩ := hSu; go_simp <;> with_reducible rfl
      simp only [Act.put, List.getElem_toArray, List.getElem_cons_zero, List.getElem_cons_succ, List.setIfInBounds_toArray, List.set_cons_zero, List.set_cons_succ]
      refine anyU_take (i := 22) (v := ?_) rfl (by kernel_rfl) (by kernel_rfl) (by kernel_rfl) (by kernel_rfl) (fun _ _ _ h => h) (Or.inl ⟨by rfl, ?_⟩) ⟨hV14.kept (Kept.of_below hB (fun _ => False)) (fun e => e), hH14.grow hB, hS14.xl.kept (Kept.of_below hB (fun _ => False)) (fun e => e)⟩ ?_
      rotate_left
      · intro u hSu; obtain ⟨⟨_, k0, k1, k2, k3, _⟩, ⟨⟨_, z0, z1, z2, z3⟩, _⟩, ⟨_, t0, t1, t2, t3, t4, _⟩⟩ := hSu; go_simp <;> with_reducible rfl
      simp only [Act.put, List.getElem_toArray, List.getElem_cons_zero, List.getElem_cons_succ, List.setIfInBounds_toArray, List.set_cons_zero, List.set_cons_succ]
      refine anyU_take (i := 23) (v := .int .i64 (n : Int)) rfl (by kernel_rfl) (by kernel_rfl) (by kernel_rfl) (by kernel_rfl) (fun _ _ _ h => h) (Or.inl ⟨by rfl, ?_⟩) ⟨hV14.kept (Kept.of_below hB (fun _ => False)) (fun e => e), hH14.grow hB, hS14.xl.kept (Kept.of_below hB (fun _ => False)) (fun e => e)⟩ ?_
      · intro u hSu; obtain ⟨⟨_, k0, k1, k2, k3, _⟩, ⟨⟨_, z0, z1, z2, z3⟩, _⟩, ⟨_, t0, t1, t2, t3, t4, _⟩⟩ := hSu; go_simp <;> (rw [IntKind.wrap_i64]; omega)
      simp only [Act.put, List.getElem_toArray, List.getElem_cons_zero, List.getElem_cons_succ, List.setIfInBounds_toArray, List.set_cons_zero, List.set_cons_succ]
      refine anyU_take (i := 24) (v := .bool false) rfl (by kernel_rfl) (by kernel_rfl) (by kernel_rfl) (by kernel_rfl) (fun _ _ _ h => h) (Or.inl ⟨by rfl, ?_⟩) ⟨hV14.kept (Kept.of_below hB (fun _ => False)) (fun e => e), hH14.grow hB, hS14.xl.kept (Kept.of_below hB (fun _ => False)) (fun e => e)⟩ ?_
      · intro u hSu; obtain ⟨⟨_, k0, k1, k2, k3, _⟩, ⟨⟨_, z0, z1, z2, z3⟩, _⟩, ⟨_, t0, t1, t2, t3, t4, _⟩⟩ := hSu; go_simp <;> first | rfl | simp
      simp only [Act.put, List.getElem_toArray, List.getElem_cons_zero, List.getElem_cons_succ, List.setIfInBounds_toArray, List.set_cons_zero, List.set_cons_succ]
      refine anyU_take (i := 25) (v := ?_) rfl (by kernel_rfl) (by kernel_rfl) (by kernel_rfl) (by kernel_rfl) (fun _ _ _ h => h) (Or.inl ⟨by rfl, ?_⟩) ⟨hV14.kept (Kept.of_below hB (fun _ => False)) (fun e => e), hH14.grow hB, hS14.xl.kept (Kept.of_below hB (fun _ => False)) (fun e => e)⟩ ?_
      rotate_left
      · intro u hSu; obtain ⟨⟨_, k0, k1, k2, k3, _⟩, ⟨⟨_, z0, z1, z2, z3⟩, _⟩, ⟨_, t0, t1, t2, t3, t4, _⟩⟩ := hSu; go_simp <;> with_reducible rfl
      simp only [Act.put, List.getElem_toArray, List.getElem_cons_zero, List.getElem_cons_succ, List.setIfInBounds_toArray, List.set_cons_zero, List.set_cons_succ]
      refine anyU_take (i := 26) (v := ?_) rfl (by kernel_rfl) (by kernel_rfl) (by kernel_rfl) (by kernel_rfl) (fun _ _ _ h => h) (Or.inl ⟨by rfl, ?_⟩) ⟨hV14.kept (Kept.of_below hB (fun _ => False)) (fun e => e), hH14.grow hB, hS14.xl.kept (Kept.of_below hB (fun _ => False)) (fun e => e)⟩ ?_
      rotate_left
      · intro u hSu; obtain ⟨⟨_, k0, k1, k2, k3, _⟩, ⟨⟨_, z0, z1, z2, z3⟩, _⟩, ⟨_, t0, t1, t2, t3, t4, _⟩⟩ := hSu; go_simp <;> with_reducible rfl
      simp only [Act.put, List.getElem_toArray, List.getElem_cons_zero, List.getElem_cons_succ, List.setIfInBounds_toArray, List.set_cons_zero, List.set_cons_succ]
      refine anyU_take (i := 27) (v := ?_) rfl (by kernel_rfl) (by kernel_rfl) (by kernel_rfl) (by kernel_rfl) (fun _ _ _ h => h) (Or.inl ⟨by rfl, ?_⟩) ⟨hV14.kept (Kept.of_below hB (fun _ => False)) (fun e => e), hH14.grow hB, hS14.xl.kept (Kept.of_below hB (fun _ => False)) (fun e => e)⟩ ?_
      rotate_left
      · intro u hSu; obtain ⟨⟨_, k0, k1, k2, k3, _⟩, ⟨⟨_, z0, z1, z2, z3⟩, _⟩, ⟨_, t0, t1, t2, t3, t4, _⟩⟩ := hSu; go_simp <;> with_reducible rfl
      simp only [Act.put, List.getElem_toArray, List.getElem_cons_zero, List.getElem_cons_succ, List.setIfInBounds_toArray, List.set_cons_zero, List.set_cons_succ]
      refine anyU_take (i := 28) (v := ?_) rfl (by kernel_rfl) (by kernel_rfl) (by kernel_rfl) (by kernel_rfl) (fun _ _ _ h => h) (Or.inl ⟨by rfl, ?_⟩) ⟨hV14.kept (Kept.of_below hB (fun _ => False)) (fun e => e), hH14.grow hB, hS14.xl.kept (Kept.of_below hB (fun _ => False)) (fun e => e)⟩ ?_
      rotate_left
      · intro u hSu; obtain ⟨⟨_, k0, k1, k2, k3, _⟩, ⟨⟨_, z0, z1, z2, z3⟩, _⟩, ⟨_, t0, t1, t2, t3, t4, _⟩⟩ := hSu; go_simp <;> with_reducible rfl
      simp only [Act.put, List.getElem_toArray, List.getElem_cons_zero, List.getElem_cons_succ, List.setIfInBounds_toArray, List.set_cons_zero, List.set_cons_succ]
      refine anyU_one (i := 29) (by kernel_rfl) rfl (fun K hK => ?_)
      go_simp
      refine (specPack_any na nc last _ hS14.ok (hS14.grow hB).nodes).mono ?_
      rintro e w15 ⟨oa15, oc15, rfl, _, hb15⟩
      have hB := gca hB hb15
      refine hK.out _ _ ⟨hV14.kept (Kept.of_below hB (fun _ => False)) (fun e => e), hH14.grow hB, hS14.xl.kept (Kept.of_below hB (fun _ => False)) (fun e => e)⟩ ?_
      clear hK
      refine anyU_take (i := 30) (v := ?_) rfl (by kernel_rfl) (by kernel_rfl) (by kernel_rfl) (by kernel_rfl) (fun _ _ _ h => h) (Or.inl ⟨by rfl, ?_⟩) ⟨hV14.kept (Kept.of_below hB (fun _ => False)) (fun e => e), hH14.grow hB, hS14.xl.kept (Kept.of_below hB (fun _ => False)) (fun e => e)⟩ ?_
      rotate_left
      · intro u hSu; obtain ⟨⟨_, k0, k1, k2, k3, _⟩, ⟨⟨_, z0, z1, z2, z3⟩, _⟩, ⟨_, t0, t1, t2, t3, t4, _⟩⟩ := hSu; go_simp <;> with_reducible rfl
      simp only [Act.put, List.getElem_toArray, List.getElem_cons_zero, List.getElem_cons_succ, List.setIfInBounds_toArray, List.set_cons_zero, List.set_cons_succ]
      refine anyU_take (i := 31) (v := ?_) rfl (by kernel_rfl) (by kernel_rfl) (by kernel_rfl) (by kernel_rfl) (fun _ _ _ h => h) (Or.inl ⟨by rfl, ?_⟩) ⟨hV14.kept (Kept.of_below hB (fun _ => False)) (fun e => e), hH14.grow hB, hS14.xl.kept (Kept.of_below hB (fun _ => False)) (fun e => e)⟩ ?_
      rotate_left
      · intro u hSu; obtain ⟨⟨_, k0, k1, k2, k3, _⟩, ⟨⟨_, z0, z1, z2, z3⟩, _⟩, ⟨_, t0, t1, t2, t3, t4, _⟩⟩ := hSu; go_simp <;> with_reducible rfl
      simp only [Act.put, List.getElem_toArray, List.getElem_cons_zero, List.getElem_cons_succ, List.setIfInBounds_toArray, List.set_cons_zero, List.set_cons_succ]
      refine anyU_take (i := 32) (v := ?_) rfl (by kernel_rfl) (by kernel_rfl) (by kernel_rfl) (by kernel_rfl) (fun _ _ _ h => h) (Or.inl ⟨by rfl, ?_⟩) ⟨hV14.kept (Kept.of_below hB (fun _ => False)) (fun e => e), hH14.grow hB, hS14.xl.kept (Kept.of_below hB (fun _ => False)) (fun e => e)⟩ ?_
      rotate_left
      · intro u hSu; obtain ⟨⟨_, k0, k1, k2, k3, _⟩, ⟨⟨_, z0, z1, z2, z3⟩, _⟩, ⟨_, t0, t1, t2, t3, t4, _⟩⟩ := hSu; go_simp <;> with_reducible rfl
      simp only [Act.put, List.getElem_toArray, List.getElem_cons_zero, List.getElem_cons_succ, List.setIfInBounds_toArray, List.set_cons_zero, List.set_cons_succ]
      refine anyU_take (i := 33) (v := ?_) rfl (by kernel_rfl) (by kernel_rfl) (by kernel_rfl) (by kernel_rfl) (fun _ _ _ h => h) (Or.inl ⟨by rfl, ?_⟩) ⟨hV14.kept (Kept.of_below hB (fun _ => False)) (fun e => e), hH14.grow hB, hS14.xl.kept (Kept.of_below hB (fun _ => False)) (fun e => e)⟩ ?_
      rotate_left
      · intro u hSu; obtain ⟨⟨_, k0, k1, k2, k3, _⟩, ⟨⟨_, z0, z1, z2, z3⟩, _⟩, ⟨_, t0, t1, t2, t3, t4, _⟩⟩ := hSu; go_simp <;> with_reducible rfl
      simp only [Act.put, List.getElem_toArray, List.getElem_cons_zero, List.getElem_cons_succ, List.setIfInBounds_toArray, List.set_cons_zero, List.set_cons_succ]
      refine anyU_take (i := 34) (v := ?_) rfl (by kernel_rfl) (by kernel_rfl) (by kernel_rfl) (by kernel_rfl) (fun _ _ _ h => h) (Or.inl ⟨by rfl, ?_⟩) ⟨hV14.kept (Kept.of_below hB (fun _ => False)) (fun e => e), hH14.grow hB, hS14.xl.kept (Kept.of_below hB (fun _ => False)) (fun e => e)⟩ ?_
      rotate_left
      · intro u hSu; obtain ⟨⟨_, k0, k1, k2, k3, _⟩, ⟨⟨_, z0, z1, z2, z3⟩, _⟩, ⟨_, t0, t1, t2, t3, t4, _⟩⟩ := hSu; go_simp <;> with_reducible rfl
      simp only [Act.put, List.getElem_toArray, List.getElem_cons_zero, List.getElem_cons_succ, List.setIfInBounds_toArray, List.set_cons_zero, List.set_cons_succ]
      refine anyU_done (by kernel_rfl) ?_
      have hS15 := hS14.grow hB
      have hG15 := hG14.kept (Kept.of_below hB (fun _ => False)) (fun e => e)
      have hgw15 := hgw14.kept (Kept.of_below hB (fun _ => False)) (fun _ _ e => e) (fun _ _ _ _ e => e)
      have hB15 := gca hB14 hB
      clear hS14 hG14 hgw14 hB14 hV14 hH14 hB
      obtain ⟨_, g0, g1, g2, g3, g4, _⟩ := id hG15
      obtain ⟨_, f0, f1, f2, f3, f4, ff⟩ := id hS15.xl
      go_wp2
      obtain ⟨hS16, hK16⟩ := hS15.putL hgw15 hgn hgO
      have hB16 := hB15.trans (hK16.below (B := w.heap.size) hB15.size (fun z hz e => by omega))
      generalize ((((w15.setCell ⟨L, 0, none⟩ (.int .i64 g.root.kind)).setCell ⟨L, 1, none⟩ (.int .i64 g.root.num)).setCell ⟨L, 2, none⟩ (.string g.root.text)).setCell ⟨L, 3, none⟩ (.int .i64 g.root.node)).setCell ⟨L, 4, none⟩ (.slice ga g.nodes.length gc) = w16 at hS16 hK16 hB16 ⊢
      go_roundw
      case rel => exact ⟨k + 1, n + 1, d', l6, g, ga, gc, gl, by omega, by omega, by go_num, by go_num, hN.inv, hS16, hB16⟩
      case measure => simp [intOf]; omega

end Go.Proofs.YtmdpmdmilgbfiaaGreatDoor
