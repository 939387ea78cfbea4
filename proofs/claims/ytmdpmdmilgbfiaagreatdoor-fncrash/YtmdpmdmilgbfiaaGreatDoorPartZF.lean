import Derived.Deep.QuietTactic
import Derived.BigQuiet
import Derived.Deep.RegionHeld3
import Derived.WalkLawsBesides
import Derived.Test.YtmdpmdmilgbfiaaGreatDoorPartP
import Derived.Test.YtmdpmdmilgbfiaaGreatDoorPartZE

namespace Go.Proofs.YtmdpmdmilgbfiaaGreatDoor
open Go.RowKit

structure TK where
  code : Int
  gen : Int
  g : GG
abbrev TK.val (t : TK) (na : Option Addr) (nc : Nat) : Value := .agg #[.int .i64 t.code, .int .i64 t.gen, .int .i64 t.g.root.kind, .int .i64 t.g.root.num, .string t.g.root.text, .int .i64 t.g.root.node, .slice na t.g.nodes.length nc]
def DD.takeT (d : DD) : TK := if d.ok = false then ⟨3, 0, zeroG⟩ else if d.newestOf.ok = false then ⟨1, 0, zeroG⟩ else if (unB d.newestOf.bytes).1 = false then ⟨2, d.newestOf.gen, zeroG⟩ else ⟨0, d.newestOf.gen, (unB d.newestOf.bytes).2⟩

structure V7 (w : World) (b : Nat) (x0 x1 x2 x3 x4 x5 x6 : Value) : Prop where
  lt : b < w.heap.size
  c0 : w.cell? ⟨b, 0, none⟩ = some x0
  c1 : w.cell? ⟨b, 1, none⟩ = some x1
  c2 : w.cell? ⟨b, 2, none⟩ = some x2
  c3 : w.cell? ⟨b, 3, none⟩ = some x3
  c4 : w.cell? ⟨b, 4, none⟩ = some x4
  c5 : w.cell? ⟨b, 5, none⟩ = some x5
  c6 : w.cell? ⟨b, 6, none⟩ = some x6
  f : ∀ o, w.frozen? ⟨b, o, none⟩ = false
theorem V7.kept {p : Nat → Prop} {w w' : World} {b : Nat} {x0 x1 x2 x3 x4 x5 x6 : Value} (h : V7 w b x0 x1 x2 x3 x4 x5 x6) (k : Kept p w w') (hn : ¬ p b) : V7 w' b x0 x1 x2 x3 x4 x5 x6 :=
  ⟨Nat.lt_of_lt_of_le h.lt k.size, k.cell h.c0 hn, k.cell h.c1 hn, k.cell h.c2 hn, k.cell h.c3 hn, k.cell h.c4 hn, k.cell h.c5 hn, k.cell h.c6 hn, fun o => (World.frozen?_of_block (w := w) (a := ⟨b, o, none⟩) (k.block b h.lt hn)).trans (h.f o)⟩
theorem V7.grow {w w' : World} {b : Nat} {x0 x1 x2 x3 x4 x5 x6 : Value} (h : V7 w b x0 x1 x2 x3 x4 x5 x6) (k : Below w.heap.size w w') : V7 w' b x0 x1 x2 x3 x4 x5 x6 := h.kept (Kept.of_below k (fun _ => False)) (fun e => e)
theorem V7.new_at (w : World) (x0 x1 x2 x3 x4 x5 x6 : Value) (t : TypeId) (b : Nat) (hb : b = w.heap.size) : V7 (w.alloc (.cells #[x0, x1, x2, x3, x4, x5, x6] t)) b x0 x1 x2 x3 x4 x5 x6 := by
  subst hb
  exact ⟨by simp, by simp, by simp, by simp, by simp, by simp, by simp, by simp, fun o => by simp⟩
theorem V7.set0 {w : World} {b : Nat} {x0 x1 x2 x3 x4 x5 x6 : Value} (h : V7 w b x0 x1 x2 x3 x4 x5 x6) (y : Value) : V7 (w.setCell ⟨b, 0, none⟩ y) b y x1 x2 x3 x4 x5 x6 :=
  ⟨by simpa [World.setCell] using h.lt, World.cell?_setCell_same _ _ _ h.c0, (World.cell?_setCell_other _ _ _ _ (by simp)).trans h.c1, (World.cell?_setCell_other _ _ _ _ (by simp)).trans h.c2, (World.cell?_setCell_other _ _ _ _ (by simp)).trans h.c3, (World.cell?_setCell_other _ _ _ _ (by simp)).trans h.c4, (World.cell?_setCell_other _ _ _ _ (by simp)).trans h.c5, (World.cell?_setCell_other _ _ _ _ (by simp)).trans h.c6, fun o => (World.frozen?_setCell ..).trans (h.f o)⟩
theorem V7.set1 {w : World} {b : Nat} {x0 x1 x2 x3 x4 x5 x6 : Value} (h : V7 w b x0 x1 x2 x3 x4 x5 x6) (y : Value) : V7 (w.setCell ⟨b, 1, none⟩ y) b x0 y x2 x3 x4 x5 x6 :=
  ⟨by simpa [World.setCell] using h.lt, (World.cell?_setCell_other _ _ _ _ (by simp)).trans h.c0, World.cell?_setCell_same _ _ _ h.c1, (World.cell?_setCell_other _ _ _ _ (by simp)).trans h.c2, (World.cell?_setCell_other _ _ _ _ (by simp)).trans h.c3, (World.cell?_setCell_other _ _ _ _ (by simp)).trans h.c4, (World.cell?_setCell_other _ _ _ _ (by simp)).trans h.c5, (World.cell?_setCell_other _ _ _ _ (by simp)).trans h.c6, fun o => (World.frozen?_setCell ..).trans (h.f o)⟩
theorem V7.set2 {w : World} {b : Nat} {x0 x1 x2 x3 x4 x5 x6 : Value} (h : V7 w b x0 x1 x2 x3 x4 x5 x6) (y : Value) : V7 (w.setCell ⟨b, 2, none⟩ y) b x0 x1 y x3 x4 x5 x6 :=
  ⟨by simpa [World.setCell] using h.lt, (World.cell?_setCell_other _ _ _ _ (by simp)).trans h.c0, (World.cell?_setCell_other _ _ _ _ (by simp)).trans h.c1, World.cell?_setCell_same _ _ _ h.c2, (World.cell?_setCell_other _ _ _ _ (by simp)).trans h.c3, (World.cell?_setCell_other _ _ _ _ (by simp)).trans h.c4, (World.cell?_setCell_other _ _ _ _ (by simp)).trans h.c5, (World.cell?_setCell_other _ _ _ _ (by simp)).trans h.c6, fun o => (World.frozen?_setCell ..).trans (h.f o)⟩
theorem V7.set3 {w : World} {b : Nat} {x0 x1 x2 x3 x4 x5 x6 : Value} (h : V7 w b x0 x1 x2 x3 x4 x5 x6) (y : Value) : V7 (w.setCell ⟨b, 3, none⟩ y) b x0 x1 x2 y x4 x5 x6 :=
  ⟨by simpa [World.setCell] using h.lt, (World.cell?_setCell_other _ _ _ _ (by simp)).trans h.c0, (World.cell?_setCell_other _ _ _ _ (by simp)).trans h.c1, (World.cell?_setCell_other _ _ _ _ (by simp)).trans h.c2, World.cell?_setCell_same _ _ _ h.c3, (World.cell?_setCell_other _ _ _ _ (by simp)).trans h.c4, (World.cell?_setCell_other _ _ _ _ (by simp)).trans h.c5, (World.cell?_setCell_other _ _ _ _ (by simp)).trans h.c6, fun o => (World.frozen?_setCell ..).trans (h.f o)⟩
theorem V7.set4 {w : World} {b : Nat} {x0 x1 x2 x3 x4 x5 x6 : Value} (h : V7 w b x0 x1 x2 x3 x4 x5 x6) (y : Value) : V7 (w.setCell ⟨b, 4, none⟩ y) b x0 x1 x2 x3 y x5 x6 :=
  ⟨by simpa [World.setCell] using h.lt, (World.cell?_setCell_other _ _ _ _ (by simp)).trans h.c0, (World.cell?_setCell_other _ _ _ _ (by simp)).trans h.c1, (World.cell?_setCell_other _ _ _ _ (by simp)).trans h.c2, (World.cell?_setCell_other _ _ _ _ (by simp)).trans h.c3, World.cell?_setCell_same _ _ _ h.c4, (World.cell?_setCell_other _ _ _ _ (by simp)).trans h.c5, (World.cell?_setCell_other _ _ _ _ (by simp)).trans h.c6, fun o => (World.frozen?_setCell ..).trans (h.f o)⟩
theorem V7.set5 {w : World} {b : Nat} {x0 x1 x2 x3 x4 x5 x6 : Value} (h : V7 w b x0 x1 x2 x3 x4 x5 x6) (y : Value) : V7 (w.setCell ⟨b, 5, none⟩ y) b x0 x1 x2 x3 x4 y x6 :=
  ⟨by simpa [World.setCell] using h.lt, (World.cell?_setCell_other _ _ _ _ (by simp)).trans h.c0, (World.cell?_setCell_other _ _ _ _ (by simp)).trans h.c1, (World.cell?_setCell_other _ _ _ _ (by simp)).trans h.c2, (World.cell?_setCell_other _ _ _ _ (by simp)).trans h.c3, (World.cell?_setCell_other _ _ _ _ (by simp)).trans h.c4, World.cell?_setCell_same _ _ _ h.c5, (World.cell?_setCell_other _ _ _ _ (by simp)).trans h.c6, fun o => (World.frozen?_setCell ..).trans (h.f o)⟩
theorem V7.set6 {w : World} {b : Nat} {x0 x1 x2 x3 x4 x5 x6 : Value} (h : V7 w b x0 x1 x2 x3 x4 x5 x6) (y : Value) : V7 (w.setCell ⟨b, 6, none⟩ y) b x0 x1 x2 x3 x4 x5 y :=
  ⟨by simpa [World.setCell] using h.lt, (World.cell?_setCell_other _ _ _ _ (by simp)).trans h.c0, (World.cell?_setCell_other _ _ _ _ (by simp)).trans h.c1, (World.cell?_setCell_other _ _ _ _ (by simp)).trans h.c2, (World.cell?_setCell_other _ _ _ _ (by simp)).trans h.c3, (World.cell?_setCell_other _ _ _ _ (by simp)).trans h.c4, (World.cell?_setCell_other _ _ _ _ (by simp)).trans h.c5, World.cell?_setCell_same _ _ _ h.c6, fun o => (World.frozen?_setCell ..).trans (h.f o)⟩
theorem V7.put {w : World} {b : Nat} {x0 x1 x2 x3 x4 x5 x6 : Value} (h : V7 w b x0 x1 x2 x3 x4 x5 x6) (y0 y1 y2 y3 y4 y5 y6 : Value) : V7 (((((((w.setCell ⟨b, 0, none⟩ (y0)).setCell ⟨b, 1, none⟩ (y1)).setCell ⟨b, 2, none⟩ (y2)).setCell ⟨b, 3, none⟩ (y3)).setCell ⟨b, 4, none⟩ (y4)).setCell ⟨b, 5, none⟩ (y5)).setCell ⟨b, 6, none⟩ (y6)) b y0 y1 y2 y3 y4 y5 y6 ∧ Kept (fun z => z = b) w (((((((w.setCell ⟨b, 0, none⟩ (y0)).setCell ⟨b, 1, none⟩ (y1)).setCell ⟨b, 2, none⟩ (y2)).setCell ⟨b, 3, none⟩ (y3)).setCell ⟨b, 4, none⟩ (y4)).setCell ⟨b, 5, none⟩ (y5)).setCell ⟨b, 6, none⟩ (y6)) :=
  ⟨((((((h.set0 y0).set1 y1).set2 y2).set3 y3).set4 y4).set5 y5).set6 y6, (((((((Kept.refl (fun z => z = b) w).set (a := ⟨b, 0, none⟩) (fun _ => rfl) _).set (a := ⟨b, 1, none⟩) (fun _ => rfl) _).set (a := ⟨b, 2, none⟩) (fun _ => rfl) _).set (a := ⟨b, 3, none⟩) (fun _ => rfl) _).set (a := ⟨b, 4, none⟩) (fun _ => rfl) _).set (a := ⟨b, 5, none⟩) (fun _ => rfl) _).set (a := ⟨b, 6, none⟩) (fun _ => rfl) _⟩

set_option maxHeartbeats 4000000 in
set_option maxRecDepth 100000 in
theorem answered_nil (t : TK) (na : Option Addr) (nc : Nat) (w : World) :
    Calls Tryz.prog 34 #[t.val na nc, .nilIface] w fun e w' => e = .returned (t.val na nc) ∧ Below w.heap.size w w' := by
  have hT := (V7.new_at w (.int .i64 t.code) (.int .i64 t.gen) (.int .i64 t.g.root.kind) (.int .i64 t.g.root.num) (.string t.g.root.text) (.int .i64 t.g.root.node) (.slice na t.g.nodes.length nc) 34 w.heap.size rfl).grow (gal (gal (gre _) (.cells #[.int .i64 0, .int .i64 0, .int .i64 0, .int .i64 0, .string ⟨#[]⟩, .int .i64 0, .slice none 0 0] 34)) (.cells #[.int .i64 0, .int .i64 0] 132))
  have hR := (V7.new_at (w.alloc (.cells #[.int .i64 t.code, .int .i64 t.gen, .int .i64 t.g.root.kind, .int .i64 t.g.root.num, .string t.g.root.text, .int .i64 t.g.root.node, .slice na t.g.nodes.length nc] 34)) (.int .i64 0) (.int .i64 0) (.int .i64 0) (.int .i64 0) (.string ⟨#[]⟩) (.int .i64 0) (.slice none 0 0) 34 (w.heap.size + 1) (by simp)).grow (gal (gre _) (.cells #[.int .i64 0, .int .i64 0] 132))
  have hA : Below w.heap.size w (((w.alloc (.cells #[.int .i64 t.code, .int .i64 t.gen, .int .i64 t.g.root.kind, .int .i64 t.g.root.num, .string t.g.root.text, .int .i64 t.g.root.node, .slice na t.g.nodes.length nc] 34)).alloc (.cells #[.int .i64 0, .int .i64 0, .int .i64 0, .int .i64 0, .string ⟨#[]⟩, .int .i64 0, .slice none 0 0] 34)).alloc (.cells #[.int .i64 0, .int .i64 0] 132)) := gal (gal (gal (gre w) _) _) _
  go_enter Tryz.func34, Tryz.ntmps34
  go_upto_region 2 with fail
  generalize ((w.alloc (.cells #[.int .i64 t.code, .int .i64 t.gen, .int .i64 t.g.root.kind, .int .i64 t.g.root.num, .string t.g.root.text, .int .i64 t.g.root.node, .slice na t.g.nodes.length nc] 34)).alloc (.cells #[.int .i64 0, .int .i64 0, .int .i64 0, .int .i64 0, .string ⟨#[]⟩, .int .i64 0, .slice none 0 0] 34)).alloc (.cells #[.int .i64 0, .int .i64 0] 132) = w1 at hT hR hA ⊢
  obtain ⟨_, t0, t1, t2, t3, t4, t5, t6, _⟩ := id hT
  obtain ⟨_, r0, r1, r2, r3, r4, r5, r6, rf_⟩ := id hR
  go_wp2_with (go_at_call 72; refine (as_nilR _ w1).mono ?_; rintro e w2 ⟨rfl, rfl⟩)
  obtain ⟨hV9, hK9⟩ := hR.put (.int .i64 t.code) (.int .i64 t.gen) (.int .i64 t.g.root.kind) (.int .i64 t.g.root.num) (.string t.g.root.text) (.int .i64 t.g.root.node) (.slice na t.g.nodes.length nc)
  generalize (((((((w2.setCell ⟨w.heap.size + 1, 0, none⟩ (.int .i64 t.code)).setCell ⟨w.heap.size + 1, 1, none⟩ (.int .i64 t.gen)).setCell ⟨w.heap.size + 1, 2, none⟩ (.int .i64 t.g.root.kind)).setCell ⟨w.heap.size + 1, 3, none⟩ (.int .i64 t.g.root.num)).setCell ⟨w.heap.size + 1, 4, none⟩ (.string t.g.root.text)).setCell ⟨w.heap.size + 1, 5, none⟩ (.int .i64 t.g.root.node)).setCell ⟨w.heap.size + 1, 6, none⟩ (.slice na t.g.nodes.length nc)) = w9 at hV9 hK9 ⊢
  obtain ⟨_, q0, q1, q2, q3, q4, q5, q6, _⟩ := id hV9
  exact bodyPost_ret (v := t.val na nc) (by simp [results, Tryz.results34, go_sem, q0, q1, q2, q3, q4, q5, q6]) rfl ⟨rfl, hA.trans (hK9.below hA.size (fun z hz e => by omega))⟩

set_option maxHeartbeats 4000000 in
set_option maxRecDepth 100000 in
theorem answered_hit (t : TK) (na : Option Addr) (nc : Nat) (x y : Int) (w : World) (hg : w.cell? ⟨0, 0, none⟩ = some (.iface 211 (.agg #[.pointer (some ⟨1, 80, none⟩)]))) :
    Calls Tryz.prog 34 #[t.val na nc, .iface 132 (.agg #[.int .i64 x, .int .i64 y])] w fun e w' => e = .returned ((TK.mk x y zeroG).val none 0) ∧ Below w.heap.size w w' := by
  have hR := (V7.new_at (w.alloc (.cells #[.int .i64 t.code, .int .i64 t.gen, .int .i64 t.g.root.kind, .int .i64 t.g.root.num, .string t.g.root.text, .int .i64 t.g.root.node, .slice na t.g.nodes.length nc] 34)) (.int .i64 0) (.int .i64 0) (.int .i64 0) (.int .i64 0) (.string ⟨#[]⟩) (.int .i64 0) (.slice none 0 0) 34 (w.heap.size + 1) (by simp)).grow (gal (gre _) (.cells #[.int .i64 0, .int .i64 0] 132))
  have hA : Below w.heap.size w (((w.alloc (.cells #[.int .i64 t.code, .int .i64 t.gen, .int .i64 t.g.root.kind, .int .i64 t.g.root.num, .string t.g.root.text, .int .i64 t.g.root.node, .slice na t.g.nodes.length nc] 34)).alloc (.cells #[.int .i64 0, .int .i64 0, .int .i64 0, .int .i64 0, .string ⟨#[]⟩, .int .i64 0, .slice none 0 0] 34)).alloc (.cells #[.int .i64 0, .int .i64 0] 132)) := gal (gal (gal (gre w) _) _) _
  have hP := VB.new_at ((w.alloc (.cells #[.int .i64 t.code, .int .i64 t.gen, .int .i64 t.g.root.kind, .int .i64 t.g.root.num, .string t.g.root.text, .int .i64 t.g.root.node, .slice na t.g.nodes.length nc] 34)).alloc (.cells #[.int .i64 0, .int .i64 0, .int .i64 0, .int .i64 0, .string ⟨#[]⟩, .int .i64 0, .slice none 0 0] 34)) (.int .i64 0) (.int .i64 0) 132 (w.heap.size + 1 + 1) (by simp)
  go_enter Tryz.func34, Tryz.ntmps34
  go_upto_region 2 with fail
  generalize ((w.alloc (.cells #[.int .i64 t.code, .int .i64 t.gen, .int .i64 t.g.root.kind, .int .i64 t.g.root.num, .string t.g.root.text, .int .i64 t.g.root.node, .slice na t.g.nodes.length nc] 34)).alloc (.cells #[.int .i64 0, .int .i64 0, .int .i64 0, .int .i64 0, .string ⟨#[]⟩, .int .i64 0, .slice none 0 0] 34)).alloc (.cells #[.int .i64 0, .int .i64 0] 132) = w1 at hR hA hP ⊢
  go_wp2_with (go_at_call 72; refine (as_hitR (w.heap.size + 1 + 1) x y _ _ w1 (cell_later hA hg) hP.v0 hP.v1 hP.vf).mono ?_; rintro e w2 ⟨rfl, hK2, q0, q1⟩; have hR2 := hR.kept hK2 (by omega); obtain ⟨_, r0, r1, r2, r3, r4, r5, r6, rf_⟩ := id hR2)
  have hA2 : Below w.heap.size w w2 := hA.trans (hK2.below hA.size (fun z hz e => by omega))
  obtain ⟨hV9, hK9⟩ := hR2.put (.int .i64 x) (.int .i64 y) (.int .i64 0) (.int .i64 0) (.string ⟨#[]⟩) (.int .i64 0) (.slice none 0 0)
  generalize (((((((w2.setCell ⟨w.heap.size + 1, 0, none⟩ (.int .i64 x)).setCell ⟨w.heap.size + 1, 1, none⟩ (.int .i64 y)).setCell ⟨w.heap.size + 1, 2, none⟩ (.int .i64 0)).setCell ⟨w.heap.size + 1, 3, none⟩ (.int .i64 0)).setCell ⟨w.heap.size + 1, 4, none⟩ (.string ⟨#[]⟩)).setCell ⟨w.heap.size + 1, 5, none⟩ (.int .i64 0)).setCell ⟨w.heap.size + 1, 6, none⟩ (.slice none 0 0)) = w9 at hV9 hK9 ⊢
  obtain ⟨_, q0, q1, q2, q3, q4, q5, q6, _⟩ := id hV9
  exact bodyPost_ret (v := (TK.mk x y zeroG).val none 0) (by simp [results, Tryz.results34, go_sem, q0, q1, q2, q3, q4, q5, q6, zeroG]) rfl ⟨rfl, hA2.trans (hK9.below hA2.size (fun z hz e => by omega))⟩

end Go.Proofs.YtmdpmdmilgbfiaaGreatDoor

namespace Go.Proofs.YtmdpmdmilgbfiaaGreatDoor
open Go.RowKit

set_option maxRecDepth 100000 in
theorem wBytes_same (a a' : Option Addr) (bs : List Nat) (cap cap' : Nat) (w : World) (hl : bs.length ≤ maxLen) (ha : BytesAt w a bs) (ha' : BytesAt w a' bs) :
    Calls Tryz.prog 15 #[.slice a bs.length cap, .slice a' bs.length cap'] w fun e w' => e = .returned (.bool true) ∧ Below w.heap.size w w' := by
  unfold maxLen at hl
  have hne : ((bs.length : Int) != (bs.length : Int)) = false := by simp
  go_enter Tryz.func15, Tryz.ntmps15
  go_wp2
  go_loopw [13] (fun i wr => ∃ (k : Nat), k ≤ bs.length ∧ i = .int .i64 k ∧ Below w.heap.size w wr) (fun i _ => bs.length - (intOf i).toNat)
  case atStart => exact ⟨0, Nat.zero_le _, rfl, gre _⟩
  case round =>
    obtain ⟨k, hk, rfl, hb⟩ := hrel
    by_cases hlt : k < bs.length
    · obtain ⟨x, b, off, hxk, hxm, rfl, hc⟩ := (ha.grow hb).get hlt
      obtain ⟨y, b', off', hyk, hym, rfl, hc'⟩ := (ha'.grow hb).get hlt
      obtain rfl : y = x := by rw [hyk.out, hxk.out]
      have hn2 : ((y : Int) != (y : Int)) = false := by simp
      go_wp2_with (go_quiet (fail))
      go_roundw
      case rel => exact ⟨k + 1, by omega, by go_num, hb.trans ⟨rfl, rfl, rfl, Nat.le_refl _, fun _ _ => rfl⟩⟩
      case measure => simp [intOf]; omega
    · go_wp2
      go_ret
      exact ⟨rfl, hb⟩

structure WBox (w : World) (p : Nat) (s : Value) : Prop where
  c4 : w.cell? ⟨p, 4, none⟩ = some s
theorem WBox.grow {w w' : World} {p : Nat} {s : Value} (h : WBox w p s) (hb : Below w.heap.size w w') : WBox w' p s := ⟨(World.cell?_of_block (w := w) (hb.block p (World.block_lt_of_cell? w ⟨p, 4, none⟩ h.c4))).trans h.c4⟩

set_option maxHeartbeats 4000000 in
set_option maxRecDepth 100000 in
theorem wGraph_same (a a' : Option Addr) (cap cap' : Nat) (g : GG) (w : World) (hg : g.Ok) (ha : NodesAt w.heap.size w a g.nodes) (ha' : NodesAt w.heap.size w a' g.nodes) :
    Calls Tryz.prog 11 #[g.val a cap, g.val a' cap'] w fun e w' => e = .returned (.bool true) ∧ Below w.heap.size w w' := by
  have hgl := hg.len
  unfold maxLen at hgl
  have hne : ((g.nodes.length : Int) != (g.nodes.length : Int)) = false := by simp
  have hA := gal (gal (gre w) (.cells #[.int .i64 g.root.kind, .int .i64 g.root.num, .string g.root.text, .int .i64 g.root.node, .slice a g.nodes.length cap] 32)) (.cells #[.int .i64 g.root.kind, .int .i64 g.root.num, .string g.root.text, .int .i64 g.root.node, .slice a' g.nodes.length cap'] 32)
  have hX0 : WBox ((w.alloc (.cells #[.int .i64 g.root.kind, .int .i64 g.root.num, .string g.root.text, .int .i64 g.root.node, .slice a g.nodes.length cap] 32)).alloc (.cells #[.int .i64 g.root.kind, .int .i64 g.root.num, .string g.root.text, .int .i64 g.root.node, .slice a' g.nodes.length cap'] 32)) w.heap.size (.slice a g.nodes.length cap) := WBox.grow ⟨by simp⟩ (gal (gre _) _)
  have hY0 : WBox ((w.alloc (.cells #[.int .i64 g.root.kind, .int .i64 g.root.num, .string g.root.text, .int .i64 g.root.node, .slice a g.nodes.length cap] 32)).alloc (.cells #[.int .i64 g.root.kind, .int .i64 g.root.num, .string g.root.text, .int .i64 g.root.node, .slice a' g.nodes.length cap'] 32)) (w.heap.size + 1) (.slice a' g.nodes.length cap') := by
    have e : (w.alloc (.cells #[.int .i64 g.root.kind, .int .i64 g.root.num, .string g.root.text, .int .i64 g.root.node, .slice a g.nodes.length cap] 32)).heap.size = w.heap.size + 1 := by simp
    rw [← e]; exact ⟨by simp⟩
  go_enter Tryz.func11, Tryz.ntmps11
  go_wp2
  generalize (w.alloc (.cells #[.int .i64 g.root.kind, .int .i64 g.root.num, .string g.root.text, .int .i64 g.root.node, .slice a g.nodes.length cap] 32)).alloc (.cells #[.int .i64 g.root.kind, .int .i64 g.root.num, .string g.root.text, .int .i64 g.root.node, .slice a' g.nodes.length cap'] 32) = wA at hA hX0 hY0 ⊢
  go_loopw [24] (fun i wr => ∃ k : Nat, k ≤ g.nodes.length ∧ i = .int .i64 k ∧ Below wA.heap.size wA wr) (fun i _ => g.nodes.length - (intOf i).toNat)
  case atStart => exact ⟨0, Nat.zero_le _, rfl, gre _⟩
  case round =>
    obtain ⟨k, hk, rfl, hb⟩ := hrel
    by_cases hlt : k < g.nodes.length
    · have hB := gca hA hb
      obtain ⟨n, b, off, av, cv, hvk, hvm, rfl, hbs, hva⟩ := (ha.grow hB).get hlt
      obtain ⟨n', b', off', av', cv', hvk', hvm', rfl, hbs', hva'⟩ := (ha'.grow hB).get hlt
      obtain rfl : n' = n := by rw [hvk.out, hvk'.out]
      have x4 := (hX0.grow hb).c4
      have y4 := (hY0.grow hb).c4
      have c0 := hva.tag
      have c1 := hva.sl
      have d0 := hva'.tag
      have d1 := hva'.sl
      have hv1 := hva.vals
      have hv2 := hva'.vals
      have i0 : (0 : Int) ≤ (k : Int) := by omega
      have i1 : (k : Int) < (g.nodes.length : Int) := by omega
      have hnl := (hg.nodes n' hvm).len
      unfold maxLen at hnl
      have t1 : ((n'.tag : Int) != n'.tag) = false := by simp
      have t2 : ((n'.vals.length : Int) != (n'.vals.length : Int)) = false := by simp
      clear hva hva' hvk hvk' ha ha'
      go_wp2_with (go_quiet (fail))
      rename World => wB
      go_loopw [64] (fun i wr2 => ∃ j : Nat, j ≤ n'.vals.length ∧ i = .int .i64 j ∧ Below wB.heap.size wB wr2) (fun i _ => n'.vals.length - (intOf i).toNat)
      case atStart => exact ⟨0, Nat.zero_le _, rfl, by first | exact gre _ | exact (gre wB).trans ⟨rfl, rfl, rfl, Nat.le_refl _, fun _ _ => rfl⟩⟩
      case round =>
        obtain ⟨j, hj, rfl, hb2⟩ := hrel
        by_cases hlt2 : j < n'.vals.length
        · obtain ⟨v, vb, vo, hvj, hvm2, rfl, hvb, hvv⟩ := (hv1.grow hb2).get hlt2
          obtain ⟨v', vb', vo', hvj', hvm2', rfl, hvb', hvv'⟩ := (hv2.grow hb2).get hlt2
          obtain rfl : v' = v := by rw [hvj.out, hvj'.out]
          have c1' := cell_later hb2 c1
          have d1' := cell_later hb2 d1
          have x4' := cell_later hb2 x4
          have y4' := cell_later hb2 y4
          have e0 := hvv.kind
          have e1 := hvv.num
          have e2 := hvv.text
          have e3 := hvv.node
          have f0 := hvv'.kind
          have f1 := hvv'.num
          have f2 := hvv'.text
          have f3 := hvv'.node
          have j0 : (0 : Int) ≤ (j : Int) := by omega
          have j1 : (j : Int) < (n'.vals.length : Int) := by omega
          clear hvv hvv' hvj hvj' c0 c1 d0 d1 x4 y4 hv1 hv2
          go_wp2_with (go_quiet (fail))
          go_roundw
          case rel => exact ⟨j + 1, by omega, by go_num, by first | exact hb2 | exact hb2.trans ⟨rfl, rfl, rfl, Nat.le_refl _, fun _ _ => rfl⟩⟩
          case measure => simp [intOf]; omega
        · go_wp2
          go_roundw
          case rel => exact ⟨k + 1, by omega, by go_num, gca hb hb2⟩
          case measure => simp [intOf]; omega
    · go_wp2
      go_ret
      exact ⟨rfl, gca hA hb⟩

end Go.Proofs.YtmdpmdmilgbfiaaGreatDoor

namespace Go.Proofs.YtmdpmdmilgbfiaaGreatDoor
open Go.RowKit

structure DC (w : World) (b : Nat) (sa : Option Addr) (bs : List Nat) (cap at_ : Nat) : Prop where
  lt : b < w.heap.size
  c0 : w.cell? ⟨b, 0, none⟩ = some (.slice sa bs.length cap)
  c1 : w.cell? ⟨b, 1, none⟩ = some (.int .i64 (at_ : Int))
  c2 : ∃ s : Nat, s < 18446744073709551616 ∧ w.cell? ⟨b, 2, none⟩ = some (.int .u64 (s : Int))
  f : ∀ o, w.frozen? ⟨b, o, none⟩ = false
  at8 : BytesAt w sa bs
  ne : ∀ g off, sa = some ⟨g, off, none⟩ → g ≠ b
  u8 : ∀ x, x ∈ bs → x < 256
  len : bs.length ≤ maxLen
  sl : ∀ g off, sa = some ⟨g, off, none⟩ → g < w.heap.size

structure DK (w w' : World) (b : Nat) (sa : Option Addr) (bs : List Nat) (cap at_ : Nat) : Prop where
  dc : DC w' b sa bs cap at_
  kept : Kept (fun k => k = b) w w'

theorem BytesAt.kept {p : Nat → Prop} {w w' : World} {a : Option Addr} {bs : List Nat} (h : BytesAt w a bs) (k : Kept p w w') (hn : ∀ g off, a = some ⟨g, off, none⟩ → ¬ p g) : BytesAt w' a bs := fun i hi => by
  obtain ⟨b, off, ha, hc⟩ := h i hi
  exact ⟨b, off, ha, k.cell hc (hn b off ha)⟩
theorem DC.kept {p : Nat → Prop} {w w' : World} {b : Nat} {sa : Option Addr} {bs : List Nat} {cap at_ : Nat} (h : DC w b sa bs cap at_) (k : Kept p w w') (hn : ¬ p b) (hs : ∀ g off, sa = some ⟨g, off, none⟩ → ¬ p g) : DC w' b sa bs cap at_ := by
  have e := k.block b h.lt hn
  obtain ⟨s, hs2, hc2⟩ := h.c2
  exact ⟨Nat.lt_of_lt_of_le h.lt k.size, (World.cell?_of_block (w := w) e).trans h.c0, (World.cell?_of_block (w := w) e).trans h.c1, ⟨s, hs2, (World.cell?_of_block (w := w) e).trans hc2⟩, fun o => (World.frozen?_of_block (w := w) e).trans (h.f o), h.at8.kept k hs, h.ne, h.u8, h.len, fun g off e => Nat.lt_of_lt_of_le (h.sl g off e) k.size⟩
theorem DC.drewN {w : World} {b : Nat} {sa : Option Addr} {bs : List Nat} {cap at_ : Nat} (h : DC w b sa bs cap at_) (k : Nat) : DC (w.drewN k) b sa bs cap at_ := ⟨h.lt, h.c0, h.c1, h.c2, h.f, h.at8, h.ne, h.u8, h.len, h.sl⟩
theorem DC.setAt {w : World} {b : Nat} {sa : Option Addr} {bs : List Nat} {cap at_ : Nat} (h : DC w b sa bs cap at_) {z : Int} {n : Nat} (hz : z = (n : Int)) : DC (w.setCell ⟨b, 1, none⟩ (.int .i64 z)) b sa bs cap n := by
  subst hz
  obtain ⟨s, hs2, hc2⟩ := h.c2
  refine ⟨by have := h.lt; simpa [World.setCell] using this, ?_, World.cell?_setCell_same _ _ _ h.c1, ⟨s, hs2, ?_⟩, fun o => ?_, ?_, h.ne, h.u8, h.len, fun g off e => by have := h.sl g off e; simpa [World.setCell] using this⟩
  · rw [World.cell?_setCell_other _ _ _ _ (by simp)]; exact h.c0
  · rw [World.cell?_setCell_other _ _ _ _ (by simp)]; exact hc2
  · rw [World.frozen?_setCell]; exact h.f o
  · exact h.at8.kept ((Kept.refl (fun k => k = b) w).set (fun _ => rfl) _) h.ne
theorem DC.setSeed {w : World} {b : Nat} {sa : Option Addr} {bs : List Nat} {cap at_ : Nat} (h : DC w b sa bs cap at_) (z : Int) : DC (w.setCell ⟨b, 2, none⟩ (.int .u64 (IntKind.u64.wrap z))) b sa bs cap at_ := by
  obtain ⟨s, hs2, hc2⟩ := h.c2
  refine ⟨by have := h.lt; simpa [World.setCell] using this, ?_, ?_, ⟨(z % 18446744073709551616).toNat, by omega, ?_⟩, fun o => ?_, ?_, h.ne, h.u8, h.len, fun g off e => by have := h.sl g off e; simpa [World.setCell] using this⟩
  · rw [World.cell?_setCell_other _ _ _ _ (by simp)]; exact h.c0
  · rw [World.cell?_setCell_other _ _ _ _ (by simp)]; exact h.c1
  · rw [World.cell?_setCell_same _ _ _ hc2, IntKind.wrap_u64, Int.toNat_of_nonneg (by omega)]
  · rw [World.frozen?_setCell]; exact h.f o
  · exact h.at8.kept ((Kept.refl (fun k => k = b) w).set (fun _ => rfl) _) h.ne
theorem DK.trans {w w' w'' : World} {b : Nat} {sa : Option Addr} {bs : List Nat} {cap at_ at' : Nat} (h : DK w w' b sa bs cap at_) (k : DK w' w'' b sa bs cap at') : DK w w'' b sa bs cap at' := ⟨k.dc, h.kept.trans k.kept (fun _ _ e => e)⟩
theorem KeptD.drewN {p : Nat → Prop} {w w' : World} (h : Kept p w w') (k : Nat) : Kept p w (w'.drewN k) := ⟨h.os, h.tape, h.output, h.size, h.block⟩

theorem low8 (z : Int) : ∃ x : Nat, x < 256 ∧ wrap64 (bits .and .u64 (IntKind.u64.wrap z / 1099511627776) 255) = (x : Int) := by
  rw [IntKind.wrap_u64]
  generalize hy : z % 18446744073709551616 / 1099511627776 = y
  obtain ⟨n, rfl⟩ : ∃ n : Nat, y = (n : Int) := ⟨y.toNat, by omega⟩
  have h := u64_and_nat n 255 (by omega) (by omega)
  have h2 : n &&& 255 ≤ 255 := Nat.and_le_right
  refine ⟨n &&& 255, by omega, ?_⟩
  have h3 : bits .and .u64 (n : Int) 255 = ((n &&& 255 : Nat) : Int) := h
  rw [h3]
  generalize n &&& 255 = m at h2
  unfold wrap64
  omega

def NextD (w : World) (b : Nat) (sa : Option Addr) (bs : List Nat) (cap at_ : Nat) (e : Ending) (w' : World) : Prop :=
  ∃ x : Nat, x < 256 ∧ e = .returned (.int .i64 (x : Int)) ∧ DK w w' b sa bs cap (at_ + 1)

set_option maxRecDepth 100000 in
theorem l6next_any (b : Nat) (sa : Option Addr) (bs : List Nat) (cap at_ : Nat) (w : World) (hc : DC w b sa bs cap at_) (hat : at_ < 4611686018427387904) :
    Calls Tryz.prog 77 #[.pointer (some ⟨b, 0, none⟩)] w (NextD w b sa bs cap at_) := by
  obtain ⟨hlt, c0, c1, ⟨s, hs, c2⟩, hf, hb, hne, hx, hlm, _⟩ := id hc
  unfold maxLen at hlm
  by_cases hl : at_ < bs.length
  · obtain ⟨x, g, off, hxk, hxm, rfl, hcx⟩ := hb.get hl
    have hx0 := hx x hxm
    have hgb := hne g off rfl
    have e0 : IntKind.u64.wrap (x : Int) = (x : Int) := by rw [IntKind.wrap_u64]; omega
    go_enter Tryz.func77, Tryz.ntmps77
    go_wp2_with (go_quiet (fail))
    go_ret
    refine ⟨x, hx0, rfl, ?_, ?_⟩
    · exact ((hc.drewN _).setAt (n := at_ + 1) (by omega)).setSeed _
    · exact ((KeptD.drewN (Kept.refl (fun k => k = b) w) _).set (fun _ => rfl) _).set (fun _ => rfl) _
  · obtain ⟨x, hx0, e1⟩ := low8 (IntKind.u64.wrap ((s : Int) * 6364136223846793005) + 1442695040888963407)
    go_enter Tryz.func77, Tryz.ntmps77
    go_wp2_with (go_quiet (fail))
    go_ret
    refine ⟨x, hx0, by rw [e1]; rfl, ?_, ?_⟩
    · exact ((hc.drewN _).setSeed _).setAt (n := at_ + 1) (by omega)
    · exact ((KeptD.drewN (Kept.refl (fun k => k = b) w) _).set (fun _ => rfl) _).set (fun _ => rfl) _

def PickD (w : World) (b : Nat) (sa : Option Addr) (bs : List Nat) (cap at_ n : Nat) (e : Ending) (w' : World) : Prop :=
  ∃ x at' : Nat, x < n ∧ at' ≤ at_ + 2 ∧ e = .returned (.int .i64 (x : Int)) ∧ DK w w' b sa bs cap at'

set_option maxRecDepth 100000 in
theorem l6pick_any (b : Nat) (sa : Option Addr) (bs : List Nat) (cap at_ n : Nat) (w : World) (hc : DC w b sa bs cap at_) (hat : at_ + 2 < 4611686018427387904) (hn : 1 ≤ n) (hn2 : n < 4611686018427387904) :
    Calls Tryz.prog 37 #[.pointer (some ⟨b, 0, none⟩), .int .i64 (n : Int)] w (PickD w b sa bs cap at_ n) := by
  by_cases h1 : n ≤ 1
  · go_enter Tryz.func37, Tryz.ntmps37
    go_wp2
    go_ret
    exact ⟨0, at_, by omega, by omega, rfl, hc, Kept.refl _ w⟩
  · have h1' : ¬ ((n : Int) ≤ 1) := by omega
    by_cases h2 : 200 < n
    · have h2' : (200 : Int) < (n : Int) := by omega
      go_enter Tryz.func37, Tryz.ntmps37
      go_wp2_with (go_at_call 77; refine (l6next_any b sa bs cap at_ w hc (by omega)).mono ?_; rintro e w1 ⟨x, hx, rfl, hk⟩)
      go_wp2_with (go_at_call 77; refine (l6next_any b sa bs cap (at_ + 1) w1 hk.dc (by omega)).mono ?_; rintro e w2 ⟨y, hy, rfl, hk2⟩)
      go_wp2
      go_ret
      have e : (((x * 256 + y) % n : Nat) : Int) = ((x : Int) * 256 + (y : Int)) % (n : Int) := by simp
      exact ⟨(x * 256 + y) % n, at_ + 1 + 1, Nat.mod_lt _ (by omega), by omega, by rw [e]; rfl, hk.trans hk2⟩
    · have h2' : ¬ (200 : Int) < (n : Int) := by omega
      go_enter Tryz.func37, Tryz.ntmps37
      go_wp2_with (go_at_call 77; refine (l6next_any b sa bs cap at_ w hc (by omega)).mono ?_; rintro e w1 ⟨x, hx, rfl, hk⟩)
      go_wp2
      go_ret
      have e : ((x % n : Nat) : Int) = (x : Int) % (n : Int) := by simp
      exact ⟨x % n, at_ + 1, Nat.mod_lt _ (by omega), by omega, by rw [e]; rfl, hk⟩

theorem l6pick_of (b : Nat) (sa : Option Addr) (bs : List Nat) (cap at_ n : Nat) (m : Int) (w : World) (hm : m = (n : Int)) (hc : DC w b sa bs cap at_) (hat : at_ + 2 < 4611686018427387904) (hn : 1 ≤ n) (hn2 : n < 4611686018427387904) :
    Calls Tryz.prog 37 #[.pointer (some ⟨b, 0, none⟩), .int .i64 m] w (PickD w b sa bs cap at_ n) := by
  subst hm; exact l6pick_any b sa bs cap at_ n w hc hat hn hn2

end Go.Proofs.YtmdpmdmilgbfiaaGreatDoor

namespace Go.Proofs.YtmdpmdmilgbfiaaGreatDoor
open Go.RowKit

def WholeD (w : World) (b : Nat) (sa : Option Addr) (bs : List Nat) (cap at_ : Nat) (e : Ending) (w' : World) : Prop :=
  ∃ (z : Int) (at' : Nat), I64 z ∧ at' ≤ at_ + 4 ∧ e = .returned (.int .i64 z) ∧ DK w w' b sa bs cap at'

set_option maxRecDepth 100000 in
theorem l6whole_any (b : Nat) (sa : Option Addr) (bs : List Nat) (cap at_ : Nat) (w : World) (hc : DC w b sa bs cap at_) (hat : at_ + 4 < 4611686018427387904) :
    Calls Tryz.prog 122 #[.pointer (some ⟨b, 0, none⟩)] w (WholeD w b sa bs cap at_) := by
  go_enter Tryz.func122, Tryz.ntmps122
  go_wp2_with (go_at_call_of 37 ((6 : Int)); refine (l6pick_of b sa bs cap at_ 6 6 w rfl hc (by omega) (by omega) (by omega)).mono ?_; rintro e w1 ⟨x, at1, hx, ha1, rfl, hk⟩; obtain rfl | rfl | rfl | h3 : x = 0 ∨ x = 1 ∨ x = 2 ∨ 3 ≤ x := by omega)
  · refine (l6pick_of b sa bs cap at1 3 3 w1 rfl hk.dc (by omega) (by omega) (by omega)).mono ?_
    rintro e w2 ⟨y, at2, hy, ha2, rfl, hk2⟩
    have ey : wrap64 (y : Int) = (y : Int) := by unfold wrap64; omega
    go_wp2
    go_ret
    exact ⟨9223372036854775807 - (y : Int), at2, by unfold I64; omega, by omega, rfl, hk.trans hk2⟩
  · refine (l6pick_of b sa bs cap at1 3 3 w1 rfl hk.dc (by omega) (by omega) (by omega)).mono ?_
    rintro e w2 ⟨y, at2, hy, ha2, rfl, hk2⟩
    have ey : wrap64 (y : Int) = (y : Int) := by unfold wrap64; omega
    go_wp2
    go_ret
    exact ⟨-9223372036854775808 + (y : Int), at2, by unfold I64; omega, by omega, rfl, hk.trans hk2⟩
  · refine (l6pick_of b sa bs cap at1 70000 70000 w1 rfl hk.dc (by omega) (by omega) (by omega)).mono ?_
    rintro e w2 ⟨y, at2, hy, ha2, rfl, hk2⟩
    have ey : wrap64 (y : Int) = (y : Int) := by unfold wrap64; omega
    go_wp2
    go_ret
    exact ⟨(y : Int) - 35000, at2, by unfold I64; omega, by omega, rfl, hk.trans hk2⟩
  · refine (l6pick_of b sa bs cap at1 12 12 w1 rfl hk.dc (by omega) (by omega) (by omega)).mono ?_
    rintro e w2 ⟨y, at2, hy, ha2, rfl, hk2⟩
    have ey : wrap64 (y : Int) = (y : Int) := by unfold wrap64; omega
    go_wp2
    go_ret
    exact ⟨(y : Int) - 3, at2, by unfold I64; omega, by omega, rfl, hk.trans hk2⟩

end Go.Proofs.YtmdpmdmilgbfiaaGreatDoor

namespace Go.Proofs.YtmdpmdmilgbfiaaGreatDoor
open Go.RowKit

theorem strB_size (ys : List Nat) : (strB ys).size = ys.length := by
  unfold strB strOfNums
  simp [ByteArray.size]

theorem owns_bytesD {w : World} {base n c : Nat} {a : Option Addr} {zs : List Nat} (h : w.ownsRow base 5 1 (.slice a n c) zs.length (bcells zs)) : BytesAt w a zs := fun i hi => by
  obtain ⟨g, rfl, _, _, hc⟩ := owns_cell h (bcells_get hi)
  exact ⟨g, 0, rfl, by simpa using hc⟩

def TextD (w : World) (b : Nat) (sa : Option Addr) (bs : List Nat) (cap at_ : Nat) (e : Ending) (w' : World) : Prop :=
  ∃ (t : ByteArray) (at' : Nat), t.size ≤ 1000 ∧ at' ≤ at_ + 10 ∧ e = .returned (.string t) ∧ DK w w' b sa bs cap at'

def strSize : Value → Nat
  | .string t => t.size
  | _ => 0

set_option maxRecDepth 100000 in
theorem l6text_any (b : Nat) (sa : Option Addr) (bs : List Nat) (cap at_ : Nat) (w : World) (hc : DC w b sa bs cap at_) (hat : at_ + 10 < 4611686018427387904) :
    Calls Tryz.prog 123 #[.pointer (some ⟨b, 0, none⟩)] w (TextD w b sa bs cap at_) := by
  obtain ⟨i0, hi, hz0, hz1, hz2⟩ := info_parts info_u8
  go_enter Tryz.func123, Tryz.ntmps123
  go_wp2_with (go_at_call_of 37 ((30 : Int)); refine (l6pick_of b sa bs cap at_ 30 30 w rfl hc (by omega) (by omega) (by omega)).mono ?_; rintro e w1 ⟨x, at1, hx, ha1, rfl, hk⟩; obtain rfl | h3 : x = 0 ∨ 1 ≤ x := by omega)
  · go_loopw [3] (fun s ws => ∃ t : ByteArray, s = .string t ∧ 10 ≤ t.size ∧ t.size ≤ 1999 ∧ DK w ws b sa bs cap at1) (fun s _ => 2000 - strSize s)
    case atStart => exact ⟨_, rfl, by decide, by decide, hk⟩
    case round =>
      obtain ⟨t, rfl, h10, h20, hk0⟩ := hrel
      by_cases hlt : t.size < 1000
      · have hd : (t.size : Int) < 1000 := by omega
        go_wp2
        go_roundw
        case rel => exact ⟨_, rfl, by simp [ByteArray.size_append]; omega, by simp [ByteArray.size_append]; omega, hk0⟩
        case measure => simp [strSize, ByteArray.size_append]; omega
      · have hd : ¬ (t.size : Int) < 1000 := by omega
        go_wp2_with (go_at_call_of 37 ((2 : Int)); refine (l6pick_of b sa bs cap at1 2 2 _ rfl hk0.dc (by omega) (by omega) (by omega)).mono ?_; rintro e w2 ⟨y, at2, hy, ha2, rfl, hk2⟩)
        go_ret
        exact ⟨t.extract 0 (1000 - y), at2, by simp [ByteArray.size_extract]; omega, by omega, rfl, hk0.trans hk2⟩
  · refine (l6pick_of b sa bs cap at1 6 6 w1 rfl hk.dc (by omega) (by omega) (by omega)).mono ?_
    rintro e w2 ⟨y, at2, hy, ha2, rfl, hk2⟩
    have hbw := hc.lt
    have hkk := hk.trans hk2
    go_wp2
    go_loopw [4, 5] (fun o i ws => ∃ (n at3 : Nat) (zs : List Nat) (oa1 : Option Addr) (cap1 : Nat), o = .slice oa1 zs.length cap1 ∧ i = .int .i64 n ∧ n + zs.length ≤ 5 ∧ at3 + n ≤ at_ + 10 ∧ ws.ownsRow w.heap.size 5 1 (.slice oa1 zs.length cap1) zs.length (bcells zs) ∧ DK w ws b sa bs cap at3) (fun _ i _ => (intOf i).toNat)
    case atStart => exact ⟨y, at2, [], none, 0, rfl, rfl, by simp; omega, by omega, World.ownsRow_nil _ _ _ _, hkk⟩
    case round =>
      obtain ⟨n, at3, zs, oa1, cap1, rfl, rfl, hnz, hn3, hO, hD⟩ := hrel
      by_cases hlt : 0 < n
      · have hd : (0 : Int) < (n : Int) := by omega
        go_wp2_with (first
          | (go_at_call 77; refine (l6next_any b sa bs cap at3 wr hD.dc (by omega)).mono ?_; rintro e w3 ⟨z, hz, rfl, hk3⟩)
          | (have hO3 := hk3.kept.owns hO (fun k hk e => by have := (hO.lt k hk).1; omega); have hs3 := hk3.kept.size; have hsD := hD.kept.size; at_builtin; refine wpList_append_lies _ rfl (.tmp 26) (.tmp 30) 22 rfl w.heap.size 5 i0 (.int .u8 0) 1 1 Tryz.underlying22 hi hz0 hz1 hz2 rfl (by decide) _ _ _ rfl (hO3.alloc _) ⟨w3.heap.size, 0, none⟩ 1 1 [.int .u8 (z : Int)] rfl rfl (World.news_of_block (cs := #[.int .u8 (z : Int)]) (t := 5) (fr := (0, 0)) (blk_new_at _ _ _ (by simp))) (by simp [Value.oneCell']) (by decide) (by unfold maxLen; omega) (by omega) (by simp; omega) (w3.heap.size + 1) (by simp) ?_; intro g cap2 w4 hown1 hgrow hat4 hlt2))
        have hG := Kept.of_grown hgrow
        have hA : Kept (fun _ => False) w3 (w3.alloc (.cells #[.int .u8 (z : Int)] 5)) := (Kept.refl _ w3).alloc _
        have hob : ∀ k, (Value.slice oa1 zs.length cap1).ownBlock = some k → w.heap.size ≤ k := fun k hk => (hO.lt k hk).1
        go_roundw
        case rel =>
          refine ⟨n - 1, at3 + 1, zs ++ [z], some ⟨g, 0, none⟩, cap2, by simp, congrArg (Value.int .i64) (by omega), by simp; omega, by omega, ?_, ?_⟩
          · simpa [bcells_snoc] using hown1
          · refine ⟨((hk3.dc.kept hA (fun e => e) (fun _ _ _ e => e)).kept hG (fun e => by have := hob _ e; omega) (fun g off e h => ?_)), ((hD.kept.trans hk3.kept (fun _ _ e => e)).trans hA (fun _ _ e => e.elim)).trans hG (fun k hk e => by have := hob _ e; omega)⟩
            have := hob _ h
            have h9 := hc.sl g off e
            omega
        case measure => simp [intOf]; omega
      · obtain rfl : n = 0 := by omega
        have hcv := conv_text (c := cap1) (owns_bytesD hO) rfl
        go_wp2
        go_ret
        exact ⟨strB zs, at3, by rw [strB_size]; omega, by omega, rfl, hD⟩

end Go.Proofs.YtmdpmdmilgbfiaaGreatDoor
