import Derived.Deep.Cut
import Derived.Deep.CutRange
import Derived.OrdersIn
import Derived.RangeFuncNested
import Derived.RangeFuncBound
import Derived.RangeFuncCalls
import Derived.RangeFuncLeaves
import Derived.Shelf.Abstract
import Derived.Shelf.RegionOpen
import Derived.WalkKit
import Derived.OwnWalkIn
import Derived.TacticsInMore
import Derived.LoopNIn
import Derived.LoopIn
import Derived.Test.YtmdpmdmilgbfiaaGreatDoorPartK
namespace Go.Proofs.YtmdpmdmilgbfiaaGreatDoor
open Go.RowKit
set_option maxRecDepth 100000
set_option maxHeartbeats 8000000
structure AF (w : World) (A : Nat) (f : Nat → Value) : Prop where
 c : ∀ j, j < 11 → w.cell? ⟨A, j, none⟩ = some (f j)
 z : ∀ o, w.frozen? ⟨A, o, none⟩ = false
theorem AF.lt {w : World} {A : Nat} {f : Nat → Value} (h : AF w A f) : A < w.heap.size := World.block_lt_of_cell? w ⟨A, 0, none⟩ (h.c 0 (by decide))
theorem AF.kept {p : Nat → Prop} {w w' : World} {A : Nat} {f : Nat → Value} (h : AF w A f) (K : Kept p w w') (hn : ¬ p A) : AF w' A f := ⟨fun j hj => K.cell (h.c j hj) hn, fun o => (World.frozen?_of_block (w := w) (K.block A h.lt hn)).trans (h.z o)⟩
theorem AF.set {w : World} {A : Nat} {f : Nat → Value} (h : AF w A f) (o : Nat) (v : Value) : AF (w.setCell ⟨A, o, none⟩ v) A (fun j => if j = o then v else f j) := by
 refine ⟨fun j hj => ?_, fun q => by rw [World.frozen?_setCell]; exact h.z q⟩
 by_cases e : j = o
 ·
  subst e
  rw [if_pos rfl]
  exact World.cell?_setCell_same _ _ _ (h.c j hj)
 ·
  rw [if_neg e, World.cell?_setCell_other _ _ _ _ (by simp; try exact fun h => e h)]
  exact h.c j hj
def acF (x : AC) (ga : Option Addr) (gc : Nat) (ka : Option Addr) (kc : Nat) (j : Nat) : Value := (LA.mk x ga gc ka kc 0 0).cells[j]!
theorem AF.congr {w : World} {A : Nat} {f g : Nat → Value} (h : AF w A f) (e : ∀ j, j < 11 → g j = f j) : AF w A g := ⟨fun j hj => by rw [e j hj]; exact h.c j hj, h.z⟩
theorem AF.new (w : World) (x : AC) (ga : Option Addr) (gc : Nat) (ka : Option Addr) (kc : Nat) (t : TypeId) (A : Nat) (hA : A = w.heap.size) : AF (w.alloc (.cells #[.int .i64 x.op, .int .i64 x.graph.root.kind, .int .i64 x.graph.root.num, .string x.graph.root.text, .int .i64 x.graph.root.node, .slice ga x.graph.nodes.length gc, .int .i64 x.steps, .slice ka x.kept.length kc, .int .i64 x.block, .int .i64 x.byte, .int .i64 x.xor] t)) A (acF x ga gc ka kc) := by
 subst hA
 refine ⟨fun j hj => ?_, fun o => by simp⟩
 have hb := blk_new_at w (.cells #[.int .i64 x.op, .int .i64 x.graph.root.kind, .int .i64 x.graph.root.num, .string x.graph.root.text, .int .i64 x.graph.root.node, .slice ga x.graph.nodes.length gc, .int .i64 x.steps, .slice ka x.kept.length kc, .int .i64 x.block, .int .i64 x.byte, .int .i64 x.xor] t) w.heap.size rfl
 rw [cell_of_row _ _ j _ _ _ hb]
 have h11 : j = 0 ∨ j = 1 ∨ j = 2 ∨ j = 3 ∨ j = 4 ∨ j = 5 ∨ j = 6 ∨ j = 7 ∨ j = 8 ∨ j = 9 ∨ j = 10 := by omega
 rcases h11 with rfl | rfl | rfl | rfl | rfl | rfl | rfl | rfl | rfl | rfl | rfl <;> rfl
theorem upto11 {p : Nat → Prop} (h : p 0 ∧ p 1 ∧ p 2 ∧ p 3 ∧ p 4 ∧ p 5 ∧ p 6 ∧ p 7 ∧ p 8 ∧ p 9 ∧ p 10) : ∀ j, j < 11 → p j := fun j hj => by
 obtain ⟨h0, h1, h2, h3, h4, h5, h6, h7, h8, h9, h10⟩ := h
 have h11 : j = 0 ∨ j = 1 ∨ j = 2 ∨ j = 3 ∨ j = 4 ∨ j = 5 ∨ j = 6 ∨ j = 7 ∨ j = 8 ∨ j = 9 ∨ j = 10 := by omega
 rcases h11 with rfl | rfl | rfl | rfl | rfl | rfl | rfl | rfl | rfl | rfl | rfl <;> assumption
theorem AF.graph {w : World} {A : Nat} {x : AC} {ga ka : Option Addr} {gc kc : Nat} (h : AF w A (acF x ga gc ka kc)) (g : GG) (ga' : Option Addr) (gc' : Nat) : AF (((((w.setCell ⟨A, 1, none⟩ (.int .i64 g.root.kind)).setCell ⟨A, 2, none⟩ (.int .i64 g.root.num)).setCell ⟨A, 3, none⟩ (.string g.root.text)).setCell ⟨A, 4, none⟩ (.int .i64 g.root.node)).setCell ⟨A, 5, none⟩ (.slice ga' g.nodes.length gc')) A (acF ⟨x.op, g, x.steps, x.kept, x.block, x.byte, x.xor⟩ ga' gc' ka kc) :=
 (((((h.set 1 _).set 2 _).set 3 _).set 4 _).set 5 _).congr (upto11 ⟨rfl, rfl, rfl, rfl, rfl, rfl, rfl, rfl, rfl, rfl, rfl⟩)
theorem AF.steps {w : World} {A : Nat} {x : AC} {ga ka : Option Addr} {gc kc : Nat} (h : AF w A (acF x ga gc ka kc)) (z : Int) : AF (w.setCell ⟨A, 6, none⟩ (.int .i64 z)) A (acF ⟨x.op, x.graph, z, x.kept, x.block, x.byte, x.xor⟩ ga gc ka kc) := (h.set 6 _).congr (upto11 ⟨rfl, rfl, rfl, rfl, rfl, rfl, rfl, rfl, rfl, rfl, rfl⟩)
theorem AF.bools {w : World} {A : Nat} {x : AC} {ga ka : Option Addr} {gc kc : Nat} (h : AF w A (acF x ga gc ka kc)) (ks : List Bool) (ka' : Option Addr) (kc' : Nat) : AF (w.setCell ⟨A, 7, none⟩ (.slice ka' ks.length kc')) A (acF ⟨x.op, x.graph, x.steps, ks, x.block, x.byte, x.xor⟩ ga gc ka' kc') := (h.set 7 _).congr (upto11 ⟨rfl, rfl, rfl, rfl, rfl, rfl, rfl, rfl, rfl, rfl, rfl⟩)
theorem AF.xor {w : World} {A : Nat} {x : AC} {ga ka : Option Addr} {gc kc : Nat} (h : AF w A (acF x ga gc ka kc)) (z : Int) : AF (w.setCell ⟨A, 10, none⟩ (.int .i64 z)) A (acF ⟨x.op, x.graph, x.steps, x.kept, x.block, x.byte, z⟩ ga gc ka kc) := (h.set 10 _).congr (upto11 ⟨rfl, rfl, rfl, rfl, rfl, rfl, rfl, rfl, rfl, rfl, rfl⟩)
theorem AF.op {w : World} {A : Nat} {x : AC} {ga ka : Option Addr} {gc kc : Nat} (h : AF w A (acF x ga gc ka kc)) (z : Int) : AF (w.setCell ⟨A, 0, none⟩ (.int .i64 z)) A (acF ⟨z, x.graph, x.steps, x.kept, x.block, x.byte, x.xor⟩ ga gc ka kc) := (h.set 0 _).congr (upto11 ⟨rfl, rfl, rfl, rfl, rfl, rfl, rfl, rfl, rfl, rfl, rfl⟩)
structure AV (wr : World) (b : Nat) (sa : Option Addr) (bs : List Nat) (cap lo A : Nat) (x : AC) (ga : Option Addr) (gc : Nat) (ka : Option Addr) (kc at_ : Nat) (ws : World) : Prop where
 f : AF ws A (acF x ga gc ka kc)
 ok : x.Ok
 nod : ∀ w', Kept (fun z => z < lo ∨ ws.heap.size ≤ z ∨ z = A) ws w' → NodesAt w'.heap.size w' ga x.graph.nodes ∧ BoolsAt w' ka x.kept
 d : DSK wr ws b sa bs cap at_
theorem AV.kept {wr : World} {b : Nat} {sa : Option Addr} {bs : List Nat} {cap lo A : Nat} {x : AC} {ga : Option Addr} {gc : Nat} {ka : Option Addr} {kc at_ at' : Nat} {ws ws' : World} (h : AV wr b sa bs cap lo A x ga gc ka kc at_ ws) (k : DSK ws ws' b sa bs cap at') (hb : b < lo) (hA : lo ≤ A) : AV wr b sa bs cap lo A x ga gc ka kc at' ws' :=
 ⟨h.f.kept k.kept (by omega), h.ok, fun w' K => h.nod w' ((k.kept.mono (fun z _ e => Or.inl (by omega))).trans K (fun z hz e => by
  rcases e with e | e | e
  · exact Or.inl e
  · have := k.kept.size; exact Or.inr (Or.inl (by omega))
  · exact Or.inr (Or.inr e))), h.d.trans k⟩
theorem AV.put {wr : World} {b : Nat} {sa : Option Addr} {bs : List Nat} {cap lo A : Nat} {x : AC} {ga : Option Addr} {gc : Nat} {ka : Option Addr} {kc at_ : Nat} {ws ws' : World} {x' : AC} {ga' : Option Addr} {gc' : Nat} {ka' : Option Addr} {kc' : Nat} (h : AV wr b sa bs cap lo A x ga gc ka kc at_ ws) (hf : AF ws' A (acF x' ga' gc' ka' kc')) (K : Kept (fun z => z = A) ws ws') (hz : ws'.heap.size = ws.heap.size) (hok : x'.Ok) (hn : ∀ w', Kept (fun z => z < lo ∨ ws.heap.size ≤ z ∨ z = A) ws w' → NodesAt w'.heap.size w' ga' x'.graph.nodes ∧ BoolsAt w' ka' x'.kept) (hb : b < lo) (hsl : ∀ g off, sa = some ⟨g, off, none⟩ → g < lo) (hA : lo ≤ A) (hl : wr.heap.size ≤ lo) : AV wr b sa bs cap lo A x' ga' gc' ka' kc' at_ ws' :=
 ⟨hf, hok, fun w' k => hn w' ((K.mono (fun z _ e => Or.inr (Or.inr e))).trans k (fun z _ e => by rw [hz] at e; exact e)), ⟨h.d.ds.kept K (fun e => by have e2 : b = A := e; omega) (fun g off e e2 => by have := hsl g off e; have e3 : g = A := e2; omega), h.d.kept.trans K (fun z hz2 e => by have e3 : z = A := e; omega)⟩⟩
theorem AF.cells {w : World} {A : Nat} {x : AC} {ga ka : Option Addr} {gc kc : Nat} (h : AF w A (acF x ga gc ka kc)) : w.cell? ⟨A, 0, none⟩ = some (.int .i64 x.op) ∧ w.cell? ⟨A, 1, none⟩ = some (.int .i64 x.graph.root.kind) ∧ w.cell? ⟨A, 2, none⟩ = some (.int .i64 x.graph.root.num) ∧ w.cell? ⟨A, 3, none⟩ = some (.string x.graph.root.text) ∧ w.cell? ⟨A, 4, none⟩ = some (.int .i64 x.graph.root.node) ∧ w.cell? ⟨A, 5, none⟩ = some (.slice ga x.graph.nodes.length gc) ∧ w.cell? ⟨A, 6, none⟩ = some (.int .i64 x.steps) ∧ w.cell? ⟨A, 7, none⟩ = some (.slice ka x.kept.length kc) ∧ w.cell? ⟨A, 8, none⟩ = some (.int .i64 x.block) ∧ w.cell? ⟨A, 9, none⟩ = some (.int .i64 x.byte) ∧ w.cell? ⟨A, 10, none⟩ = some (.int .i64 x.xor) :=
 ⟨h.c 0 (by decide), h.c 1 (by decide), h.c 2 (by decide), h.c 3 (by decide), h.c 4 (by decide), h.c 5 (by decide), h.c 6 (by decide), h.c 7 (by decide), h.c 8 (by decide), h.c 9 (by decide), h.c 10 (by decide)⟩
theorem AV.graph {wr : World} {b : Nat} {sa : Option Addr} {bs : List Nat} {cap lo A : Nat} {x : AC} {ga : Option Addr} {gc : Nat} {ka : Option Addr} {kc at_ at7 : Nat} {w6 w7 : World} (h : AV wr b sa bs cap lo A x ga gc ka kc at_ w6) (k : DSK w6 w7 b sa bs cap at7) {g : GG} {na : Option Addr} {nc : Nat} {nl : List NL} (hO : OwnG w7 w6.heap.size na nc nl) (hm : nl.map (·.n) = g.nodes) (hg : g.Ok) (hb : b < lo) (hsl : ∀ g off, sa = some ⟨g, off, none⟩ → g < lo) (hA : lo ≤ A) (hl : wr.heap.size ≤ lo) : AV wr b sa bs cap lo A ⟨x.op, g, x.steps, x.kept, x.block, x.byte, x.xor⟩ na nc ka kc at7 (((((w7.setCell ⟨A, 1, none⟩ (.int .i64 g.root.kind)).setCell ⟨A, 2, none⟩ (.int .i64 g.root.num)).setCell ⟨A, 3, none⟩ (.string g.root.text)).setCell ⟨A, 4, none⟩ (.int .i64 g.root.node)).setCell ⟨A, 5, none⟩ (.slice na g.nodes.length nc)) := by
 have h7 := h.kept k hb hA
 have hlt := h.f.lt
 have hin : ∀ z, w6.heap.size ≤ z ∧ z < w7.heap.size → ¬ (z < lo ∨ w7.heap.size ≤ z ∨ z = A) := fun z hz hp => by omega
 refine h7.put (h7.f.graph g na nc) ((((((Kept.refl (fun z => z = A) _).set (fun _ => rfl) _).set (fun _ => rfl) _).set (fun _ => rfl) _).set (fun _ => rfl) _).set (fun _ => rfl) _) (by simp [World.setCell]) ⟨h.ok.op, hg, h.ok.steps, h.ok.kept, h.ok.block, h.ok.byte, h.ok.xor⟩ (fun w' K => ⟨?_, (h7.nod w' K).2⟩) hb hsl hA hl
 have h9 := (hO.kept K (fun z e => hin z (hO.nodes.lt z (by rw [e]; rfl))) (fun y hy z e => hin z ((hO.vals y hy).lt z (by rw [e]; rfl)))).at_
 rw [hm] at h9
 exact h9
theorem AV.steps {wr : World} {b : Nat} {sa : Option Addr} {bs : List Nat} {cap lo A : Nat} {x : AC} {ga : Option Addr} {gc : Nat} {ka : Option Addr} {kc at_ : Nat} {ws : World} (h : AV wr b sa bs cap lo A x ga gc ka kc at_ ws) (z : Int) (hz : I64 z) (hb : b < lo) (hsl : ∀ g off, sa = some ⟨g, off, none⟩ → g < lo) (hA : lo ≤ A) (hl : wr.heap.size ≤ lo) : AV wr b sa bs cap lo A ⟨x.op, x.graph, z, x.kept, x.block, x.byte, x.xor⟩ ga gc ka kc at_ (ws.setCell ⟨A, 6, none⟩ (.int .i64 z)) :=
 h.put (h.f.steps z) ((Kept.refl (fun z => z = A) _).set (fun _ => rfl) _) (by simp [World.setCell]) ⟨h.ok.op, h.ok.graph, hz, h.ok.kept, h.ok.block, h.ok.byte, h.ok.xor⟩ h.nod hb hsl hA hl
theorem AV.xor {wr : World} {b : Nat} {sa : Option Addr} {bs : List Nat} {cap lo A : Nat} {x : AC} {ga : Option Addr} {gc : Nat} {ka : Option Addr} {kc at_ : Nat} {ws : World} (h : AV wr b sa bs cap lo A x ga gc ka kc at_ ws) (z : Int) (hz : I64 z) (hb : b < lo) (hsl : ∀ g off, sa = some ⟨g, off, none⟩ → g < lo) (hA : lo ≤ A) (hl : wr.heap.size ≤ lo) : AV wr b sa bs cap lo A ⟨x.op, x.graph, x.steps, x.kept, x.block, x.byte, z⟩ ga gc ka kc at_ (ws.setCell ⟨A, 10, none⟩ (.int .i64 z)) :=
 h.put (h.f.xor z) ((Kept.refl (fun z => z = A) _).set (fun _ => rfl) _) (by simp [World.setCell]) ⟨h.ok.op, h.ok.graph, h.ok.steps, h.ok.kept, h.ok.block, h.ok.byte, hz⟩ h.nod hb hsl hA hl
theorem AV.op {wr : World} {b : Nat} {sa : Option Addr} {bs : List Nat} {cap lo A : Nat} {x : AC} {ga : Option Addr} {gc : Nat} {ka : Option Addr} {kc at_ : Nat} {ws : World} (h : AV wr b sa bs cap lo A x ga gc ka kc at_ ws) (z : Int) (hz : I64 z) (hb : b < lo) (hsl : ∀ g off, sa = some ⟨g, off, none⟩ → g < lo) (hA : lo ≤ A) (hl : wr.heap.size ≤ lo) : AV wr b sa bs cap lo A ⟨z, x.graph, x.steps, x.kept, x.block, x.byte, x.xor⟩ ga gc ka kc at_ (ws.setCell ⟨A, 0, none⟩ (.int .i64 z)) :=
 h.put (h.f.op z) ((Kept.refl (fun z => z = A) _).set (fun _ => rfl) _) (by simp [World.setCell]) ⟨hz, h.ok.graph, h.ok.steps, h.ok.kept, h.ok.block, h.ok.byte, h.ok.xor⟩ h.nod hb hsl hA hl
theorem AV.mask {wr : World} {b : Nat} {sa : Option Addr} {bs : List Nat} {cap lo A : Nat} {x : AC} {ga : Option Addr} {gc : Nat} {ka : Option Addr} {kc at_ at7 : Nat} {w6 w7 : World} (h : AV wr b sa bs cap lo A x ga gc ka kc at_ w6) (k : DSK w6 w7 b sa bs cap at7) {ks : List Bool} {oa : Option Addr} {c : Nat} (hO : w7.ownsRow w6.heap.size 4 1 (.slice oa ks.length c) ks.length (kcells ks)) (hk : ks.length ≤ 70) (hb : b < lo) (hsl : ∀ g off, sa = some ⟨g, off, none⟩ → g < lo) (hA : lo ≤ A) (hl : wr.heap.size ≤ lo) : AV wr b sa bs cap lo A ⟨x.op, x.graph, x.steps, ks, x.block, x.byte, x.xor⟩ ga gc oa c at7 (w7.setCell ⟨A, 7, none⟩ (.slice oa ks.length c)) := by
 have h7 := h.kept k hb hA
 have hlt := h.f.lt
 exact h7.put (h7.f.bools ks oa c) ((Kept.refl (fun z => z = A) _).set (fun _ => rfl) _) (by simp [World.setCell]) ⟨h.ok.op, h.ok.graph, h.ok.steps, by show ks.length ≤ maxLen; unfold maxLen; omega, h.ok.block, h.ok.byte, h.ok.xor⟩ (fun w' K => ⟨(h7.nod w' K).1, kcells_at (K.owns hO (fun z e hp => by have := hO.lt z e; omega))⟩) hb hsl hA hl
theorem zeroG_okF : (GG.mk ⟨0, 0, ⟨#[]⟩, 0⟩ []).Ok := ⟨⟨small_i64 (by show (0 : Int) ≤ 0 ∧ (0 : Int) ≤ 1000000; omega), small_i64 (by show (0 : Int) ≤ 0 ∧ (0 : Int) ≤ 1000000; omega), Nat.zero_le _, small_i64 (by show (0 : Int) ≤ 0 ∧ (0 : Int) ≤ 1000000; omega)⟩, Nat.zero_le _, fun n hn => (by cases hn)⟩
theorem AC.bare_ok {o b y x : Int} (ho : 0 ≤ o ∧ o ≤ 1000000) (hb : 0 ≤ b ∧ b ≤ 1000000) (hy : 0 ≤ y ∧ y ≤ 1000000) (hx : 0 ≤ x ∧ x ≤ 1000000) : (AC.mk o ⟨⟨0, 0, ⟨#[]⟩, 0⟩, []⟩ 0 [] b y x).Ok := ⟨small_i64 ho, zeroG_okF, small_i64 (by show (0 : Int) ≤ 0 ∧ (0 : Int) ≤ 1000000; omega), Nat.zero_le _, small_i64 hb, small_i64 hy, small_i64 hx⟩
theorem AV.spoil {wr : World} {b : Nat} {sa : Option Addr} {bs : List Nat} {cap lo A : Nat} {x : AC} {ga : Option Addr} {gc : Nat} {ka : Option Addr} {kc at_ : Nat} {ws : World} (h : AV wr b sa bs cap lo A x ga gc ka kc at_ ws) (p q r : Int) (hp : 0 ≤ p ∧ p ≤ 1000000) (hq : 0 ≤ q ∧ q ≤ 1000000) (hr : 0 ≤ r ∧ r ≤ 1000000) (hb : b < lo) (hsl : ∀ g off, sa = some ⟨g, off, none⟩ → g < lo) (hA : lo ≤ A) (hl : wr.heap.size ≤ lo) : AV wr b sa bs cap lo A ⟨4, ⟨⟨0, 0, ⟨#[]⟩, 0⟩, []⟩, 0, [], p, q, r⟩ none 0 none 0 at_ (((((((((((ws.setCell ⟨A, 0, none⟩ (.int .i64 4)).setCell ⟨A, 1, none⟩ (.int .i64 0)).setCell ⟨A, 2, none⟩ (.int .i64 0)).setCell ⟨A, 3, none⟩ (.string ⟨#[]⟩)).setCell ⟨A, 4, none⟩ (.int .i64 0)).setCell ⟨A, 5, none⟩ (.slice none 0 0)).setCell ⟨A, 6, none⟩ (.int .i64 0)).setCell ⟨A, 7, none⟩ (.slice none 0 0)).setCell ⟨A, 8, none⟩ (.int .i64 p)).setCell ⟨A, 9, none⟩ (.int .i64 q)).setCell ⟨A, 10, none⟩ (.int .i64 r)) :=
 h.put ((((((((((((h.f.set 0 _).set 1 _).set 2 _).set 3 _).set 4 _).set 5 _).set 6 _).set 7 _).set 8 _).set 9 _).set 10 _).congr (upto11 ⟨rfl, rfl, rfl, rfl, rfl, rfl, rfl, rfl, rfl, rfl, rfl⟩)) ((((((((((((Kept.refl (fun z => z = A) _).set (fun _ => rfl) _).set (fun _ => rfl) _).set (fun _ => rfl) _).set (fun _ => rfl) _).set (fun _ => rfl) _).set (fun _ => rfl) _).set (fun _ => rfl) _).set (fun _ => rfl) _).set (fun _ => rfl) _).set (fun _ => rfl) _).set (fun _ => rfl) _) (by simp [World.setCell]) (AC.bare_ok (by decide) hp hq hr) (fun w' _ => ⟨fun i hi => absurd hi (Nat.not_lt_zero _), fun i hi => absurd hi (Nat.not_lt_zero _)⟩) hb hsl hA hl
theorem AV.new {wr w5 : World} {b : Nat} {sa : Option Addr} {bs : List Nat} {cap at5 : Nat} (h : DSK wr w5 b sa bs cap at5) (x : Nat) (hx : x < 3) : AV wr b sa bs cap wr.heap.size w5.heap.size ⟨1 + (x : Int), ⟨⟨0, 0, ⟨#[]⟩, 0⟩, []⟩, 0, [], 0, 0, 0⟩ none 0 none 0 at5 (w5.alloc (.cells #[.int .i64 (1 + (x : Int)), .int .i64 0, .int .i64 0, .string ⟨#[]⟩, .int .i64 0, .slice none 0 0, .int .i64 0, .slice none 0 0, .int .i64 0, .int .i64 0, .int .i64 0] 41)) := by
 have hF6 := AF.new w5 ⟨1 + (x : Int), ⟨⟨0, 0, ⟨#[]⟩, 0⟩, []⟩, 0, [], 0, 0, 0⟩ none 0 none 0 41 w5.heap.size rfl
 have hA6 := gal (gre w5) (.cells #[.int .i64 (1 + (x : Int)), .int .i64 0, .int .i64 0, .string ⟨#[]⟩, .int .i64 0, .slice none 0 0, .int .i64 0, .slice none 0 0, .int .i64 0, .int .i64 0, .int .i64 0] 41)
 exact ⟨hF6, AC.bare_ok (by omega) (by decide) (by decide) (by decide), fun w' _ => ⟨fun i hi => absurd hi (Nat.not_lt_zero _), fun i hi => absurd hi (Nat.not_lt_zero _)⟩, ⟨h.ds.kept (Kept.of_below hA6 (fun _ => False)) (fun e => e) (fun _ _ _ e => e), h.kept.trans (Kept.of_below hA6 (fun _ => False)) (fun _ _ e => e.elim)⟩⟩
theorem f6acts_x (b : Nat) (sa : Option Addr) (bs : List Nat) (cap at_ : Nat) (w : World) (hc : DS w b sa bs cap at_) (hat : at_ + 1200000 < 4611686018427387904) :
  Calls Tryz.prog 31 #[.pointer (some ⟨b, 0, none⟩)] w (fun e w' => ∃ (la : List LA) (oa : Option Addr) (oc at' : Nat), Hid ((la.map (·.x), at') = actsF bs at_) ∧ e = .returned (.slice oa la.length oc) ∧ la.length ≤ 61 ∧ (∀ y, y ∈ la → y.x.Ok) ∧ SAc w.heap.size w' oa oc la ∧ DSK w w' b sa bs cap at') := by
 have hbl := hc.dc.lt
 have hsl := hc.dc.sl
 obtain ⟨i0, hi, hz0, hz1, hz2⟩ := info_parts info_act
 go_enter Tryz.func31, Tryz.ntmps31
 go_upto_if 10 with (first
  | (go_at_call_of 37 ((10 : Int)); refine (f6pick_of b sa bs cap at_ 10 10 _ rfl hc (by omega) (by omega) (by omega)).mono ?_; rintro e w1 ⟨x, at1, hxE, ha1E, hx, ha1, rfl, hk1⟩)
  | (go_at_call_of 37 ((40 : Int)); refine (f6pick_of b sa bs cap at1 40 40 _ rfl hk1.ds (by omega) (by omega) (by omega)).mono ?_; rintro e w2 ⟨y, at2, hyE, ha2E, hy, ha2, rfl, hk2⟩))
 have hk12 := hk1.trans hk2
 go_cut [4] from 6 (fun v wc => ∃ n at3 : Nat, v = .int .i64 (n : Int) ∧ Hid (actsF bs at_ = actsN bs at3 n) ∧ n ≤ 61 ∧ at3 ≤ at_ + 6 ∧ DSK w wc b sa bs cap at3)
 case first =>
  by_cases hy0 : y = 0
  ·
   subst hy0
   go_wp2_with (go_at_call 37; refine (f6pick_of b sa bs cap at2 3 3 _ rfl hk2.ds (by omega) (by omega) (by omega)).mono ?_; rintro e w3 ⟨z, at3, hzE, ha3E, hz, ha3, rfl, hk3⟩; have e1 : IntKind.i64.wrap (59 + (z : Int)) = 59 + (z : Int) := (by rw [IntKind.wrap_i64]; omega))
   go_meet
   case rel => exact ⟨59 + z, at3, by first | rfl | exact congrArg (Value.int .i64) (by omega), by show _ = _; rw [actsF, if_pos (by rw [← ha1E.out]; exact hyE.out.symm), ← ha1E.out, ← ha2E.out, ← ha3E.out, ← hzE.out], by omega, by omega, hk12.trans hk3⟩
  ·
   have hy1 : ¬ ((y : Int) = 0) := by omega
   go_wp2
   go_meet
   case rel => exact ⟨x, at2, rfl, by show _ = _; rw [actsF, if_neg (by rw [← ha1E.out, ← hyE.out]; exact hy0), ← ha1E.out, ← ha2E.out, ← hxE.out], by omega, by omega, hk12⟩
 obtain ⟨n, at3, rfl, hnE, hn61, ha3, hk3⟩ := hcut
 generalize wc = w3 at hk3 ⊢
 clear hk1 hk2 hk12
 go_wp2
 go_loopw [3, 4] (fun o i wr => ∃ (j at4 : Nat) (la : List LA) (oa : Option Addr) (oc : Nat), o = .slice oa la.length oc ∧ i = .int .i64 (j : Int) ∧ Hid ((la.map (·.x), at4) = actsN bs at3 la.length) ∧ Hid (la.length + j = n) ∧ at4 + 17000 * j ≤ at_ + 1100000 ∧ (∀ y, y ∈ la → y.x.Ok) ∧ SAc w.heap.size wr oa oc la ∧ DSK w wr b sa bs cap at4) (fun _ i _ => (intOf i).toNat)
 case atStart => exact ⟨n, at3, [], none, 0, rfl, rfl, rfl, by show 0 + n = n; omega, by omega, fun y hy => (by cases hy), SAc.nil _ _, hk3⟩
 case round =>
  clear hk3
  obtain ⟨j, at4, la, oa, oc, rfl, rfl, hlaE, hlj, ha4, hlok, hS, hD⟩ := hrel
  by_cases hlt : 0 < j
  case neg =>
   obtain rfl : j = 0 := by omega
   go_wp2
   go_ret
   exact ⟨la, oa, oc, at4, by have h9 := hlj.out; show (_, _) = _; rw [hnE.out, ← h9, Nat.add_zero]; exact hlaE.out, rfl, by have := hlj.out; omega, hlok, hS, hD⟩
  have hjl : (0 : Int) < (j : Int) := by omega
  have hwr := hD.kept.size
  go_upto_region 8 with (go_at_call_of 37 ((3 : Int)); refine (f6pick_of b sa bs cap at4 3 3 _ rfl hD.ds (by omega) (by omega) (by omega)).mono ?_; rintro e w5 ⟨x, at5, hxE, ha5E, hx, ha5, rfl, hk5⟩; have e1 : IntKind.i64.wrap (1 + (x : Int)) = 1 + (x : Int) := (by rw [IntKind.wrap_i64]; omega))
  have hs5 := hk5.kept.size
  have hV6 := AV.new hk5 x hx
  have hA56 : w5.heap.size < (w5.alloc (.cells #[.int .i64 (1 + (x : Int)), .int .i64 0, .int .i64 0, .string ⟨#[]⟩, .int .i64 0, .slice none 0 0, .int .i64 0, .slice none 0 0, .int .i64 0, .int .i64 0, .int .i64 0] 41)).heap.size := hV6.f.lt
  generalize w5.alloc (.cells #[.int .i64 (1 + (x : Int)), .int .i64 0, .int .i64 0, .string ⟨#[]⟩, .int .i64 0, .slice none 0 0, .int .i64 0, .slice none 0 0, .int .i64 0, .int .i64 0, .int .i64 0] 41) = w6 at hV6 hA56 ⊢
  have hAw : wr.heap.size ≤ w5.heap.size := hs5
  generalize w5.heap.size = A at hV6 hAw hA56 ⊢
  clear hs5
  have hbr : b < wr.heap.size := by omega
  have hsr : ∀ g off, sa = some ⟨g, off, none⟩ → g < wr.heap.size := fun g off e => by have := hsl g off e; omega
  have q0 : w6.cell? ⟨A, 0, none⟩ = some (.int .i64 (1 + (x : Int))) := hV6.f.c 0 (by decide)
  obtain rfl | rfl | rfl : x = 0 ∨ x = 1 ∨ x = 2 := by omega
  case' inl =>
   go_upto_region 15 with (go_at_call 39; refine (f6graph_any b sa bs cap at5 _ hV6.d.ds (by omega)).mono ?_; rintro e w7 ⟨g, ga, gc, gl, at7, hgE, rfl, hgn, hgok, hgw, hgO, ha7, hk7⟩; have hV7 := hV6.kept hk7 hbr hAw; have fz := hV7.f.z; have r1 : w7.cell? ⟨A, 1, none⟩ = some (.int .i64 0) := hV7.f.c 1 (by decide); have r2 : w7.cell? ⟨A, 2, none⟩ = some (.int .i64 0) := hV7.f.c 2 (by decide); have r3 : w7.cell? ⟨A, 3, none⟩ = some (.string ⟨#[]⟩) := hV7.f.c 3 (by decide); have r4 : w7.cell? ⟨A, 4, none⟩ = some (.int .i64 0) := hV7.f.c 4 (by decide); have r5 : w7.cell? ⟨A, 5, none⟩ = some (.slice none 0 0) := hV7.f.c 5 (by decide); simp only [GG.val])
   have hV8 := hV6.graph hk7 hgO hgn hgok hbr hsr hAw (Nat.le_refl _)
   dsimp only at hV8
   generalize World.setCell _ _ _ = w9 at hV8 ⊢
   obtain ⟨x1, ga1, gc1, ka1, kc1, at9, hE, ha9, hV9⟩ : ∃ (x1 : AC) (ga1 : Option Addr) (gc1 : Nat) (ka1 : Option Addr) (kc1 at9 : Nat), Hid ((x1, at9) = st1F bs at4) ∧ at9 ≤ at4 + 16500 ∧ AV wr b sa bs cap wr.heap.size A x1 ga1 gc1 ka1 kc1 at9 w9 := ⟨_, _, _, _, _, _, by show (_, _) = _; rw [st1F, if_pos (by rw [← hxE.out]), ← ha5E.out, ← hgE.out]; rfl, by omega, hV8⟩
   clear hV8 hV7 hV6 q0 hk7 hgE hgn hgO hgok hgw ha7 r1 r2 r3 r4 r5 fz
  case' inr.inl =>
   go_upto_region 15 with (first
    | (go_at_call 39; refine (f6graph_any b sa bs cap at5 _ hV6.d.ds (by omega)).mono ?_; rintro e w7 ⟨g, ga, gc, gl, at7, hgE, rfl, hgn, hgok, hgw, hgO, ha7, hk7⟩; have hV7 := hV6.kept hk7 hbr hAw; have fz := hV7.f.z; have r1 : w7.cell? ⟨A, 1, none⟩ = some (.int .i64 0) := hV7.f.c 1 (by decide); have r2 : w7.cell? ⟨A, 2, none⟩ = some (.int .i64 0) := hV7.f.c 2 (by decide); have r3 : w7.cell? ⟨A, 3, none⟩ = some (.string ⟨#[]⟩) := hV7.f.c 3 (by decide); have r4 : w7.cell? ⟨A, 4, none⟩ = some (.int .i64 0) := hV7.f.c 4 (by decide); have r5 : w7.cell? ⟨A, 5, none⟩ = some (.slice none 0 0) := hV7.f.c 5 (by decide); simp only [GG.val])
    | (go_at_call_of 37 ((9 : Int)); have hV8 := hV6.graph hk7 hgO hgn hgok hbr hsr hAw (Nat.le_refl _); dsimp only at hV8; generalize World.setCell _ _ _ = w8 at hV8 ⊢; refine (f6pick_of b sa bs cap at7 9 9 _ rfl hV8.d.ds (by omega) (by omega) (by omega)).mono ?_; rintro e w9 ⟨y, at8, hyE, ha8E, hy, ha8, rfl, hk9⟩; have hV9 := hV8.kept hk9 hbr hAw; have s6 : w9.cell? ⟨A, 6, none⟩ = some (.int .i64 0) := hV9.f.c 6 (by decide); have fz9 := hV9.f.z)
    | (go_at_call 60; have hV10 := hV9.steps (y : Int) (small_i64 (by omega)) hbr hsr hAw (Nat.le_refl _); dsimp only at hV10; generalize World.setCell _ _ _ = w10 at hV10 ⊢; refine (f6mask_any b sa bs cap at8 _ hV10.d.ds (by omega)).mono ?_; rintro e w11 ⟨ka, kc, ks, at11, hmE, hmL, ha11, rfl, hmO, hk11⟩; have hV11 := hV10.kept hk11 hbr hAw; have s7 : w11.cell? ⟨A, 7, none⟩ = some (.slice none 0 0) := hV11.f.c 7 (by decide); have fz11 := hV11.f.z))
   have hV12 := hV10.mask hk11 hmO hmL hbr hsr hAw (Nat.le_refl _)
   dsimp only at hV12
   generalize World.setCell _ _ _ = w12 at hV12 ⊢
   obtain ⟨x1, ga1, gc1, ka1, kc1, at9, hE, ha9, hV9⟩ : ∃ (x1 : AC) (ga1 : Option Addr) (gc1 : Nat) (ka1 : Option Addr) (kc1 at9 : Nat), Hid ((x1, at9) = st1F bs at4) ∧ at9 ≤ at4 + 16500 ∧ AV wr b sa bs cap wr.heap.size A x1 ga1 gc1 ka1 kc1 at9 w12 := ⟨_, _, _, _, _, _, by show (_, _) = _; rw [st1F, if_neg (by rw [← hxE.out]; decide), if_pos (by rw [← hxE.out]), ← ha5E.out, ← hgE.out]; dsimp only; rw [← ha8E.out, ← hyE.out, ← hmE.out]; rfl, by omega, hV12⟩
   generalize w12 = w9 at hV9 ⊢
   clear hV12 hV11 hV10 hV8 hV7 hV6 q0 hk7 hk9 hk11 hgE hgn hgO hgok hgw ha7 hyE ha8E hmE hmO s6 s7 fz9 fz11 r1 r2 r3 r4 r5 fz
  case' inr.inr =>
   go_upto_region 15 with fail
   obtain ⟨x1, ga1, gc1, ka1, kc1, at9, hE, ha9, hV9⟩ : ∃ (x1 : AC) (ga1 : Option Addr) (gc1 : Nat) (ka1 : Option Addr) (kc1 at9 : Nat), Hid ((x1, at9) = st1F bs at4) ∧ at9 ≤ at4 + 16500 ∧ AV wr b sa bs cap wr.heap.size A x1 ga1 gc1 ka1 kc1 at9 w6 := ⟨_, _, _, _, _, _, by show (_, _) = _; rw [st1F, if_neg (by rw [← hxE.out]; decide), if_neg (by rw [← hxE.out]; decide), ← ha5E.out]; rfl, by omega, hV6⟩
   generalize w6 = w9 at hV9 ⊢
   clear hV6 q0
  all_goals
   clear hxE ha5E hk5
   go_upto_if 42 with (go_at_call_of 37 ((9 : Int)); refine (f6pick_of b sa bs cap at9 9 9 _ rfl hV9.d.ds (by omega) (by omega) (by omega)).mono ?_; rintro e w10 ⟨y, at10, yE, at10E, yL, at10L, rfl, k10⟩; have hV10 := hV9.kept k10 hbr hAw)
   go_cut [] from 18 to 70 (fun wc => ∃ (x2 : AC) (ga2 : Option Addr) (gc2 : Nat) (ka2 : Option Addr) (kc2 at11 : Nat), Hid ((x2, at11) = st2F bs (x1, at9)) ∧ at11 ≤ at9 + 20 ∧ AV wr b sa bs cap wr.heap.size A x2 ga2 gc2 ka2 kc2 at11 wc)
   case first =>
    by_cases hy0 : y = 0
    ·
     subst hy0
     go_wp2_with (first
      | (go_at_call_of 37 ((3 : Int)); refine (f6pick_of b sa bs cap at10 3 3 _ rfl hV10.d.ds (by omega) (by omega) (by omega)).mono ?_; rintro e w11 ⟨z1, at11, z1E, at11E, z1L, at11L, rfl, k11⟩; have hV11 := hV10.kept k11 hbr hAw)
      | (go_at_call_of 37 ((2 : Int)); refine (f6pick_of b sa bs cap at11 2 2 _ rfl hV11.d.ds (by omega) (by omega) (by omega)).mono ?_; rintro e w12 ⟨z2, at12, z2E, at12E, z2L, at12L, rfl, k12⟩; have hV12 := hV11.kept k12 hbr hAw; have e2 : IntKind.i64.wrap (63 * (z2 : Int)) = 63 * (z2 : Int) := (by rw [IntKind.wrap_i64]; omega); have e3 : IntKind.i64.wrap ((z1 : Int) + 63 * (z2 : Int)) = (z1 : Int) + 63 * (z2 : Int) := (by rw [IntKind.wrap_i64]; omega))
      | (go_at_call_of 37 ((64 : Int)); refine (f6pick_of b sa bs cap at12 64 64 _ rfl hV12.d.ds (by omega) (by omega) (by omega)).mono ?_; rintro e w13 ⟨z3, at13, z3E, at13E, z3L, at13L, rfl, k13⟩; have hV13 := hV12.kept k13 hbr hAw)
      | (go_at_call_of 37 ((255 : Int)); refine (f6pick_of b sa bs cap at13 255 255 _ rfl hV13.d.ds (by omega) (by omega) (by omega)).mono ?_; rintro e w14 ⟨z4, at14, z4E, at14E, z4L, at14L, rfl, k14⟩; have hV14 := hV13.kept k14 hbr hAw; have e4 : IntKind.i64.wrap (1 + (z4 : Int)) = 1 + (z4 : Int) := (by rw [IntKind.wrap_i64]; omega); obtain ⟨r0, r1, r2, r3, r4, r5, r6, r7, r8, r9, r10⟩ := hV14.f.cells; have fz := hV14.f.z))
     have hV15 := hV14.spoil ((z1 : Int) + 63 * (z2 : Int)) (z3 : Int) (1 + (z4 : Int)) (by omega) (by omega) (by omega) hbr hsr hAw (Nat.le_refl _)
     go_meet
     case rel => exact ⟨_, none, 0, none, 0, at14, by show (_, _) = _; rw [st2F]; dsimp only; rw [if_pos yE.out.symm, ← at10E.out, ← at11E.out, ← at12E.out, ← at13E.out, ← at14E.out, ← z1E.out, ← z2E.out, ← z3E.out, ← z4E.out]; rfl, by omega, hV15⟩
    ·
     have hy1 : ¬ ((y : Int) = 0) := by omega
     go_wp2
     go_meet
     case rel => exact ⟨x1, ga1, gc1, ka1, kc1, at10, by show (_, _) = _; rw [st2F]; dsimp only; rw [if_neg (by rw [← yE.out]; exact hy0), ← at10E.out], by omega, hV10⟩
   obtain ⟨x2, ga2, gc2, ka2, kc2, at11, hE2, ha11, hV11⟩ := hcut
   generalize wc = w11 at hV11 ⊢
   clear yE at10E hV10 k10 hV9
   go_upto_if 57 with (go_at_call_of 37 ((25 : Int)); refine (f6pick_of b sa bs cap at11 25 25 _ rfl hV11.d.ds (by omega) (by omega) (by omega)).mono ?_; rintro e w20 ⟨v, at20, vE, at20E, vL, at20L, rfl, k20⟩; have hV20 := hV11.kept k20 hbr hAw)
   go_cut [] from 18 to 70 (fun wc => ∃ (x3 : AC) (ga3 : Option Addr) (gc3 : Nat) (ka3 : Option Addr) (kc3 at12 : Nat), Hid ((x3, at12) = st3F bs (x2, at11)) ∧ at12 ≤ at11 + 20 ∧ AV wr b sa bs cap wr.heap.size A x3 ga3 gc3 ka3 kc3 at12 wc)
   case first =>
    by_cases hy0 : v = 0
    ·
     subst hy0
     go_wp2_with (first
      | (go_at_call_of 37 ((2 : Int)); refine (f6pick_of b sa bs cap at20 2 2 _ rfl hV20.d.ds (by omega) (by omega) (by omega)).mono ?_; rintro e w21 ⟨s1, at21, s1E, at21E, s1L, at21L, rfl, k21⟩; have hV21 := hV20.kept k21 hbr hAw; obtain ⟨r0, r1, r2, r3, r4, r5, r6, r7, r8, r9, r10⟩ := hV21.f.cells; have fz := hV21.f.z)
      | (go_at_call_of 37 ((202 : Int)); have hV22 := hV21.xor (s1 : Int) (small_i64 (by omega)) hbr hsr hAw (Nat.le_refl _); (try dsimp only at hV22); generalize World.setCell _ _ _ = w22 at hV22 ⊢; clear r0 r1 r2 r3 r4 r5 r6 r7 r8 r9 r10 fz; refine (f6pick_of b sa bs cap at21 202 202 _ rfl hV22.d.ds (by omega) (by omega) (by omega)).mono ?_; rintro e w23 ⟨s2, at23, s2E, at23E, s2L, at23L, rfl, k23⟩; have hV23 := hV22.kept k23 hbr hAw; obtain ⟨r0, r1, r2, r3, r4, r5, r6, r7, r8, r9, r10⟩ := hV23.f.cells; have fz := hV23.f.z)
      | (go_at_call_of 37 ((6 : Int)); have hV24 := hV23.steps (s2 : Int) (small_i64 (by omega)) hbr hsr hAw (Nat.le_refl _); (try dsimp only at hV24); generalize World.setCell _ _ _ = w24 at hV24 ⊢; clear r0 r1 r2 r3 r4 r5 r6 r7 r8 r9 r10 fz; refine (f6pick_of b sa bs cap at23 6 6 _ rfl hV24.d.ds (by omega) (by omega) (by omega)).mono ?_; rintro e w25 ⟨s3, at25, s3E, at25E, s3L, at25L, rfl, k25⟩; have hV25 := hV24.kept k25 hbr hAw; obtain ⟨r0, r1, r2, r3, r4, r5, r6, r7, r8, r9, r10⟩ := hV25.f.cells; have fz := hV25.f.z))
     have hV26 := hV25.op (s3 : Int) (small_i64 (by omega)) hbr hsr hAw (Nat.le_refl _)
     dsimp only at hV26
     go_meet
     case rel => exact ⟨_, _, _, _, _, at25, by show (_, _) = _; rw [st3F]; dsimp only; rw [if_pos vE.out.symm, ← at20E.out, ← at21E.out, ← at23E.out, ← at25E.out, ← s1E.out, ← s2E.out, ← s3E.out], by omega, hV26⟩
    ·
     have hy1 : ¬ ((v : Int) = 0) := by omega
     go_wp2
     go_meet
     case rel => exact ⟨x2, ga2, gc2, ka2, kc2, at20, by show (_, _) = _; rw [st3F]; dsimp only; rw [if_neg (by rw [← vE.out]; exact hy0), ← at20E.out], by omega, hV20⟩
   obtain ⟨x3, ga3, gc3, ka3, kc3, at12, hE3, ha12, hV12⟩ := hcut
   generalize wc = w12 at hV12 ⊢
   clear vE at20E hV20 k20 hV11
   have hE4 : Hid ((x3, at12) = actF1 bs at4) := by show _ = _; rw [actF1, ← hE.out, ← hE2.out, ← hE3.out]
   clear hE hE2 hE3
   obtain ⟨r0, r1, r2, r3, r4, r5, r6, r7, r8, r9, r10⟩ := hV12.f.cells; have fz := hV12.f.z
   have hs12 := hV12.d.kept.size
   have hS12 := hS.kept hV12.d.kept (fun z e1 e2 => by have := (hS.own.lt z e1).1; have e3 : z = b := e2; omega) (fun y hy z e1 _ => by have := (hS.rng y hy).1; have e3 : z = b := e1; exact Or.inl (by omega))
   have hll : la.length ≤ 61 := by have := hlj.out; omega
   go_wp2_with (at_builtin; refine wpList_append_lies _ rfl (.tmp 67) (.tmp 69) 23 rfl w.heap.size 41 i0 _ 11 128 Tryz.underlying23 hi hz0 hz1 hz2 rfl (by decide) _ _ _ rfl (hS12.own.alloc _) ⟨w12.heap.size, 0, none⟩ 1 1 (LA.mk x3 ga3 gc3 ka3 kc3 wr.heap.size w12.heap.size).cells rfl rfl (World.news_of_block (cs := #[.int .i64 x3.op, .int .i64 x3.graph.root.kind, .int .i64 x3.graph.root.num, .string x3.graph.root.text, .int .i64 x3.graph.root.node, .slice ga3 x3.graph.nodes.length gc3, .int .i64 x3.steps, .slice ka3 x3.kept.length kc3, .int .i64 x3.block, .int .i64 x3.byte, .int .i64 x3.xor]) (t := 41) (fr := (0, 0)) (blk_new_at _ _ _ (by simp))) (by simp [LA.cells, Value.oneCell']) (by decide) (by unfold maxLen; omega) (by omega) (by simp; omega) (w12.heap.size + 1) (by simp) ?_; intro gg cc w13 hown hgrow hat13 hlt13)
   have hP := hS12.grow (gal (gre w12) (.cells #[.int .i64 x3.op, .int .i64 x3.graph.root.kind, .int .i64 x3.graph.root.num, .string x3.graph.root.text, .int .i64 x3.graph.root.node, .slice ga3 x3.graph.nodes.length gc3, .int .i64 x3.steps, .slice ka3 x3.kept.length kc3, .int .i64 x3.block, .int .i64 x3.byte, .int .i64 x3.xor] 41))
   have hAl := Kept.of_below (gal (gre w12) (.cells #[.int .i64 x3.op, .int .i64 x3.graph.root.kind, .int .i64 x3.graph.root.num, .string x3.graph.root.text, .int .i64 x3.graph.root.node, .slice ga3 x3.graph.nodes.length gc3, .int .i64 x3.steps, .slice ka3 x3.kept.length kc3, .int .i64 x3.block, .int .i64 x3.byte, .int .i64 x3.xor] 41)) (fun _ => False)
   have hsz : (w12.alloc (.cells #[.int .i64 x3.op, .int .i64 x3.graph.root.kind, .int .i64 x3.graph.root.num, .string x3.graph.root.text, .int .i64 x3.graph.root.node, .slice ga3 x3.graph.nodes.length gc3, .int .i64 x3.steps, .slice ka3 x3.kept.length kc3, .int .i64 x3.block, .int .i64 x3.byte, .int .i64 x3.xor] 41)).heap.size = w12.heap.size + 1 := World.size_alloc _ _
   have hob : ∀ z, (Value.slice oa la.length oc).ownBlock = some z → w.heap.size ≤ z ∧ z < wr.heap.size := fun z e => hS.own.lt z e
   have hP2 := hP.push (y := LA.mk x3 ga3 gc3 ka3 kc3 wr.heap.size w12.heap.size) (w5 := w13) (gg := gg) (cc := cc) ⟨hwr, hs12, by rw [hsz]; show w12.heap.size ≤ _; omega⟩ (fun z e => Or.inl (hob z e).2) (fun w' K => hV12.nod w' ((hAl.mono (fun _ _ e => e.elim)).trans K (fun z hz e => by
    rcases e with e | e
    · exact Or.inl e
    · exact Or.inr (Or.inl e)))) hown hgrow (by rw [hsz]; exact hat13)
   have hD13 : DSK w w13 b sa bs cap at12 := ⟨(hV12.d.ds.kept hAl (fun e => e) (fun _ _ _ e => e)).kept (Kept.of_grown hgrow) (fun e => by have := (hob b e).1; omega) (fun g off e e2 => by have := (hob g e2).1; have := hsl g off e; omega), ((hD.kept.trans hV12.d.kept (fun _ _ e => e)).trans hAl (fun _ _ e => e.elim)).trans (Kept.of_grown hgrow) (fun z hz e => by have := (hob z e).1; omega)⟩
   go_roundw
   case rel =>
    refine ⟨j - 1, at12, la ++ [LA.mk x3 ga3 gc3 ka3 kc3 wr.heap.size w12.heap.size], some ⟨gg, 0, none⟩, cc, by rw [List.length_append]; rfl, by rw [show ((j - 1 : Nat) : Int) = (j : Int) - 1 by omega], by show (_, _) = _; rw [List.length_append, List.length_singleton, actsN, List.map_append, ← hlaE.out]; dsimp only; rw [← hE4.out]; rfl, by show _ = _; rw [List.length_append]; have := hlj.out; simp; omega, by omega, fun y hy => ?_, hP2, hD13⟩
    rcases List.mem_append.1 hy with hy | hy
    · exact hlok y hy
    ·
     obtain rfl : y = _ := by simpa using hy
     exact hV12.ok
   case measure => simp [intOf]; omega
theorem ActAt.new_at (w : World) (x : AC) (ga : Option Addr) (gc : Nat) (ka : Option Addr) (kc : Nat) (t : TypeId) (b : Nat) (hb : b = w.heap.size) : ActAt (w.alloc (.cells #[.int .i64 x.op, .int .i64 x.graph.root.kind, .int .i64 x.graph.root.num, .string x.graph.root.text, .int .i64 x.graph.root.node, .slice ga x.graph.nodes.length gc, .int .i64 x.steps, .slice ka x.kept.length kc, .int .i64 x.block, .int .i64 x.byte, .int .i64 x.xor] t)) b 0 x ga gc ka kc := by
 subst hb
 exact ⟨by simp, by simp, by simp, by simp, by simp, by simp, by simp, by simp, by simp, by simp, by simp⟩
def GV.nul (v : GV) : Bool := decide (v.kind = 0) && decide (v.num = 0) && decide (v.text.toList = []) && decide (v.node = 0)
def AC.bare (x : AC) : Bool := x.graph.root.nul && decide (x.graph.nodes.length = 0) && decide (x.steps = 0) && decide (x.kept.length = 0) && decide (x.block = 0) && decide (x.byte = 0) && decide (x.xor = 0)
theorem isBare_any (x : AC) (ga : Option Addr) (gc : Nat) (ka : Option Addr) (kc : Nat) (w : World) :
  Calls Tryz.prog 119 #[x.val ga gc ka kc] w fun e w' => e = .returned (.bool x.bare) ∧ Below w.heap.size w w' := by
 have hA : Below w.heap.size w (w.alloc (.cells #[.int .i64 x.op, .int .i64 x.graph.root.kind, .int .i64 x.graph.root.num, .string x.graph.root.text, .int .i64 x.graph.root.node, .slice ga x.graph.nodes.length gc, .int .i64 x.steps, .slice ka x.kept.length kc, .int .i64 x.block, .int .i64 x.byte, .int .i64 x.xor] 41)) := gal (gre w) _
 go_enter Tryz.func119, Tryz.ntmps119
 by_cases e0 : x.graph.root.kind = 0
 ·
  by_cases e1 : x.graph.root.num = 0
  ·
   by_cases e2 : x.graph.root.text.toList = []
   ·
    by_cases e3 : x.graph.root.node = 0
    ·
     go_upto_region 1 with fail
     go_wp2
     all_goals
      go_ret
      exact ⟨by first | (simp_all [AC.bare, GV.nul]; done) | (simp_all [AC.bare, GV.nul]; rfl), gal (gre w) _⟩
    ·
     go_upto_region 1 with fail
     go_wp2
     all_goals
      go_ret
      exact ⟨by first | (simp_all [AC.bare, GV.nul]; done) | (simp_all [AC.bare, GV.nul]; rfl), gal (gre w) _⟩
   ·
    go_upto_region 1 with fail
    go_wp2
    all_goals
     go_ret
     exact ⟨by first | (simp_all [AC.bare, GV.nul]; done) | (simp_all [AC.bare, GV.nul]; rfl), gal (gre w) _⟩
  ·
   go_upto_region 1 with fail
   go_wp2
   all_goals
    go_ret
    exact ⟨by first | (simp_all [AC.bare, GV.nul]; done) | (simp_all [AC.bare, GV.nul]; rfl), gal (gre w) _⟩
 ·
  go_upto_region 1 with fail
  go_wp2
  all_goals
   go_ret
   exact ⟨by first | (simp_all [AC.bare, GV.nul]; done) | (simp_all [AC.bare, GV.nul]; rfl), gal (gre w) _⟩
def AC.okA (x : AC) : Bool :=
 let cut := decide (x.steps = 0) && decide (x.kept.length = 0)
 let spoil := decide (x.block = 0) && decide (x.byte = 0) && decide (x.xor = 0)
 let bare := x.graph.root.nul && decide (x.graph.nodes.length = 0)
 if x.op = 1 then cut && spoil
 else if x.op = 2 then decide (0 ≤ x.steps) && decide (x.steps ≤ 200) && decide (x.kept.length ≤ 200) && spoil
 else if x.op = 3 then cut && spoil && bare
 else if x.op = 4 then cut && bare && decide (0 ≤ x.block) && decide (x.block < 130) && decide (0 ≤ x.byte) && decide (x.byte < 64) && decide (1 ≤ x.xor) && decide (x.xor ≤ 255)
 else false
theorem l5bare_any (x : AC) (ga : Option Addr) (gc : Nat) (ka : Option Addr) (kc : Nat) (w : World) :
  Calls Tryz.prog 109 #[x.val ga gc ka kc] w fun e w' => e = .returned (.bool (x.graph.root.nul && decide (x.graph.nodes.length = 0))) ∧ Below w.heap.size w w' := by
 go_enter Tryz.func109, Tryz.ntmps109
 by_cases e0 : x.graph.root.kind = 0
 ·
  by_cases e1 : x.graph.root.num = 0
  ·
   by_cases e2 : x.graph.root.text.toList = []
   ·
    by_cases e3 : x.graph.root.node = 0
    ·
     go_wp2
     all_goals
      go_ret
      exact ⟨by first | (simp_all [GV.nul]; done) | (simp_all [GV.nul]; cases x.graph.nodes <;> simp <;> omega), gal (gre w) _⟩
    ·
     go_wp2
     all_goals
      go_ret
      exact ⟨by first | (simp_all [GV.nul]; done) | (simp_all [GV.nul]; cases x.graph.nodes <;> simp <;> omega), gal (gre w) _⟩
   ·
    go_wp2
    all_goals
     go_ret
     exact ⟨by first | (simp_all [GV.nul]; done) | (simp_all [GV.nul]; cases x.graph.nodes <;> simp <;> omega), gal (gre w) _⟩
  ·
   go_wp2
   all_goals
    go_ret
    exact ⟨by first | (simp_all [GV.nul]; done) | (simp_all [GV.nul]; cases x.graph.nodes <;> simp <;> omega), gal (gre w) _⟩
 ·
  go_wp2
  all_goals
   go_ret
   exact ⟨by first | (simp_all [GV.nul]; done) | (simp_all [GV.nul]; cases x.graph.nodes <;> simp <;> omega), gal (gre w) _⟩
section
variable {P : Program} {ops : Array Oper} {Q : Exit → Act → World → Prop} {md : Region.Mode}
def backB (ops : Array Oper) : Bool := (List.range ops.size).all fun i => match ops[i]? with
 | some o => o.after.all fun e => decide (e.on < i)
 | none => true
def predsB (md : Region.Mode) (o : Oper) (ps : List Nat) : Bool := ps.all fun k => o.after.any fun e => Region.binds md e && e.on == k
theorem backB_of (h : backB ops = true) {i : Nat} {o : Oper} (ho : ops[i]? = some o) : ∀ e ∈ o.after, e.on < i := fun e he => by
 have hlt : i < ops.size := (Array.getElem?_eq_some_iff.1 ho).1
 unfold backB at h
 have h2 := List.all_eq_true.1 h i (List.mem_range.2 hlt)
 rw [ho] at h2
 simpa using (Array.all_eq_true_iff_forall_mem.1 h2) e he
theorem all_of_none (hb : backB ops = true) {listed : Array Bool} (hn : listed.size = ops.size) (h : Region.ready md ops listed = []) : ∀ m i, i < m → i < ops.size → listed.getD i false = true
 | 0, i, hi, _ => absurd hi (Nat.not_lt_zero _)
 | m + 1, i, hi, hs => by
  by_cases e : i < m
  · exact all_of_none hb hn h m i e hs
  obtain ⟨o, ho⟩ : ∃ o, ops[i]? = some o := ⟨ops[i], Array.getElem?_eq_getElem hs⟩
  cases hl : listed.getD i false with
  | true => rfl
  | false =>
   have h1 : i ∈ Region.ready md ops listed := mem_ready.2 ⟨by simp [Array.getD, hn, hs] at hl ⊢; exact hl, o, ho, fun e' he _ => by
    have := backB_of hb ho e' he
    exact all_of_none hb hn h m e'.on (by omega) (by omega)⟩
   rw [h] at h1
   cases h1
theorem count_set_false {l : Array Bool} {i : Nat} (h : i < l.size) (hf : l.getD i true = false) : (l.setIfInBounds i true).toList.count false + 1 = l.toList.count false := by
 have h1 : l[i] = false := by simpa [Array.getD, h] using hf
 have h2 : l.toList.count false ≠ 0 := fun e => by
  have := List.count_eq_zero.1 e
  exact this (by rw [← h1]; exact Array.getElem_mem_toList h)
 have e1 : l.toList[i]'(by simpa using h) = false := by simpa using h1
 rw [Array.toList_setIfInBounds, List.count_set (by simpa using h), e1]
 simp only [beq_self_eq_true, if_true, show (true == false) = false from rfl, Bool.false_eq_true, if_false]
 omega
end
section
variable {F : Fence} {n : Nat} {P : Program} {ops : Array Oper} {Q : Exit → Act → World → Prop} 
def edgeB (md : Region.Mode) (ops : Array Oper) (j k : Nat) : Bool := match ops[j]? with
 | some o => o.after.any fun e => Region.binds md e && e.on == k
 | none => false
def StepJN (F : Fence) (n : Nat) (P : Program) (ops : Array Oper) (Q : Exit → Act → World → Prop) (J : (Nat → Prop) → Act → World → Prop) (i : Nat) (o : Oper) (ps : List Nat) : Prop :=
 ∀ (D : Nat → Prop) (a : Act) (w : World), (∀ j k, D j → edgeB .any ops j k = true → D k) → (∀ k, k ∈ ps → D k) → ¬ D i → J D a w → ∀ K : Act → World → Prop, Shut (∀ a' w', J (fun j => j = i ∨ D j) a' w' → K a' w') → if Region.wanted o (yielded ops a.tmps) = true then Oper.wpIn F n P o a w K Q else (∀ f, o.about P w a.eval = some f → F.fn f) ∧ K (a.put o.dst undef) w
theorem wpAnyIn_inv (J : (Nat → Prop) → Act → World → Prop) (hb : backB ops = true)
  (hstep : ∀ i, i < ops.size → ∃ o ps, ops[i]? = some o ∧ predsB .any o ps = true ∧ StepJN F n P ops Q J i o ps)
  (hend : ∀ a w, J (fun i => i < ops.size) a w → Q .normal a w) :
  ∀ (fuel : Nat) (listed : Array Bool) (a : Act) (w : World), listed.size = ops.size → listed.toList.count false ≤ fuel → (∀ j k, listed.getD j false = true → edgeB .any ops j k = true → listed.getD k false = true) → J (fun i => listed.getD i false = true) a w → wpAnyIn F n P .any ops Q fuel listed a w := by
 have hall : ∀ (listed : Array Bool) (a : Act) (w : World), listed.size = ops.size → Region.ready .any ops listed = [] → J (fun i => listed.getD i false = true) a w → Q .normal a w := fun listed a w hn hr hJ => by
  refine hend a w ?_
  have e : (fun i => listed.getD i false = true) = (fun i => i < ops.size) := funext fun i => propext ⟨fun h => by
   rcases Nat.lt_or_ge i listed.size with h' | h'
   · omega
   · simp [Array.getD, Nat.not_lt.2 h'] at h, fun h => all_of_none hb hn hr (i + 1) i (Nat.lt_succ_self _) h⟩
  rw [← e]; exact hJ
 intro fuel
 induction fuel with
 | zero =>
  intro listed a w hn hc hcl hJ
  have hr : Region.ready .any ops listed = [] := by
   cases hr : Region.ready .any ops listed with
   | nil => rfl
   | cons x xs =>
    have hx : x ∈ Region.ready .any ops listed := by rw [hr]; exact List.mem_cons_self ..
    obtain ⟨h1, o, ho, _⟩ := mem_ready.1 hx
    have hlt : x < ops.size := (Array.getElem?_eq_some_iff.1 ho).1
    have := count_set_false (by omega) h1
    omega
  exact ⟨hr, hall listed a w hn hr hJ⟩
 | succ fuel ih =>
  intro listed a w hn hc hcl hJ
  refine ⟨fun hr => hall listed a w hn hr hJ, fun i hi => ?_⟩
  obtain ⟨h1, o, ho, hp⟩ := mem_ready.1 hi
  have hlt : i < ops.size := (Array.getElem?_eq_some_iff.1 ho).1
  obtain ⟨o', ps, ho', hps, hst⟩ := hstep i hlt
  rw [ho] at ho'
  obtain rfl := Option.some.inj ho'
  have hcs := count_set_false (l := listed) (i := i) (by omega) h1
  refine wpOpIn_step ho (fun K' hK => hst _ a w hcl (fun k hk => ?_) (fun hD => ?_) hJ K' (fun a' w' hJ' => hK a' w' ?_))
  ·
   obtain ⟨e, he, hb2⟩ := Array.any_eq_true'.1 (List.all_eq_true.1 hps k hk)
   simp only [Bool.and_eq_true, beq_iff_eq] at hb2
   have := hp e he hb2.1
   rw [hb2.2] at this
   exact this
  ·
   simp [Array.getD, hn, hlt] at h1 hD
   rw [h1] at hD
   cases hD
  ·
   refine ih _ a' w' (by simpa using hn) (by omega) (fun j k hj he => ?_) ?_
   ·
    have hk : listed.getD k false = true := by
     by_cases e : j = i
     ·
      subst e
      unfold edgeB at he
      rw [ho] at he
      obtain ⟨e, hem, hb2⟩ := Array.any_eq_true'.1 he
      simp only [Bool.and_eq_true, beq_iff_eq] at hb2
      have := hp e hem hb2.1
      rw [hb2.2] at this
      exact this
     ·
      rw [getD_set_ne false (Ne.symm e)] at hj
      exact hcl j k hj he
    by_cases e : k = i
    · subst e; simp [Array.getD, hn, hlt]
    · rw [getD_set_ne false (Ne.symm e)]; exact hk
   have e : (fun j => (listed.setIfInBounds i true).getD j false = true) = (fun j => j = i ∨ listed.getD j false = true) := funext fun j => propext (by
    by_cases e : j = i
    ·
     subst e
     simp [Array.getD, hn, hlt]
    ·
     rw [getD_set_ne false (Ne.symm e)]
     simp [e])
   rw [e]; exact hJ'
theorem wpIn_regionJ {id : Nat} {a : Act} {w : World} (J : (Nat → Prop) → Act → World → Prop) (hm : P.follows .mixedOrders = true) (hb : backB ops = true) (h0 : J (fun _ => False) a w.drew)
  (hend : ∀ a w, J (fun i => i < ops.size) a w → Q .normal a w)
  (hstep : ∀ i, i < ops.size → ∃ o ps, ops[i]? = some o ∧ predsB .any o ps = true ∧ StepJN F n P ops Q J i o ps) : (Code.region id ops true).wpIn F n P Q a w := by
 refine wpIn_region_any hm (wpAnyIn_inv J hb hstep hend ops.size _ a _ (by simp) (by simp) (fun j k hj _ => ?_) ?_)
 ·
  by_cases h : j < ops.size
  · simp [Array.getD, h] at hj
  · simp [Array.getD, h] at hj
 have e : (fun i => (Array.replicate ops.size false).getD i false = true) = (fun _ => False) := funext fun i => propext (by
  by_cases h : i < ops.size
  · simp [Array.getD, h]
  · simp [Array.getD, h])
 rw [e]; exact h0
end
open Go.RowKit Go.Shelf
attribute [local go_sem] Oper.semAt_some
def partV (b off : Nat) (im : List Nat) (x : Nat) : Value := .slice (some ⟨b, off + 64 * x, none⟩) (cutOf im x).length (cutOf im x).length
theorem part_bytes {w : World} {b off : Nat} {im : List Nat} (h : BytesAt w (some ⟨b, off, none⟩) im) (x : Nat) : BytesAt w (some ⟨b, off + 64 * x, none⟩) (cutOf im x) := fun i hi => by
 have h1 : i < 64 ∧ i < im.length - 64 * x := by simp [cutOf] at hi; omega
 obtain ⟨b', off', e, hc⟩ := h (64 * x + i) (by omega)
 injection e with e
 injection e with e1 e2
 subst e1
 subst e2
 have e3 : (cutOf im x)[i]! = im[64 * x + i]! := by
  rw [getElem!_pos _ i hi, getElem!_pos im _ (by omega)]
  simp [cutOf]
 exact ⟨b, off + 64 * x, rfl, by rw [e3, Nat.add_assoc]; exact hc⟩
def KpC (n₀ : Nat) (q : Nat → Prop) (W W' : World) : Prop := Kept (fun z => q z ∨ n₀ ≤ z) W W'
theorem chunk_any (ia : Option Addr) (n ic : Nat) (w : World) :
  Calls Tryz.prog 52 #[.slice ia n ic, .int .i64 64] w fun e w' => e = .returned (.func (.func 93) #[] #[.pointer (some ⟨w.heap.size, 0, none⟩), .pointer (some ⟨w.heap.size + 1, 0, none⟩)]) ∧ w' = (w.alloc (.cells #[.slice ia n ic] 22)).alloc (.cells #[.int .i64 64] 3) := by
 go_enter Tryz.func52, Tryz.ntmps52
 go_wp2
 go_ret
 exact ⟨rfl, by simp⟩
theorem range_pre {j m : Nat} (h : j < m) : List.range (j + 1) <+: List.range m := by
 obtain ⟨k, rfl⟩ : ∃ k, m = (j + 1) + k := ⟨m - (j + 1), by omega⟩
 exact ⟨(List.range k).map (fun x => (j + 1) + x), List.range_add.symm⟩
theorem chunk1_in (n : Nat) (hn : 1 ≤ n) (l B1 B2 n₀ b off ic : Nat) (q : Nat → Prop) (im : List Nat) (hil : im.length ≤ 4096) (hic : im.length ≤ ic) (_hb : b < n₀ ∧ ¬ q b) (h1 : B1 < n₀ ∧ ¬ q B1) (h2 : B2 < n₀ ∧ ¬ q B2) (J Jx : List Nat → World → Prop) {Bj : Nat} (hJ : AbidesFrom Bj J)
  (hY : ∀ pre x W, J pre W → pre.length < nBlk im → YieldAt Fence.wide (n - 1) Tryz.prog l #[partV b off im x] W fun e W' =>
   (e = .returned (.bool true) ∧ J (pre ++ [x]) W' ∧ KpC n₀ q W W') ∨ (e = .returned (.bool false) ∧ Jx (pre ++ [x]) W'))
  (W : World) (hB1 : W.cell? ⟨B1, 0, none⟩ = some (.slice (some ⟨b, off, none⟩) im.length ic)) (hB2 : W.cell? ⟨B2, 0, none⟩ = some (.int .i64 64)) (h0 : J [] W) :
  CallsIn Fence.wide n Tryz.prog 93 #[.func (.yield l) #[] #[], .pointer (some ⟨B1, 0, none⟩), .pointer (some ⟨B2, 0, none⟩)] W fun e W' => (∃ v, e = .returned v) ∧
   ((∃ ys, ys = List.range (nBlk im) ∧ J ys W') ∨ (∃ pre, pre <+: List.range (nBlk im) ∧ Jx pre W')) := by
 refine callsIn_of_wp Tryz.func93 rfl trivial ?_ rfl
 simp only [Tryz.ntmps93, List.size_toArray, List.length_cons, List.length_nil, Nat.reduceAdd, Nat.reduceSub, Array.replicate_succ, Array.replicate_zero, List.push_toArray, List.append_toArray, List.nil_append, List.cons_append]
 gi_wp2
 gi_loopw [4] (fun i wr => ∃ j : Nat, j ≤ nBlk im ∧ i = .int .i64 ((64 * j : Nat) : Int) ∧ J (List.range j) wr ∧ wr.cell? ⟨B1, 0, none⟩ = some (.slice (some ⟨b, off, none⟩) im.length ic) ∧ wr.cell? ⟨B2, 0, none⟩ = some (.int .i64 64)) (fun i _ => im.length + 64 - (intOf i).toNat)
 case atStart => exact ⟨0, Nat.zero_le _, rfl, h0, hB1, hB2⟩
 case round =>
  obtain ⟨j, hj, rfl, hJs, c1, c2⟩ := hrel
  obtain ⟨p, hp⟩ := hid_ex (64 * j)
  rw [← hp.out]
  by_cases hlt : j < nBlk im
  ·
   have hpl : (p : Int) < (im.length : Int) := by have := hp.out; unfold nBlk at hlt; omega
   have i0 : (0 : Int) ≤ (p : Int) := by omega
   have i1 : (p : Int) ≤ (ic : Int) := by omega
   have i2 : (p : Int) ≤ (im.length : Int) := by omega
   gi_wp2
   refine wpIn_wide.2 ?_
   go_quiet (fail)
   obtain ⟨en, hen⟩ := hid_ex (cutOf im j).length
   have hene : en = min 64 (im.length - p) := by rw [hen.out, hp.out]; simp [cutOf]
   have hmin : (if ((im.length - p : Nat) : Int) < 64 then ((im.length - p : Nat) : Int) else 64) = (en : Int) := by split <;> omega
   rw [hmin]
   have hJd : J (List.range j) (wr.drewN nq) := hJ _ _ _ none hJs ⟨rfl, rfl, rfl, Nat.le_refl _, fun _ _ _ => rfl⟩ (fun r e => by cases e)
   have c1 : (wr.drewN nq).cell? ⟨B1, 0, none⟩ = some (.slice (some ⟨b, off, none⟩) im.length ic) := c1
   have c2 : (wr.drewN nq).cell? ⟨B2, 0, none⟩ = some (.int .i64 64) := c2
   generalize wr.drewN nq = wd at hJd c1 c2 ⊢
   obtain ⟨fn, tmps, assign, body, hy, hR⟩ := hY (List.range j) j wd hJd (by simpa using hlt)
   unfold partV at hy
   rw [← hp.out, ← hen.out] at hy
   have he64 : en ≤ 64 := by omega
   have hpe : p + en ≤ im.length := by omega
   have hen1 : 0 < en := by omega
   have hen2 : en ≠ 0 := by omega
   clear hene hmin
   gi_wp2
   refine hR.mono ?_
   rintro e W3 (⟨rfl, hJ3, hk3⟩ | ⟨rfl, hJx3⟩)
   ·
    have c1 : W3.cell? ⟨B1, 0, none⟩ = some (.slice (some ⟨b, off, none⟩) im.length ic) := hk3.cell c1 (by rintro (e | e); exact h1.2 e; omega)
    have c2 : W3.cell? ⟨B2, 0, none⟩ = some (.int .i64 64) := hk3.cell c2 (by rintro (e | e); exact h2.2 e; omega)
    gi_wp2
    go_roundw
    case rel => exact ⟨j + 1, by omega, by rw [show 64 * (j + 1) = p + 64 by have := hp.out; omega]; go_num, by rw [List.range_succ]; exact hJ3, c1, c2⟩
    case measure => simp [intOf]; omega
   ·
    gi_wp2
    refine bodyPost_ret (results_none rfl _ _ _) rfl ?_
    exact ⟨⟨_, rfl⟩, .inr ⟨List.range j ++ [j], by rw [← List.range_succ]; exact range_pre hlt, hJx3⟩⟩
  ·
   have hpl : ¬ ((p : Int) < (im.length : Int)) := by have := hp.out; unfold nBlk at hlt; omega
   obtain rfl : j = nBlk im := by omega
   gi_wp2
   go_end0
   exact ⟨⟨_, rfl⟩, .inl hJs⟩
theorem chunk_stops (n : Nat) (hn : 1 ≤ n) (B1 B2 n₀ b off ic : Nat) (q : Nat → Prop) (im : List Nat) (hil : im.length ≤ 4096) (hic : im.length ≤ ic) (hb : b < n₀ ∧ ¬ q b) (h1 : B1 < n₀ ∧ ¬ q B1) (h2 : B2 < n₀ ∧ ¬ q B2) (w : World) (hn₀ : n₀ ≤ w.heap.size)
  (hB1 : w.cell? ⟨B1, 0, none⟩ = some (.slice (some ⟨b, off, none⟩) im.length ic)) (hB2 : w.cell? ⟨B2, 0, none⟩ = some (.int .i64 64)) :
  SeqStopsK Fence.wide n Tryz.prog 93 #[.pointer (some ⟨B1, 0, none⟩), .pointer (some ⟨B2, 0, none⟩)] (fun x : Nat => #[partV b off im x]) (KpC n₀ q) (fun ys => ys = List.range (nBlk im)) (fun pre => pre <+: List.range (nBlk im)) (nBlk im) w := fun l J Jx W hW hJ _ hY h0 =>
 chunk1_in n hn l B1 B2 n₀ b off ic q im hil hic hb h1 h2 J Jx hJ hY W ((hW.cell (p := ⟨B1, 0, none⟩) (by show B1 < _; omega)).trans hB1) ((hW.cell (p := ⟨B2, 0, none⟩) (by show B2 < _; omega)).trans hB2) h0
end Go.Proofs.YtmdpmdmilgbfiaaGreatDoor
