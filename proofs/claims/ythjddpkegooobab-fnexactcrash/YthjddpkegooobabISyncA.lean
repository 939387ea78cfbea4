/-
  ISYNC: the program's Sync and Crash. Own work.
-/
import Derived.Test.YthjddpkegooobabSSyncA
import Derived.Test.YthjddpkegooobabDPowA
import Derived.Test.YthjddpkegooobabIBlankA
import Derived.Laws.EntriesVeiled
namespace Go.Proofs.Ythjddpkegooobab
open Go.RowKit

theorem md_zero (w : World) (lo hi : Nat) : MD w lo hi ⟨none, 0, none, 0⟩ zeroD (fun _ => none) (fun _ => none) (fun _ => 0) (fun _ => 0) :=
  ⟨⟨fun h => absurd h (Nat.lt_irrefl _), fun _i hi => absurd hi (Nat.not_lt_zero _), fun _i _j _ hj => absurd hj (Nat.not_lt_zero _)⟩, ⟨fun h => absurd h (Nat.lt_irrefl _), fun _i hi => absurd hi (Nat.not_lt_zero _), fun _i _j _ hj => absurd hj (Nat.not_lt_zero _)⟩, fun _i _j hi _ => absurd hi (Nat.not_lt_zero _)⟩
theorem DPost.zero {w w' : World} (h : Below w.heap.size w w') : DPost zeroD w (.returned (.agg #[.slice none 0 0, .slice none 0 0])) w' := ⟨⟨none, 0, none, 0⟩, _, _, _, _, rfl, md_zero _ _ _, h⟩
theorem VB.below {w w' : World} {V p : Nat} {s0 s1 : Value} (h : VB w V s0 s1) (hb : Below p w w') (hV : V < p) : VB w' V s0 s1 :=
  ⟨(World.cell?_of_block (w := w) (hb.block V hV)).trans h.v0, (World.cell?_of_block (w := w) (hb.block V hV)).trans h.v1, fun o => (World.frozen?_of_block (w := w) (a := ⟨V, o, none⟩) (hb.block V hV)).trans (h.vf o)⟩

set_option maxHeartbeats 1000000 in
set_option maxRecDepth 100000 in
theorem syncK_any (p : Nat) (bl : List (List Nat)) (pa : Option Addr) (pc : Nat) (ws : List DW) (kv : Value) (w : World) (hw : ws.length ≤ 201) (hwb : ∀ x, x ∈ ws → 0 ≤ x.block ∧ x.block < 130) (hDr : Dr w p bl pa pc ws kv) :
    Calls Try.prog 108 #[.pointer (some ⟨p, 0, none⟩)] w fun e w' => e = .returned (.tuple #[]) ∧ Dr w' p (settleN keepAll bl ws ws.length) none 0 [] (.func (.func 156) #[] #[]) ∧ Kept (fun z => z = p) w w' := by
  have kf := hDr.d.kf
  have kz := hDr.d.frozen (o := 8321) (by decide)
  go_enter Try.func108, Try.ntmps108
  go_upto_region 1 with fail
  have hD4 := hDr.d.setK (.func (.func 156) #[] #[])
  have K4 := Kept.one w p 8321 (.func (.func 156) #[] #[])
  have hO4 := K4.owns hDr.own (fun z hz e => by have := (hDr.own.lt z hz).1; omega)
  have hDr4 : Dr (w.setCell ⟨p, 8321, none⟩ (.func (.func 156) #[] #[])) p bl pa pc ws (.func (.func 156) #[] #[]) := ⟨hD4, hO4, hDr.w64⟩
  generalize w.setCell ⟨p, 8321, none⟩ (.func (.func 156) #[] #[]) = w4 at hD4 K4 hO4 hDr4 ⊢
  clear hD4 hO4 kf kz
  go_wp2_with (go_at_call 113; refine (powerSyncK_any p bl pa pc ws _ hw hwb hDr4).mono ?_; rintro e w5 ⟨rfl, hDr5, hb5⟩)
  go_end0
  exact ⟨rfl, hDr5, K4.trans hb5 (fun _ _ e => e)⟩

theorem sync_any (p : Nat) (bl : List (List Nat)) (pa : Option Addr) (pc : Nat) (ws : List DW) (kv : Value) (w : World) (hw : ws.length ≤ 201) (hwb : ∀ x, x ∈ ws → 0 ≤ x.block ∧ x.block < 130) (hDr : Dr w p bl pa pc ws kv) :
    Calls Try.prog 108 #[.pointer (some ⟨p, 0, none⟩)] w fun e w' => e = .returned (.tuple #[]) ∧ Dr w' p (settleN keepAll bl ws ws.length) none 0 [] (.func (.func 156) #[] #[]) ∧ Below p w w' :=
  (syncK_any p bl pa pc ws kv w hw hwb hDr).mono fun _ _ ⟨he, hD, hK⟩ => ⟨he, hD, hK.below (by have := hDr.d.lt; omega) (fun z hz e => by omega)⟩

end Go.Proofs.Ythjddpkegooobab
