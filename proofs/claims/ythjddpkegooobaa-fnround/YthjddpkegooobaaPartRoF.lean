import Derived.Test.YthjddpkegooobaaPartRoE

/-
  RD2: the program's reader: words, values. Own work.
-/
namespace Go.Proofs.Ythjddpkegooobaa
open Go.RowKit

theorem wrap64_eq (n : Int) : wrap64 n = IntKind.i64.wrap n := by rw [IntKind.wrap_i64]; unfold wrap64; omega
theorem orI_form {n : Int} {x i : Nat} (hx : x < 256) : bits .or .i64 n (wrap64 (wrap64 (x : Int) * 2 ^ (8 * i))) = orI n x i := by
  have e1 : wrap64 (x : Int) = (x : Int) := by unfold wrap64; omega
  rw [e1, wrap64_eq]; rfl

set_option maxRecDepth 100000 in
theorem readWord_any (b : Nat) (sa : Option Addr) (cap : Nat) (bs r : List Nat) (w : World) (hR : Rd w b sa cap bs r) :
    Calls Try.prog 138 #[.pointer (some ⟨b, 0, none⟩)] w (RPost (rdLow 8 0 0 r) (fun x => .int .i64 x) b sa cap bs w) := by
  go_enter Try.func138, Try.ntmps138
  go_wp2
  go_loopw [3, 5] (fun a c ws => ∃ (n : Int) (i : Nat) (q : List Nat), a = .int .i64 n ∧ c = .int .i64 i ∧ i ≤ 8 ∧ Hid (rdLow 8 0 0 r = rdLow (8 - i) i n q) ∧ Rd ws b sa cap bs q ∧ Kept (fun k => k = b) w ws) (fun _ c _ => 8 - (intOf c).toNat)
  case atStart => exact ⟨0, 0, r, rfl, rfl, by omega, rfl, hR, Kept.refl _ _⟩
  case round =>
    obtain ⟨n, i, q, rfl, rfl, hi, hq, hRq, hK⟩ := hrel
    by_cases hlt : i < 8
    · have hd : (i : Int) < 8 := by omega
      go_wp2_with (go_at_call 149; refine (readByte_any b sa cap bs q _ hRq).mono ?_; rintro e w1 ⟨hK1, ⟨x, r', hx, rfl, hR1⟩ | ⟨hno, rfl⟩⟩)
      · obtain ⟨hx256, hqx⟩ := hRq.head hx.out
        have e5 : Hid (rdLow 8 0 0 r = rdLow (8 - (i + 1)) (i + 1) (orI n x i) r') := by
          show _ = _
          rw [hq.out, hqx, show 8 - i = (8 - (i + 1)) + 1 by omega, rdLow]
        refine ⟨⟨_, i + 1, r', congrArg (Value.int .i64) (orI_form hx256), by go_num, by omega, e5, hR1, hK.trans hK1 (fun _ _ h => h)⟩, ?_⟩
        simp [intOf]; omega
      · have e5 : Hid (rdLow 8 0 0 r = none) := by
          show _ = _
          rw [hq.out, show 8 - i = (8 - (i + 1)) + 1 by omega]
          cases q with
          | nil => rfl
          | cons y t => cases hno.out
        exact ⟨rfl, hK.trans hK1 (fun _ _ h => h), Or.inr ⟨e5, rfl⟩⟩
    · obtain rfl : i = 8 := by omega
      go_wp2
      go_ret
      exact ⟨hK, Or.inl ⟨n, q, hq, rfl, hRq⟩⟩

theorem xor_all (x : Nat) (h : x < 18446744073709551616) : x ^^^ 18446744073709551615 = 18446744073709551615 - x := by
  have h1 := congrArg BitVec.toNat (BitVec.xor_allOnes (x := BitVec.ofNat 64 x))
  rw [BitVec.toNat_xor, BitVec.toNat_not, BitVec.toNat_allOnes, BitVec.toNat_ofNat, Nat.mod_eq_of_lt h] at h1
  exact h1
theorem zag_form {n : Nat} (hn : n < 18446744073709551616) : bits .xor .i64 ((n : Int) / 2) (wrap64 (-wrap64 (bits .and .u64 (n : Int) 1))) = zag n := by
  have e1 : bits .and .u64 (n : Int) 1 = ((n % 2 : Nat) : Int) := by
    rw [u64_and _ _ (by omega) (by omega) (by omega) (by omega)]
    have h1 : (1 : Int).toNat = 1 := rfl
    rw [h1, Int.toNat_natCast, nat_mask1]
  have e2 : (n : Int) / 2 = IntKind.i64.wrap ((n / 2 : Nat) : Int) := by rw [IntKind.wrap_i64]; omega
  rw [e1]
  unfold zag
  split
  · rename_i h
    have e3 : wrap64 (-wrap64 ((n % 2 : Nat) : Int)) = IntKind.i64.wrap ((18446744073709551615 : Nat) : Int) := by rw [h, IntKind.wrap_i64]; unfold wrap64; omega
    rw [e2, e3]
    show IntKind.i64.wrap ((BitVec.ofInt 64 (IntKind.i64.wrap ((n / 2 : Nat) : Int)) ^^^ BitVec.ofInt 64 (IntKind.i64.wrap ((18446744073709551615 : Nat) : Int))).toNat : Nat) = _
    rw [BitVec.toNat_xor, ofInt_wrap _ (by omega), ofInt_wrap _ (by omega), xor_all _ (by omega), IntKind.wrap_i64]
    omega
  · rename_i h
    have e3 : wrap64 (-wrap64 ((n % 2 : Nat) : Int)) = IntKind.i64.wrap ((0 : Nat) : Int) := by rw [show n % 2 = 0 by omega, IntKind.wrap_i64]; unfold wrap64; omega
    rw [e2, e3]
    show IntKind.i64.wrap ((BitVec.ofInt 64 (IntKind.i64.wrap ((n / 2 : Nat) : Int)) ^^^ BitVec.ofInt 64 (IntKind.i64.wrap ((0 : Nat) : Int))).toNat : Nat) = _
    rw [BitVec.toNat_xor, ofInt_wrap _ (by omega), ofInt_wrap _ (by omega), Nat.xor_zero, IntKind.wrap_i64]
    omega

/-- what reading a value leaves -/
def RVPost (b : Nat) (sa : Option Addr) (cap : Nat) (bs r : List Nat) (w : World) (e : Ending) (w' : World) : Prop := RPost (rdVal r) GV.val b sa cap bs w e w'

set_option maxRecDepth 100000 in
theorem rdNum_lt : ∀ (n s : Nat) (r : List Nat) (x : Nat) (r' : List Nat), n < 18446744073709551616 → rdNum n s r = some (x, r') → x < 18446744073709551616
  | _, _, [], _, _, _, h => by cases h
  | n, s, b :: r, x, r', hn, h => by
    unfold rdNum at h
    split at h
    · have e := congrArg (fun o => o.map Prod.fst) h
      have e2 : orU n (b % 128) s = x := by simpa using e
      rw [← e2]; exact orU_lt hn
    · exact rdNum_lt _ _ r x r' (orU_lt hn) h

theorem kk {b : Nat} {w w' w'' : World} (h : Kept (fun k => k = b) w w') (k : Kept (fun k => k = b) w' w'') : Kept (fun k => k = b) w w'' := h.trans k (fun _ _ h => h)

theorem RPost.ok {α : Type} {x : α} {r' : List Nat} {enc : α → Value} {b : Nat} {sa : Option Addr} {cap : Nat} {bs : List Nat} {w : World} {e : Ending} {w' : World} (h : RPost (some (x, r')) enc b sa cap bs w e w') : e = .returned (enc x) ∧ Rd w' b sa cap bs r' ∧ Kept (fun k => k = b) w w' := by
  obtain ⟨hK, ⟨y, q, he, e1, hR⟩ | ⟨he, _⟩⟩ := h
  · have e2 : x = y ∧ r' = q := by simpa using he.out
    obtain ⟨rfl, rfl⟩ := e2
    exact ⟨e1, hR, hK⟩
  · cases he.out
theorem RPost.no {α : Type} {enc : α → Value} {b : Nat} {sa : Option Addr} {cap : Nat} {bs : List Nat} {w : World} {e : Ending} {w' : World} (h : RPost (none : Option (α × List Nat)) enc b sa cap bs w e w') : e = .panicked [haltP] ∧ Kept (fun k => k = b) w w' := by
  obtain ⟨hK, ⟨y, q, he, _⟩ | ⟨_, e1⟩⟩ := h
  · cases he.out
  · exact ⟨e1, hK⟩

theorem fin4 {w wX : World} {b : Nat} {sa : Option Addr} {cap : Nat} {bs r' : List Nat} (hb : b < w.heap.size) (hK : Kept (fun k => k = b) w wX) (hR : Rd wX b sa cap bs r') (u0 u1 u2 u3 : Value) :
    Kept (fun k => k = b) w ((((wX.setCell ⟨w.heap.size, 0, none⟩ u0).setCell ⟨w.heap.size, 1, none⟩ u1).setCell ⟨w.heap.size, 2, none⟩ u2).setCell ⟨w.heap.size, 3, none⟩ u3) ∧ Rd ((((wX.setCell ⟨w.heap.size, 0, none⟩ u0).setCell ⟨w.heap.size, 1, none⟩ u1).setCell ⟨w.heap.size, 2, none⟩ u2).setCell ⟨w.heap.size, 3, none⟩ u3) b sa cap bs r' :=
  ⟨(((hK.set (fun h => absurd h (Nat.lt_irrefl _)) _).set (fun h => absurd h (Nat.lt_irrefl _)) _).set (fun h => absurd h (Nat.lt_irrefl _)) _).set (fun h => absurd h (Nat.lt_irrefl _)) _,
    hR.kept (((((Kept.refl (fun k => k = w.heap.size) wX).set (fun _ => rfl) _).set (fun _ => rfl) _).set (fun _ => rfl) _).set (fun _ => rfl) _) (fun k hk e => by omega)⟩

theorem Four.set4 {w : World} {b : Nat} {u : GV} (h : Four w b u) (v : GV) : Four ((((w.setCell ⟨b, 0, none⟩ (.int .i64 v.kind)).setCell ⟨b, 1, none⟩ (.int .i64 v.num)).setCell ⟨b, 2, none⟩ (.string v.text)).setCell ⟨b, 3, none⟩ (.int .i64 v.node)) b v := by
  obtain ⟨hl, c0, c1, c2, c3, hf⟩ := h
  refine ⟨by simpa [World.setCell] using hl, ?_, ?_, ?_, ?_, fun o => ?_⟩
  · rw [World.cell?_setCell_other _ _ _ _ (by simp), World.cell?_setCell_other _ _ _ _ (by simp), World.cell?_setCell_other _ _ _ _ (by simp)]
    exact World.cell?_setCell_same _ _ _ c0
  · rw [World.cell?_setCell_other _ _ _ _ (by simp), World.cell?_setCell_other _ _ _ _ (by simp)]
    exact World.cell?_setCell_same (u := .int .i64 u.num) _ _ _ (by rw [World.cell?_setCell_other _ _ _ _ (by simp)]; exact c1)
  · rw [World.cell?_setCell_other _ _ _ _ (by simp)]
    exact World.cell?_setCell_same (u := .string u.text) _ _ _ (by rw [World.cell?_setCell_other _ _ _ _ (by simp), World.cell?_setCell_other _ _ _ _ (by simp)]; exact c2)
  · exact World.cell?_setCell_same (u := .int .i64 u.node) _ _ _ (by rw [World.cell?_setCell_other _ _ _ _ (by simp), World.cell?_setCell_other _ _ _ _ (by simp), World.cell?_setCell_other _ _ _ _ (by simp)]; exact c3)
  · rw [World.frozen?_setCell, World.frozen?_setCell, World.frozen?_setCell, World.frozen?_setCell]; exact hf o

theorem rdCount_le {most : Nat} {r : List Nat} {n : Nat} {q : List Nat} (h : rdCount most r = some (n, q)) : n ≤ most := by
  unfold rdCount at h
  split at h
  · split at h
    · rename_i hle
      have e := congrArg (fun o => o.map Prod.fst) h
      simp only [Option.map_some, Option.some.injEq] at e
      rw [← e]; exact hle
    · cases h
  · cases h

end Go.Proofs.Ythjddpkegooobaa

/-
  RD2: the program's reader: words, values. Own work.
-/
namespace Go.Proofs.Ythjddpkegooobaa
open Go.RowKit

set_option maxRecDepth 100000 in
theorem signed_any (n : Nat) (w : World) (hn : n < 18446744073709551616) :
    Calls Try.prog 150 #[.int .u64 (n : Int)] w fun e w' => e = .returned (.int .i64 (zag n)) ∧ Below w.heap.size w w' := by
  go_enter Try.func150, Try.ntmps150
  go_wp2
  go_ret
  exact ⟨ret_int (zag_form hn), gre _⟩

end Go.Proofs.Ythjddpkegooobaa

/-
  L6V: values, drawn. Own work.
-/
namespace Go.Proofs.Ythjddpkegooobaa
open Go.RowKit

/-- a drawn value -/
def ValD (w : World) (b : Nat) (sa : Option Addr) (bs : List Nat) (cap at_ n : Nat) (e : Ending) (w' : World) : Prop :=
  ∃ (v : GV) (at' : Nat), v.Ok ∧ okV n v = true ∧ at' ≤ at_ + 12 ∧ e = .returned v.val ∧ DK w w' b sa bs cap at'

/-- the answer's cells are written -/
theorem DK.puts {w wk : World} {b : Nat} {sa : Option Addr} {bs : List Nat} {cap at_ : Nat} (h : DK w wk b sa bs cap at_) {B : Nat} (hB : w.heap.size ≤ B) (hb : b < w.heap.size) (hs : ∀ g off, sa = some ⟨g, off, none⟩ → g < w.heap.size) (x0 x1 x2 x3 : Value) : DK w ((((wk.setCell ⟨B, 0, none⟩ x0).setCell ⟨B, 1, none⟩ x1).setCell ⟨B, 2, none⟩ x2).setCell ⟨B, 3, none⟩ x3) b sa bs cap at_ := by
  have hK := ((((Kept.refl (fun k => k = B) wk).set (a := ⟨B, 0, none⟩) (fun _ => rfl) x0).set (a := ⟨B, 1, none⟩) (fun _ => rfl) x1).set (a := ⟨B, 2, none⟩) (fun _ => rfl) x2).set (a := ⟨B, 3, none⟩) (fun _ => rfl) x3
  exact ⟨h.dc.kept hK (by omega) (fun g off e => by have := hs g off e; omega), h.kept.trans hK (fun k hk e => by omega)⟩

set_option maxRecDepth 100000 in
theorem l6val_any (b : Nat) (sa : Option Addr) (bs : List Nat) (cap at_ n : Nat) (w : World) (hc : DC w b sa bs cap at_) (hat : at_ + 12 < 4611686018427387904) (hn : n ≤ 300) :
    Calls Try.prog 110 #[.pointer (some ⟨b, 0, none⟩), .int .i64 (n : Int)] w (ValD w b sa bs cap at_ n) := by
  have hs0 := hc.lt
  obtain ⟨wA, hwA⟩ : ∃ wA, Hid (wA = w.alloc (.cells #[.int .i64 0, .int .i64 0, .string ⟨#[]⟩, .int .i64 0] 24)) := ⟨_, rfl⟩
  have hFA : Four wA w.heap.size ⟨0, 0, ⟨#[]⟩, 0⟩ := by rw [hwA.out]; exact Four.new w ⟨0, 0, ⟨#[]⟩, 0⟩ 24
  have hKA : Kept (fun _ => False) w wA := by rw [hwA.out]; exact (Kept.refl _ w).alloc _
  have hcA : DC wA b sa bs cap at_ := hc.kept hKA (fun e => e) (fun _ _ _ e => e)
  have hKw : DK w wA b sa bs cap at_ := ⟨hcA, hKA.mono (fun _ _ e => e.elim)⟩
  go_enter Try.func110, Try.ntmps110
  go_wp2_with (go_at_call_of 52 ((8 : Int)); rw [← hwA.out]; refine (l6pick_of b sa bs cap at_ 8 8 wA rfl hcA (by omega) (by omega) (by omega)).mono ?_; rintro e w1 ⟨x, at1, hx, ha1, rfl, hk⟩; have hF1 := hFA.kept hk.kept (by omega); obtain ⟨fz, f0, f1, f2, f3, ff⟩ := id hF1; obtain rfl | rfl | rfl | rfl | rfl | h3 : x = 0 ∨ x = 1 ∨ x = 2 ∨ x = 3 ∨ x = 4 ∨ 5 ≤ x := by omega)
  · have hF9 := hF1.set4 (GV.mk 0 0 ⟨#[]⟩ 0)
    have hK9 := (hKw.trans hk).puts (B := w.heap.size) (Nat.le_refl _) hs0 hc.sl (.int .i64 (GV.mk 0 0 ⟨#[]⟩ 0).kind) (.int .i64 (GV.mk 0 0 ⟨#[]⟩ 0).num) (.string (GV.mk 0 0 ⟨#[]⟩ 0).text) (.int .i64 (GV.mk 0 0 ⟨#[]⟩ 0).node)
    dsimp only at hF9 hK9
    generalize World.setCell _ ⟨w.heap.size, 3, none⟩ _ = w9 at hF9 hK9 ⊢
    obtain ⟨_, r0, r1, r2, r3, _⟩ := hF9
    exact bodyPost_ret (v := (GV.mk 0 0 ⟨#[]⟩ 0).val) (by simp [results, Try.results110, go_sem, r0, r1, r2, r3]) rfl ⟨GV.mk 0 0 ⟨#[]⟩ 0, at1, ⟨by unfold I64; dsimp only; omega, by unfold I64; dsimp only; omega, by unfold maxLen; dsimp only; (first | omega | decide), by unfold I64; dsimp only; omega⟩, by simp [okV], by omega, rfl, hK9⟩
  · refine (l6whole_any b sa bs cap at1 w1 hk.dc (by omega)).mono ?_
    rintro e w2 ⟨z, at2, hz, ha2, rfl, hk2⟩
    have hF2 := hF1.kept hk2.kept (by omega)
    obtain ⟨gz, g0, g1, g2, g3, gf⟩ := id hF2
    unfold I64 at hz
    go_wp2
    have hF9 := hF2.set4 (GV.mk 1 z ⟨#[]⟩ 0)
    have hK9 := (hKw.trans (hk.trans hk2)).puts (B := w.heap.size) (Nat.le_refl _) hs0 hc.sl (.int .i64 (GV.mk 1 z ⟨#[]⟩ 0).kind) (.int .i64 (GV.mk 1 z ⟨#[]⟩ 0).num) (.string (GV.mk 1 z ⟨#[]⟩ 0).text) (.int .i64 (GV.mk 1 z ⟨#[]⟩ 0).node)
    dsimp only at hF9 hK9
    generalize World.setCell _ ⟨w.heap.size, 3, none⟩ _ = w9 at hF9 hK9 ⊢
    obtain ⟨_, r0, r1, r2, r3, _⟩ := hF9
    exact bodyPost_ret (v := (GV.mk 1 z ⟨#[]⟩ 0).val) (by simp [results, Try.results110, go_sem, r0, r1, r2, r3]) rfl ⟨GV.mk 1 z ⟨#[]⟩ 0, at2, ⟨by unfold I64; dsimp only; omega, by unfold I64; dsimp only; omega, by unfold maxLen; dsimp only; (first | omega | decide), by unfold I64; dsimp only; omega⟩, by simp [okV], by omega, rfl, hK9⟩
  · refine (l6whole_any b sa bs cap at1 w1 hk.dc (by omega)).mono ?_
    rintro e w2 ⟨z, at2, hz, ha2, rfl, hk2⟩
    have hF2 := hF1.kept hk2.kept (by omega)
    obtain ⟨gz, g0, g1, g2, g3, gf⟩ := id hF2
    unfold I64 at hz
    go_wp2
    have hF9 := hF2.set4 (GV.mk 1 z ⟨#[]⟩ 0)
    have hK9 := (hKw.trans (hk.trans hk2)).puts (B := w.heap.size) (Nat.le_refl _) hs0 hc.sl (.int .i64 (GV.mk 1 z ⟨#[]⟩ 0).kind) (.int .i64 (GV.mk 1 z ⟨#[]⟩ 0).num) (.string (GV.mk 1 z ⟨#[]⟩ 0).text) (.int .i64 (GV.mk 1 z ⟨#[]⟩ 0).node)
    dsimp only at hF9 hK9
    generalize World.setCell _ ⟨w.heap.size, 3, none⟩ _ = w9 at hF9 hK9 ⊢
    obtain ⟨_, r0, r1, r2, r3, _⟩ := hF9
    exact bodyPost_ret (v := (GV.mk 1 z ⟨#[]⟩ 0).val) (by simp [results, Try.results110, go_sem, r0, r1, r2, r3]) rfl ⟨GV.mk 1 z ⟨#[]⟩ 0, at2, ⟨by unfold I64; dsimp only; omega, by unfold I64; dsimp only; omega, by unfold maxLen; dsimp only; (first | omega | decide), by unfold I64; dsimp only; omega⟩, by simp [okV], by omega, rfl, hK9⟩
  · refine (l6whole_any b sa bs cap at1 w1 hk.dc (by omega)).mono ?_
    rintro e w2 ⟨z, at2, hz, ha2, rfl, hk2⟩
    have hF2 := hF1.kept hk2.kept (by omega)
    obtain ⟨gz, g0, g1, g2, g3, gf⟩ := id hF2
    unfold I64 at hz
    go_wp2
    have hF9 := hF2.set4 (GV.mk 2 z ⟨#[]⟩ 0)
    have hK9 := (hKw.trans (hk.trans hk2)).puts (B := w.heap.size) (Nat.le_refl _) hs0 hc.sl (.int .i64 (GV.mk 2 z ⟨#[]⟩ 0).kind) (.int .i64 (GV.mk 2 z ⟨#[]⟩ 0).num) (.string (GV.mk 2 z ⟨#[]⟩ 0).text) (.int .i64 (GV.mk 2 z ⟨#[]⟩ 0).node)
    dsimp only at hF9 hK9
    generalize World.setCell _ ⟨w.heap.size, 3, none⟩ _ = w9 at hF9 hK9 ⊢
    obtain ⟨_, r0, r1, r2, r3, _⟩ := hF9
    exact bodyPost_ret (v := (GV.mk 2 z ⟨#[]⟩ 0).val) (by simp [results, Try.results110, go_sem, r0, r1, r2, r3]) rfl ⟨GV.mk 2 z ⟨#[]⟩ 0, at2, ⟨by unfold I64; dsimp only; omega, by unfold I64; dsimp only; omega, by unfold maxLen; dsimp only; (first | omega | decide), by unfold I64; dsimp only; omega⟩, by simp [okV], by omega, rfl, hK9⟩
  · refine (l6text_any b sa bs cap at1 w1 hk.dc (by omega)).mono ?_
    rintro e w2 ⟨t, at2, ht, ha2, rfl, hk2⟩
    have hF2 := hF1.kept hk2.kept (by omega)
    obtain ⟨gz, g0, g1, g2, g3, gf⟩ := id hF2
    go_wp2
    have hF9 := hF2.set4 (GV.mk 3 0 t 0)
    have hK9 := (hKw.trans (hk.trans hk2)).puts (B := w.heap.size) (Nat.le_refl _) hs0 hc.sl (.int .i64 (GV.mk 3 0 t 0).kind) (.int .i64 (GV.mk 3 0 t 0).num) (.string (GV.mk 3 0 t 0).text) (.int .i64 (GV.mk 3 0 t 0).node)
    dsimp only at hF9 hK9
    generalize World.setCell _ ⟨w.heap.size, 3, none⟩ _ = w9 at hF9 hK9 ⊢
    obtain ⟨_, r0, r1, r2, r3, _⟩ := hF9
    exact bodyPost_ret (v := (GV.mk 3 0 t 0).val) (by simp [results, Try.results110, go_sem, r0, r1, r2, r3]) rfl ⟨GV.mk 3 0 t 0, at2, ⟨by unfold I64; dsimp only; omega, by unfold I64; dsimp only; omega, by unfold maxLen; dsimp only; (first | omega | decide), by unfold I64; dsimp only; omega⟩, by simp [okV, ht], by omega, rfl, hK9⟩
  · have hF9 := hF1.set4 (GV.mk 1 5 ⟨#[]⟩ 0)
    have hK9 := (hKw.trans hk).puts (B := w.heap.size) (Nat.le_refl _) hs0 hc.sl (.int .i64 (GV.mk 1 5 ⟨#[]⟩ 0).kind) (.int .i64 (GV.mk 1 5 ⟨#[]⟩ 0).num) (.string (GV.mk 1 5 ⟨#[]⟩ 0).text) (.int .i64 (GV.mk 1 5 ⟨#[]⟩ 0).node)
    dsimp only at hF9 hK9
    generalize World.setCell _ ⟨w.heap.size, 3, none⟩ _ = w9 at hF9 hK9 ⊢
    obtain ⟨_, r0, r1, r2, r3, _⟩ := hF9
    exact bodyPost_ret (v := (GV.mk 1 5 ⟨#[]⟩ 0).val) (by simp [results, Try.results110, go_sem, r0, r1, r2, r3]) rfl ⟨GV.mk 1 5 ⟨#[]⟩ 0, at1, ⟨by unfold I64; dsimp only; omega, by unfold I64; dsimp only; omega, by unfold maxLen; dsimp only; (first | omega | decide), by unfold I64; dsimp only; omega⟩, by simp [okV], by omega, rfl, hK9⟩
  · have hn1 : 1 ≤ n := by
      rcases Nat.eq_zero_or_pos n with rfl | h
      · simp_all
      · exact h
    refine (l6pick_any b sa bs cap at1 n w1 hk.dc (by omega) hn1 (by omega)).mono ?_
    rintro e w2 ⟨y, at2, hy, ha2, rfl, hk2⟩
    have hF2 := hF1.kept hk2.kept (by omega)
    obtain ⟨gz, g0, g1, g2, g3, gf⟩ := id hF2
    go_wp2
    have hF9 := hF2.set4 (GV.mk 4 0 ⟨#[]⟩ (y : Int))
    have hK9 := (hKw.trans (hk.trans hk2)).puts (B := w.heap.size) (Nat.le_refl _) hs0 hc.sl (.int .i64 (GV.mk 4 0 ⟨#[]⟩ (y : Int)).kind) (.int .i64 (GV.mk 4 0 ⟨#[]⟩ (y : Int)).num) (.string (GV.mk 4 0 ⟨#[]⟩ (y : Int)).text) (.int .i64 (GV.mk 4 0 ⟨#[]⟩ (y : Int)).node)
    dsimp only at hF9 hK9
    generalize World.setCell _ ⟨w.heap.size, 3, none⟩ _ = w9 at hF9 hK9 ⊢
    obtain ⟨_, r0, r1, r2, r3, _⟩ := hF9
    exact bodyPost_ret (v := (GV.mk 4 0 ⟨#[]⟩ (y : Int)).val) (by simp [results, Try.results110, go_sem, r0, r1, r2, r3]) rfl ⟨GV.mk 4 0 ⟨#[]⟩ (y : Int), at2, ⟨by unfold I64; dsimp only; omega, by unfold I64; dsimp only; omega, by unfold maxLen; dsimp only; (first | omega | decide), by unfold I64; dsimp only; omega⟩, by simp [okV]; omega, by omega, rfl, hK9⟩

end Go.Proofs.Ythjddpkegooobaa

/-
  NODEOF: a thing made a node again. Own work.
-/
namespace Go.Proofs.Ythjddpkegooobaa
open Go.RowKit

/-- what stands at the head of the round -/
structure VState (w : World) (tb : Nat → Nat) (M mb base : Nat) (tag : Int) (ma0 : Option Addr) (ws : World) (ord : List Nat) (ma : Option Addr) (mc : Nat) (va : Option Addr) (vc : Nat) (vs : List GV) : Prop where
  kept : Kept (fun k => k = M ∨ k = mb ∨ ma0 = some ⟨k, 0, none⟩) w ws
  size : w.heap.size + 1 + 1 ≤ ws.heap.size
  res : Two ws w.heap.size 0 (.slice none 0 0)
  x : Two ws (w.heap.size + 1) tag (.slice va vs.length vc)
  meet : Meet ws tb M mb base ord ma mc
  maor : ma = ma0 ∨ ∃ b, ma = some ⟨b, 0, none⟩ ∧ w.heap.size + 1 + 1 ≤ b
  vals : ws.ownsRow (w.heap.size + 1 + 1) 24 4 (.slice va vs.length vc) vs.length (valCells vs)
  ap : ∀ b, va = some ⟨b, 0, none⟩ → ma ≠ some ⟨b, 0, none⟩

section
variable {w : World} {tb : Nat → Nat} {M mb base : Nat} {tag : Int} {ma0 : Option Addr} {ws : World} {ord : List Nat} {ma : Option Addr} {mc : Nat} {va : Option Addr} {vc : Nat} {vs : List GV}

set_option maxRecDepth 100000 in
theorem VState.far (h : VState w tb M mb base tag ma0 ws ord ma mc va vc vs) (_hb : base ≤ w.heap.size) (h0 : ∀ b, ma0 = some ⟨b, 0, none⟩ → b < w.heap.size) :
    (∀ b, ma = some ⟨b, 0, none⟩ → base ≤ b ∧ b < ws.heap.size ∧ b ≠ w.heap.size ∧ b ≠ w.heap.size + 1) ∧ (∀ b, va = some ⟨b, 0, none⟩ → w.heap.size + 1 + 1 ≤ b ∧ b < ws.heap.size) := by
  refine ⟨fun b hb => ?_, fun b hb => h.vals.lt b (by rw [hb]; rfl)⟩
  have h1 := h.meet.met.lt b (by rw [hb]; rfl)
  refine ⟨h1.1, h1.2, ?_, ?_⟩
  · rcases h.maor with e | ⟨c, e, hc⟩
    · have := h0 b (by rw [← e, hb]); omega
    · rw [hb] at e; have := some_addr e; omega
  · rcases h.maor with e | ⟨c, e, hc⟩
    · have := h0 b (by rw [← e, hb]); omega
    · rw [hb] at e; have := some_addr e; omega

set_option maxRecDepth 100000 in
theorem VState.step (h : VState w tb M mb base tag ma0 ws ord ma mc va vc vs) (hb : base ≤ w.heap.size) (hMl : M < base ∧ mb < base) (h0 : ∀ b, ma0 = some ⟨b, 0, none⟩ → b < w.heap.size) {v : GV} {w1 w3 : World} {ma1 : Option Addr} {mc1 gg cc : Nat} {o : Obj}
    (hM1 : Meet w1 tb M mb base (renOrd ord v) ma1 mc1) (hor1 : ma1 = ma ∨ ∃ b, ma1 = some ⟨b, 0, none⟩ ∧ ws.heap.size ≤ b) (hK1 : Kept (fun k => k = M ∨ k = mb ∨ ma = some ⟨k, 0, none⟩) ws w1)
    (hown : w3.ownsRow (w.heap.size + 1 + 1) 24 4 (.slice (some ⟨gg, 0, none⟩) (vs.length + 1) cc) (vs.length + 1) (valCells vs ++ (renVal ord v).four))
    (hgrow : (w1.alloc o).grownBy w3 (Value.slice va vs.length vc).ownBlock) (hat : (Value.slice va vs.length vc).ownBlock = some gg ∨ gg = w1.heap.size + 1) :
    VState w tb M mb base tag ma0 (w3.setCell ⟨w.heap.size + 1, 1, none⟩ (.slice (some ⟨gg, 0, none⟩) (vs.length + 1) cc)) (renOrd ord v) ma1 mc1 (some ⟨gg, 0, none⟩) cc (vs ++ [renVal ord v]) := by
  obtain ⟨f1, f2⟩ := h.far hb h0
  have hz := h.size
  have hs1 := hK1.size
  have hA : Kept (fun _ => False) w1 (w1.alloc o) := (Kept.refl _ w1).alloc _
  have hG := Kept.of_grown hgrow
  have hs3 : w1.heap.size + 1 ≤ w3.heap.size := by have := hgrow.size; simpa using this
  have hC := (Kept.refl (fun b => b = w.heap.size + 1) w3).set (a := ⟨w.heap.size + 1, 1, none⟩) (fun _ => rfl) (.slice (some ⟨gg, 0, none⟩) (vs.length + 1) cc)
  have hvb : ∀ b, (Value.slice va vs.length vc).ownBlock = some b → w.heap.size + 1 + 1 ≤ b ∧ b < ws.heap.size ∧ va = some ⟨b, 0, none⟩ := fun b hb => by
    have e := owns_addr h.vals hb
    exact ⟨(f2 b e).1, (f2 b e).2, e⟩
  have hm1 : ∀ b, ma1 = some ⟨b, 0, none⟩ → base ≤ b ∧ b < w1.heap.size ∧ b ≠ w.heap.size ∧ b ≠ w.heap.size + 1 ∧ (Value.slice va vs.length vc).ownBlock ≠ some b := fun b hb => by
    have h1 := hM1.met.lt b (by rw [hb]; rfl)
    rcases hor1 with e | ⟨c, e, hc⟩
    · have h2 := f1 b (by rw [← e, hb])
      exact ⟨h1.1, h1.2, h2.2.2.1, h2.2.2.2, fun hx => h.ap b (hvb b hx).2.2 (by rw [← e, hb])⟩
    · rw [hb] at e
      have e2 := some_addr e
      refine ⟨h1.1, h1.2, by omega, by omega, fun hx => ?_⟩
      have := hvb b hx
      omega
  have hp1 : ∀ b, (b = w.heap.size ∨ b = w.heap.size + 1) → ¬ (b = M ∨ b = mb ∨ ma = some ⟨b, 0, none⟩) := fun b hb hp => by
    rcases hp with hp | hp | hp
    · omega
    · omega
    · have := f1 b hp; omega
  exact {
    kept := by
      refine (((h.kept.trans hK1 (fun k hk hp => ?_)).trans hA (fun _ _ e => e.elim)).trans hG (fun k hk hp => ?_)).trans hC (fun k hk hp => by omega)
      · rcases hp with hp | hp | hp
        · exact Or.inl hp
        · exact Or.inr (Or.inl hp)
        · rcases h.maor with e | ⟨c, e, hc⟩
          · exact Or.inr (Or.inr (by rw [← e, hp]))
          · rw [hp] at e; have := some_addr e; omega
      · have := hvb k hp; omega
    size := by have := hC.size; omega
    res := (((h.res.kept hK1 (hp1 _ (Or.inl rfl))).kept hA (fun e => e)).kept hG (fun hp => by have := hvb _ hp; omega)).kept hC (by omega)
    x := by
      have h1 := ((h.x.kept hK1 (hp1 _ (Or.inr rfl))).kept hA (fun e => e)).kept hG (fun hp => by have := hvb _ hp; omega)
      simpa using h1.set (s' := .slice (some ⟨gg, 0, none⟩) (vs.length + 1) cc)
    meet := ((hM1.kept hA (fun e => e) (fun e => e) (fun _ _ e => e)).kept hG (fun hp => by have := hvb _ hp; omega) (fun hp => by have := hvb _ hp; omega) (fun b hb hp => (hm1 b hb).2.2.2.2 hp)).kept hC (by omega) (by omega) (fun b hb hp => by have := hm1 b hb; omega)
    maor := by
      rcases hor1 with e | ⟨c, e, hc⟩
      · rw [e]; exact h.maor
      · exact Or.inr ⟨c, e, by omega⟩
    vals := by
      have h1 := hC.owns hown (fun b hb hp => by have := (hown.lt b hb).1; omega)
      simpa [valCells_snoc, GV.four] using h1
    ap := fun b hb hx => by
      have e := some_addr hb
      subst e
      have h2 := hm1 gg hx
      rcases hat with e2 | e2
      · exact h2.2.2.2.2 e2
      · omega }
end

/-- what making a node leaves -/
def NodePost (w : World) (tb : Nat → Nat) (M mb base : Nat) (n : GN) (ord : List Nat) (ma0 : Option Addr) (e : Ending) (w' : World) : Prop :=
  ∃ ma mc va vc, e = .returned (nodeVal ⟨n.tag, renVals ord n.vals⟩ va vc) ∧ Meet w' tb M mb base (renOrds ord n.vals) ma mc ∧ (ma = ma0 ∨ ∃ b, ma = some ⟨b, 0, none⟩ ∧ w.heap.size ≤ b) ∧
    w'.ownsRow w.heap.size 24 4 (.slice va (renVals ord n.vals).length vc) (renVals ord n.vals).length (valCells (renVals ord n.vals)) ∧ (∀ b, va = some ⟨b, 0, none⟩ → ma ≠ some ⟨b, 0, none⟩) ∧ Kept (fun k => k = M ∨ k = mb ∨ ma0 = some ⟨k, 0, none⟩) w w'

set_option maxHeartbeats 1000000 in
set_option maxRecDepth 100000 in
theorem nodeOf_any (N lo : Nat) (tb : Nat → Nat) (M mb base : Nat) (n : GN) (x B : Nat) (xa : Option Addr) (xc : Nat) (ord : List Nat) (ma0 : Option Addr) (mc0 : Nat) (w : World) (hok : okN N n = true) (hinv : InvO N ord) (hN : N ≤ 300) (_hx : x < N)
    (hinj : ∀ i j, i < N → j < N → tb i = tb j → i = j) (hcells : ∀ i, i < N → CellsAt w (tb i) ∧ tb i < lo) (hM : Meet w tb M mb base ord ma0 mc0) (hbase : base ≤ w.heap.size) (hlo : lo ≤ M ∧ lo ≤ mb)
    (ht : Two w (tb x) n.tag (.slice xa n.vals.length xc)) (hr : w.ownsRow B 80 1 (.slice xa n.vals.length xc) n.vals.length (n.vals.map (encV tb))) (hxa : ∀ b, xa = some ⟨b, 0, none⟩ → b < lo) :
    Calls Try.prog 112 #[ptr M, ptr (tb x)] w (NodePost w tb M mb base n ord ma0) := by
  obtain ⟨hvl, hvok⟩ := okN_parts hok
  obtain ⟨j0, hj, hy0, hy1, hy2⟩ := info_parts info_implVal
  obtain ⟨m1, m2, m3⟩ := hM.mlt
  have htl := ht.lt
  have t0 := ht.c0
  have t1 := ht.c1
  have hma0 : ∀ b, ma0 = some ⟨b, 0, none⟩ → base ≤ b ∧ b < w.heap.size := fun b hb => hM.met.lt b (by rw [hb]; rfl)
  go_enter Try.func112, Try.ntmps112
  go_wp2
  have hA : Kept (fun _ => False) w ((w.alloc (.cells #[.int .i64 0, .slice none 0 0] 84)).alloc (.cells #[.int .i64 n.tag, .slice none 0 0] 84)) := ((Kept.refl _ w).alloc _).alloc _
  go_loopw [18] (fun i ws => ∃ (j : Nat) (ord' : List Nat) (ma : Option Addr) (mc : Nat) (va : Option Addr) (vc : Nat) (vs : List GV), Hid (ord' = renOrds ord (n.vals.take j)) ∧ Hid (vs = renVals ord (n.vals.take j)) ∧ Hid (vs.length = j) ∧ j ≤ n.vals.length ∧ i = .int .i64 j ∧ VState w tb M mb base n.tag ma0 ws ord' ma mc va vc vs) (fun i _ => n.vals.length - (intOf i).toNat)
  case atStart =>
    refine ⟨0, ord, ma0, mc0, none, 0, [], rfl, rfl, rfl, Nat.zero_le _, rfl, hA.mono (fun _ _ e => e.elim), by simp, (Two.new_at _ _ _ _ _ rfl).kept ((Kept.refl (fun _ => False) _).alloc _) (fun e => e), Two.new_at _ _ _ _ _ (by simp), hM.kept hA (fun e => e) (fun e => e) (fun _ _ e => e), Or.inl rfl, World.ownsRow_nil _ _ _ _, fun b hb => by cases hb⟩
  case round =>
    obtain ⟨j, ord', ma, mc, va, vc, vs, hord', hvs, hvsl, hjle, rfl, hD⟩ := hrel
    have hz := hD.size
    by_cases hjl : j < n.vals.length
    · obtain ⟨v, hvj⟩ : ∃ v, Hid (v = n.vals[j]!) := ⟨_, rfl⟩
      have hvm : v ∈ n.vals := by rw [hvj.out]; exact mem_at hjl
      have hnp : ∀ b, b < lo → ¬ (b = M ∨ b = mb ∨ ma0 = some ⟨b, 0, none⟩) := fun b hb hp => by
        rcases hp with hp | hp | hp
        · omega
        · omega
        · have := hma0 b hp; omega
      have hcj : (n.vals.map (encV tb))[j]? = some (encV tb v) := by
        rw [List.getElem?_map, List.getElem?_eq_getElem hjl, hvj.out, getElem!_pos n.vals j hjl]; rfl
      obtain ⟨gx, rfl, hgx1, hgx2, hgc⟩ := owns_cell hr hcj
      have hgc2 := hD.kept.cell hgc (hnp gx (hxa gx rfl))
      have hinv' : InvO N ord' := by rw [hord'.out]; exact hinv.rens (fun v hv => hvok v (List.mem_of_mem_take hv))
      have hcells' : ∀ i, i < N → CellsAt wr.drew (tb i) := fun i hi => by
        obtain ⟨⟨c, t, hc⟩, hl⟩ := hcells i hi
        exact ⟨c, t, (hD.kept.block _ (Array.getElem?_eq_some_iff.1 hc).1 (hnp _ hl)).trans hc⟩
      obtain ⟨xz, x0, x1, xf, _⟩ := hD.x
      have hMd : Meet wr.drew tb M mb base ord' ma mc := hD.meet.kept ((Kept.refl (fun _ => False) wr).drew) (fun e => e) (fun e => e) (fun _ _ e => e)
      have hbd : base ≤ wr.drew.heap.size := by show base ≤ wr.heap.size; omega
      obtain ⟨f1, f2⟩ := hD.far hbase (fun b hb => (hma0 b hb).2)
      have hi0 : (0 : Int) ≤ (j : Int) := by omega
      have hi1 : (j : Int) < (n.vals.length : Int) := by omega
      clear hgc t0 t1
      go_wp2
      refine wp_regionU (fun u => u.cell? ⟨w.heap.size + 1, 1, none⟩ = some (.slice va vs.length vc)) 8 (by kernel_rfl) x1 (fun hS0 => ?_)
      refine anyU_take (i := 0) (v := ?_) rfl (by kernel_rfl) (by kernel_rfl) (by kernel_rfl) (by kernel_rfl) (fun _ _ _ h => h) (Or.inl ⟨by rfl, ?_⟩) hS0 ?_
      rotate_left
      · intro u hSu; (try dsimp only at hSu); go_simp <;> with_reducible rfl
      simp only [Act.put, List.getElem_toArray, List.getElem_cons_zero, List.setIfInBounds_toArray, List.set_cons_zero, List.set_cons_succ]
      refine anyU_take (i := 1) (v := ?_) rfl (by kernel_rfl) (by kernel_rfl) (by kernel_rfl) (by kernel_rfl) (fun _ _ _ h => h) (Or.inl ⟨by rfl, ?_⟩) hS0 ?_
      rotate_left
      · intro u hSu; (try dsimp only at hSu); go_simp <;> with_reducible rfl
      simp only [Act.put, List.getElem_toArray, List.getElem_cons_zero, List.getElem_cons_succ, List.setIfInBounds_toArray, List.set_cons_zero, List.set_cons_succ]
      refine anyU_take (i := 2) (v := ?_) rfl (by kernel_rfl) (by kernel_rfl) (by kernel_rfl) (by kernel_rfl) (fun _ _ _ h => h) (Or.inl ⟨by rfl, ?_⟩) hS0 ?_
      rotate_left
      · intro u hSu; (try dsimp only at hSu); go_simp <;> with_reducible rfl
      simp only [Act.put, List.getElem_toArray, List.getElem_cons_zero, List.getElem_cons_succ, List.setIfInBounds_toArray, List.set_cons_zero, List.set_cons_succ]
      refine anyU_take (i := 3) (v := ?_) rfl (by kernel_rfl) (by kernel_rfl) (by kernel_rfl) (by kernel_rfl) (fun _ _ _ h => h) (Or.inl ⟨by rfl, ?_⟩) hS0 ?_
      rotate_left
      · intro u hSu; (try dsimp only at hSu); go_simp <;> with_reducible rfl
      simp only [Act.put, List.getElem_toArray, List.getElem_cons_zero, List.getElem_cons_succ, List.setIfInBounds_toArray, List.set_cons_zero, List.set_cons_succ]
      refine anyU_one (i := 4) (by kernel_rfl) rfl (fun K hK => ?_)
      go_simp
      refine (valOf_any N tb M mb base ord' v ma mc _ (hvok v hvm) hinv' hN hinj hcells' hMd hbd).mono ?_
      rintro e w1 ⟨ma1, mc1, rfl, hM1, hor1, hK1⟩
      have hKw : Kept (fun k => k = M ∨ k = mb ∨ ma = some ⟨k, 0, none⟩) wr w1 := ((Kept.refl (fun k => k = M ∨ k = mb ∨ ma = some ⟨k, 0, none⟩) wr).drew).trans hK1 (fun _ _ e => e)
      have hN1 : ¬ (w.heap.size + 1 = M ∨ w.heap.size + 1 = mb ∨ ma = some ⟨w.heap.size + 1, 0, none⟩) := fun hp => by
        rcases hp with hp | hp | hp
        · omega
        · omega
        · have := f1 _ hp; omega
      have hS1 := hKw.cell x1 hN1
      have hX1 : Two w1 (w.heap.size + 1) n.tag (.slice va vs.length vc) := hD.x.kept hKw hN1
      have hv1 : Hid _ := hKw.owns hD.vals (fun b hb hp => by
        have h8 := f2 b (owns_addr hD.vals hb)
        rcases hp with hp | hp | hp
        · omega
        · omega
        · exact hD.ap b (owns_addr hD.vals hb) hp)
      refine hK.out _ _ hS1 ?_
      clear hK
      have hsw := hKw.size
      have hS2 : (w1.alloc (.cells #[.int .i64 (renVal ord' v).kind, .int .i64 (renVal ord' v).num, .string (renVal ord' v).text, .int .i64 (renVal ord' v).node] 24)).cell? ⟨w.heap.size + 1, 1, none⟩ = some (.slice va vs.length vc) := ((Kept.refl (fun _ => False) w1).alloc _).cell hS1 (fun e => e)
      have hS2' : Hid _ := hS2
      clear hS2
      refine anyU_one (i := 5) (by kernel_rfl) rfl (fun K hK => ?_)
      go_simp
      refine hK.out _ _ hS2'.out ?_
      clear hK
      refine anyU_one (i := 6) (by kernel_rfl) rfl (fun K hK => ?_)
      refine step_append_lies _ (by rfl) (.tmp 23) (.tmp 27) 82 rfl (w.heap.size + 1 + 1) 24 j0 _ 4 40 Try.underlying82 hj hy0 hy1 hy2 rfl (by decide) (.slice va vs.length vc) vs.length (valCells vs) (by rfl) (World.ownsRow.alloc hv1.out _) ⟨w1.heap.size, 0, none⟩ 1 1 (renVal ord' v).four (by rfl) rfl (World.news_of_block (cs := #[.int .i64 (renVal ord' v).kind, .int .i64 (renVal ord' v).num, .string (renVal ord' v).text, .int .i64 (renVal ord' v).node]) (t := 24) (fr := (0, 0)) (blk_new_at _ _ _ rfl)) (by simp [GV.four, Value.oneCell']) (by decide) (by have h7 := hvsl.out; unfold maxLen; omega) (by have h7 := hvsl.out; omega) (by simp; omega) (w1.heap.size + 1) (by simp) ?_
      intro gg cc w3 hown3 hgrow3 hat3 hlt3
      have hX3 := (hX1.kept ((Kept.refl (fun _ => False) w1).alloc _) (fun e => e)).kept (Kept.of_grown hgrow3) (fun hp => by have h8 := f2 _ (owns_addr hD.vals hp); omega)
      obtain ⟨yz, y0, y1, yf, _⟩ := id hX3
      refine hK.out _ _ y1 ?_
      clear hK
      simp only [Act.put, List.getElem_toArray, List.getElem_cons_zero, List.getElem_cons_succ, List.setIfInBounds_toArray, List.set_cons_zero, List.set_cons_succ]
      refine anyU_one (i := 7) (by kernel_rfl) rfl (fun K hK => ?_)
      go_simp
      refine hK.out _ _ y1 ?_
      clear hK
      refine anyU_last (by kernel_rfl) rfl (by kernel_rfl) (fun K hK => ?_)
      go_simp
      refine hK.out _ _ ?_
      clear hK
      have hfin := hD.step hbase ⟨m1, m2⟩ (fun b hb => (hma0 b hb).2) hM1 (hor1.imp id (fun ⟨b, e, h⟩ => ⟨b, e, h⟩)) hKw hown3 hgrow3 hat3
      have hs1 : Hid (renOrds ord (n.vals.take (j + 1)) = renOrd ord' v) := by rw [renOrds_take_succ _ _ _ hjl, ← hvj.out, ← hord'.out]; rfl
      have hs2 : Hid (renVals ord (n.vals.take (j + 1)) = vs ++ [renVal ord' v]) := by rw [renVals_take_succ _ _ _ hjl, ← hvj.out, ← hord'.out, ← hvs.out]; rfl
      go_wp2
      go_roundw
      case rel => exact ⟨j + 1, renOrd ord' v, ma1, mc1, some ⟨gg, 0, none⟩, cc, vs ++ [renVal ord' v], hs1.out.symm, hs2.out.symm, by have := hvsl.out; show (vs ++ [renVal ord' v]).length = j + 1; simp [this], by omega, by go_num, hfin⟩
      case measure => simp [intOf]; omega
    · have e : j = n.vals.length := by omega
      have hvs2 : Hid (renVals ord n.vals = vs) := by have h8 := hvs.out; rw [e, List.take_length] at h8; exact h8.symm
      have hord2 : Hid (renOrds ord n.vals = ord') := by have h8 := hord'.out; rw [e, List.take_length] at h8; exact h8.symm
      obtain ⟨f1, f2⟩ := hD.far hbase (fun b hb => (hma0 b hb).2)
      obtain ⟨xz, x0, x1, xf, _⟩ := hD.x
      obtain ⟨rz, r0, r1, rf, _⟩ := hD.res
      have hC : Kept (fun k => k = w.heap.size) wr ((wr.setCell ⟨w.heap.size, 0, none⟩ (.int .i64 n.tag)).setCell ⟨w.heap.size, 1, none⟩ (.slice va vs.length vc)) := ((Kept.refl (fun k => k = w.heap.size) wr).set (fun _ => rfl) _).set (fun _ => rfl) _
      have hkept := hD.kept.trans hC (fun k hk hp => by omega)
      have hmeet := hD.meet.kept hC (by omega) (by omega) (fun b hb hp => by have := f1 b hb; omega)
      have hvals := hC.owns (owns_le hD.vals (show w.heap.size ≤ w.heap.size + 1 + 1 by omega)) (fun b hb hp => by have := f2 b (owns_addr hD.vals hb); omega)
      have hmaor := hD.maor
      have hap := hD.ap
      clear t0 t1 e
      go_wp2
      refine bodyPost_ret (v := .agg #[.int .i64 n.tag, .slice va vs.length vc]) (by simp [results, Try.results112, go_sem, r0, r1]) rfl ⟨ma, mc, va, vc, by rw [hvs2.out], by rw [hord2.out]; exact hmeet, ?_, by rw [hvs2.out]; exact hvals, hap, hkept⟩
      rcases hmaor with e | ⟨c, e, hc⟩
      · exact Or.inl e
      · exact Or.inr ⟨c, e, by omega⟩

end Go.Proofs.Ythjddpkegooobaa

/-
  FORMOFA: what stands in the program's one form. Own work.
-/
namespace Go.Proofs.Ythjddpkegooobaa
open Go.RowKit

/-- the two lie in different blocks -/
def Far (a a' : Option Addr) : Prop := ∀ b, a = some ⟨b, 0, none⟩ → a' ≠ some ⟨b, 0, none⟩
theorem Far.symm {a a' : Option Addr} (h : Far a a') : Far a' a := fun b hb hx => h b hx hb

/-- a graph that owns its memory, from block 'base' on, each list in a row of its own -/
structure OwnG (w : World) (base : Nat) (na : Option Addr) (nc : Nat) (nl : List NL) : Prop where
  nodes : w.ownsRow base 84 2 (.slice na nl.length nc) nl.length (nodeCells nl)
  vals : ∀ x, x ∈ nl → w.ownsRow base 24 4 (.slice x.a x.n.vals.length x.cap) x.n.vals.length (valCells x.n.vals)
  apn : ∀ x, x ∈ nl → Far x.a na
  apv : ∀ i j, i < j → j < nl.length → Far nl[i]!.a nl[j]!.a

theorem OwnG.kept {p : Nat → Prop} {w w' : World} {base : Nat} {na : Option Addr} {nc : Nat} {nl : List NL} (h : OwnG w base na nc nl) (k : Kept p w w') (hn : ∀ b, na = some ⟨b, 0, none⟩ → ¬ p b) (hv : ∀ x, x ∈ nl → ∀ b, x.a = some ⟨b, 0, none⟩ → ¬ p b) : OwnG w' base na nc nl :=
  ⟨k.owns h.nodes (fun b hb => hn b (owns_addr h.nodes hb)), fun x hx => k.owns (h.vals x hx) (fun b hb => hv x hx b (owns_addr (h.vals x hx) hb)), h.apn, h.apv⟩
theorem OwnG.at_ {w : World} {base : Nat} {na : Option Addr} {nc : Nat} {nl : List NL} (h : OwnG w base na nc nl) : NodesAt w.heap.size w na (nl.map (·.n)) :=
  owns_nodes h.nodes (fun x hx => owns_vals (h.vals x hx) (Nat.le_refl _))
theorem OwnG.le {w : World} {base base' : Nat} {na : Option Addr} {nc : Nat} {nl : List NL} (h : OwnG w base na nc nl) (hb : base' ≤ base) : OwnG w base' na nc nl :=
  ⟨owns_le h.nodes hb, fun x hx => owns_le (h.vals x hx) hb, h.apn, h.apv⟩

/-- what stands at the head of the round -/
structure FState (w : World) (tb : Nat → Nat) (M mb base G : Nat) (rv : GV) (ws : World) (ord : List Nat) (ma : Option Addr) (mc : Nat) (na : Option Addr) (nc : Nat) (nl : List NL) : Prop where
  low : Below w.heap.size w ws
  blk : w.heap.size < base ∧ base ≤ G ∧ G < ws.heap.size ∧ M < base ∧ mb < base ∧ w.heap.size < M ∧ w.heap.size < mb
  res : Five ws w.heap.size ⟨0, 0, ⟨#[]⟩, 0⟩ (.slice none 0 0)
  out : Five ws G rv (.slice na nl.length nc)
  meet : Meet ws tb M mb base ord ma mc
  own : OwnG ws base na nc nl
  apm : Far na ma
  apvm : ∀ x, x ∈ nl → Far x.a ma
  notG : Far na (some ⟨G, 0, none⟩) ∧ Far ma (some ⟨G, 0, none⟩) ∧ ∀ x, x ∈ nl → Far x.a (some ⟨G, 0, none⟩)

theorem far_of_lt {a : Option Addr} {G : Nat} (h : ∀ b, a = some ⟨b, 0, none⟩ → b ≠ G) : Far a (some ⟨G, 0, none⟩) := fun b hb hx => h b hb (some_addr hx).symm
theorem Far.ne {a : Option Addr} {G b : Nat} (h : Far a (some ⟨G, 0, none⟩)) (hb : a = some ⟨b, 0, none⟩) : b ≠ G := fun e => h b hb (by rw [e])

section
variable {w : World} {tb : Nat → Nat} {M mb base G : Nat} {rv : GV} {ws : World} {ord : List Nat} {ma : Option Addr} {mc : Nat} {na : Option Addr} {nc : Nat} {nl : List NL}

theorem FState.next (h : FState w tb M mb base G rv ws ord ma mc na nc nl) {n : GN} {w1 w3 : World} {ord1 : List Nat} {ma1 : Option Addr} {mc1 : Nat} {va : Option Addr} {vc : Nat} {o : Obj} {gg cc : Nat}
    (hM1 : Meet w1 tb M mb base ord1 ma1 mc1) (hor1 : ma1 = ma ∨ ∃ b, ma1 = some ⟨b, 0, none⟩ ∧ ws.heap.size ≤ b) (hv1 : w1.ownsRow ws.heap.size 24 4 (.slice va n.vals.length vc) n.vals.length (valCells n.vals)) (hap1 : Far va ma1) (hK1 : Kept (fun k => k = M ∨ k = mb ∨ ma = some ⟨k, 0, none⟩) ws w1)
    (hown : w3.ownsRow base 84 2 (.slice (some ⟨gg, 0, none⟩) (nl.length + 1) cc) (nl.length + 1) (nodeCells nl ++ [.int .i64 n.tag, .slice va n.vals.length vc]))
    (hgrow : (w1.alloc o).grownBy w3 (Value.slice na nl.length nc).ownBlock) (hat : (Value.slice na nl.length nc).ownBlock = some gg ∨ gg = w1.heap.size + 1) :
    FState w tb M mb base G rv (w3.setCell ⟨G, 4, none⟩ (.slice (some ⟨gg, 0, none⟩) (nl.length + 1) cc)) ord1 ma1 mc1 (some ⟨gg, 0, none⟩) cc (nl ++ [⟨n, va, vc⟩]) := by
  obtain ⟨b1, b2, b3, b4, b5, b6, b7⟩ := h.blk
  have hs1 := hK1.size
  have hA : Kept (fun _ => False) w1 (w1.alloc o) := (Kept.refl _ w1).alloc _
  have hG := Kept.of_grown hgrow
  have hs3 : w1.heap.size + 1 ≤ w3.heap.size := by have := hgrow.size; simpa using this
  have hC := (Kept.refl (fun b => b = G) w3).set (a := ⟨G, 4, none⟩) (fun _ => rfl) (.slice (some ⟨gg, 0, none⟩) (nl.length + 1) cc)
  have hnb : ∀ b, (Value.slice na nl.length nc).ownBlock = some b → base ≤ b ∧ b < ws.heap.size ∧ na = some ⟨b, 0, none⟩ := fun b hb => ⟨(h.own.nodes.lt b hb).1, (h.own.nodes.lt b hb).2, owns_addr h.own.nodes hb⟩
  have hmab : ∀ b, ma = some ⟨b, 0, none⟩ → base ≤ b ∧ b < ws.heap.size := fun b hb => h.meet.met.lt b (by rw [hb]; rfl)
  have hma1b : ∀ b, ma1 = some ⟨b, 0, none⟩ → base ≤ b ∧ b < w1.heap.size ∧ (ma = some ⟨b, 0, none⟩ ∨ ws.heap.size ≤ b) := fun b hb => by
    have h1 := hM1.met.lt b (by rw [hb]; rfl)
    refine ⟨h1.1, h1.2, ?_⟩
    rcases hor1 with e | ⟨c, e, hc⟩
    · exact Or.inl (by rw [← e, hb])
    · rw [hb] at e; have := some_addr e; exact Or.inr (by omega)
  have hvab : ∀ b, va = some ⟨b, 0, none⟩ → ws.heap.size ≤ b ∧ b < w1.heap.size := fun b hb => hv1.lt b (by rw [hb]; rfl)
  have hxb : ∀ x, x ∈ nl → ∀ b, x.a = some ⟨b, 0, none⟩ → base ≤ b ∧ b < ws.heap.size := fun x hx b hb => (h.own.vals x hx).lt b (by rw [hb]; rfl)
  have hggb : base ≤ gg ∧ (na = some ⟨gg, 0, none⟩ ∨ w1.heap.size < gg) := ⟨(hown.lt gg rfl).1, hat.imp (fun e => (hnb gg e).2.2) (fun e => by omega)⟩
  have hnG := h.notG
  have hp1 : ∀ b, base ≤ b ∧ ma ≠ some ⟨b, 0, none⟩ → ¬ (b = M ∨ b = mb ∨ ma = some ⟨b, 0, none⟩) := fun b hb hp => by
    rcases hp with hp | hp | hp
    · omega
    · omega
    · exact hb.2 hp
  exact {
    low := by
      have h1 : Below w.heap.size ws w1 := hK1.below h.low.size (fun k hk hp => by
        rcases hp with hp | hp | hp
        · omega
        · omega
        · have := hmab k hp; omega)
      have h2 : Below w.heap.size w1 w3 := ((hA.mono (q := fun k => (Value.slice na nl.length nc).ownBlock = some k) (fun _ _ e => e.elim)).trans hG (fun _ _ e => e)).below (by have := h.low.size; omega) (fun k hk hp => by have := hnb k hp; omega)
      exact ((h.low.trans h1).trans h2).trans (hC.below (by have := h.low.size; omega) (fun k hk hp => by omega))
    blk := ⟨b1, b2, by have := hC.size; omega, b4, b5, b6, b7⟩
    res := by
      refine (((h.res.kept hK1 (fun hp => ?_)).kept hA (fun e => e)).kept hG (fun hp => by have := hnb _ hp; omega)).kept hC (by omega)
      rcases hp with hp | hp | hp
      · omega
      · omega
      · have := hmab _ hp; omega
    out := by
      have h1 := ((h.out.kept hK1 (hp1 G ⟨b2, fun e => hnG.2.1.ne e rfl⟩)).kept hA (fun e => e)).kept hG (fun hp => hnG.1.ne (hnb _ hp).2.2 rfl)
      simpa using h1.set (s' := .slice (some ⟨gg, 0, none⟩) (nl.length + 1) cc)
    meet := ((hM1.kept hA (fun e => e) (fun e => e) (fun _ _ e => e)).kept hG (fun hp => by have := hnb _ hp; omega) (fun hp => by have := hnb _ hp; omega) (fun b hb hp => by
        have h2 := hnb b hp
        rcases (hma1b b hb).2.2 with e | e
        · exact h.apm b h2.2.2 e
        · omega)).kept hC (by omega) (by omega) (fun b hb hp => by
        rcases (hma1b b hb).2.2 with e | e
        · exact hnG.2.1.ne e hp
        · omega)
    own := by
      refine ⟨?_, fun x hx => ?_, fun x hx => ?_, fun i j hij hj => ?_⟩
      · have h1 := hC.owns hown (fun b hb hp => by
          have e := owns_addr hown hb
          have e2 := some_addr e
          rcases hggb.2 with e3 | e3
          · exact hnG.1.ne e3 (by omega)
          · omega)
        simpa [nodeCells_snoc] using h1
      · rcases List.mem_append.1 hx with hx | hx
        · have h1 := h.own.vals x hx
          refine hC.owns (hG.owns (hA.owns (hK1.owns h1 (fun b hb => ?_)) (fun _ _ e => e)) (fun b hb hp => h.own.apn x hx b (owns_addr h1 hb) (hnb b hp).2.2)) (fun b hb hp => (hnG.2.2 x hx).ne (owns_addr h1 hb) hp)
          exact hp1 b ⟨(h1.lt b hb).1, h.apvm x hx b (owns_addr h1 hb)⟩
        · simp at hx
          subst hx
          refine hC.owns (hG.owns (hA.owns (owns_le hv1 (by omega)) (fun _ _ e => e)) (fun b hb hp => ?_)) (fun b hb hp => ?_)
          · have h2 := hvab b (owns_addr hv1 hb); have h3 := hnb b hp; omega
          · have h2 := hvab b (owns_addr hv1 hb); omega
      · intro b hb hx2
        have e := some_addr hx2
        subst e
        rcases List.mem_append.1 hx with hx | hx
        · rcases hggb.2 with e3 | e3
          · exact h.own.apn x hx gg hb e3
          · have := hxb x hx gg hb; omega
        · simp at hx
          subst hx
          have h2 := hvab gg hb
          rcases hggb.2 with e3 | e3
          · have h4 := h.own.nodes.lt gg (by rw [e3]; rfl); omega
          · omega
      · have hj' : j < nl.length + 1 := by simpa using hj
        have hi' : i < nl.length := by omega
        have ei : (nl ++ [(⟨n, va, vc⟩ : NL)])[i]! = nl[i]! := by rw [getElem!_pos _ i (by simp; omega), getElem!_pos nl i hi', List.getElem_append_left hi']
        rw [ei]
        by_cases ej : j < nl.length
        · have ej2 : (nl ++ [(⟨n, va, vc⟩ : NL)])[j]! = nl[j]! := by rw [getElem!_pos _ j hj, getElem!_pos nl j ej, List.getElem_append_left ej]
          rw [ej2]
          exact h.own.apv i j hij ej
        · have ej2 : (nl ++ [(⟨n, va, vc⟩ : NL)])[j]! = ⟨n, va, vc⟩ := by
            have e : j = nl.length := by omega
            subst e
            rw [getElem!_pos (nl ++ [(⟨n, va, vc⟩ : NL)]) nl.length (by simp)]; simp
          rw [ej2]
          intro b hb hx2
          have hm : (nl[i]!) ∈ nl := by rw [getElem!_pos nl i hi']; exact List.getElem_mem _
          have h2 := hxb (nl[i]!) hm b hb
          have h3 := hvab b hx2
          omega
    apm := fun b hb hx => by
      have e := some_addr hb
      subst e
      rcases hggb.2 with e3 | e3
      · rcases (hma1b gg hx).2.2 with e | e
        · exact h.apm gg e3 e
        · have h4 := h.own.nodes.lt gg (by rw [e3]; rfl); omega
      · have := hma1b gg hx; omega
    apvm := fun x hx => by
      rcases List.mem_append.1 hx with hx | hx
      · intro b hb hx2
        rcases (hma1b b hx2).2.2 with e | e
        · exact h.apvm x hx b hb e
        · have := hxb x hx b hb; omega
      · simp at hx
        subst hx
        exact hap1
    notG := by
      refine ⟨far_of_lt fun b hb => ?_, far_of_lt fun b hb => ?_, fun x hx => ?_⟩
      · have e := some_addr hb
        subst e
        rcases hggb.2 with e3 | e3
        · exact hnG.1.ne e3
        · omega
      · rcases (hma1b b hb).2.2 with e | e
        · exact hnG.2.1.ne e
        · omega
      · rcases List.mem_append.1 hx with hx | hx
        · exact hnG.2.2 x hx
        · simp at hx
          subst hx
          exact far_of_lt fun b hb => by have := hvab b hb; omega }
end

end Go.Proofs.Ythjddpkegooobaa
