import Derived.WalkLawsBesides
import Derived.Deep.QuietTactic
import Derived.BigQuiet
import Derived.Deep.OwnRows
import Derived.Test.YthjddpkegooobabPartNwF

/-
  RDOK: what is read fits; images are read back. Own work.
-/
namespace Go.Proofs.Ythjddpkegooobab

theorem zag_i64 {n : Nat} (h : n < 18446744073709551616) : I64 (zag n) := by unfold I64 zag; split <;> omega
theorem wrap_i64_ok (n : Int) : I64 (IntKind.i64.wrap n) := by rw [IntKind.wrap_i64]; unfold I64; omega
theorem orI_i64 (n : Int) (b i : Nat) : I64 (orI n b i) := wrap_i64_ok _
theorem rdLow_i64 : ∀ (k i : Nat) (n : Int) (r : List Nat) (x : Int) (q : List Nat), I64 n → rdLow k i n r = some (x, q) → I64 x
  | 0, _, n, r, x, q, hn, h => by
    have e : n = x ∧ r = q := by simpa [rdLow] using h
    rw [← e.1]; exact hn
  | k + 1, _, _, [], _, _, _, h => by cases h
  | k + 1, i, n, b :: r, x, q, _, h => rdLow_i64 k (i + 1) (orI n b i) r x q (orI_i64 n b i) h
theorem strB_sizeR (xs : List Nat) : (strB xs).size = xs.length := by unfold strB; rw [Go.strOfNums_size, List.length_map]
theorem small_i64 {n : Int} (h : 0 ≤ n ∧ n ≤ 1000000) : I64 n := by unfold I64; omega
theorem zero_ok {n : Nat} (h : n ≤ 4) (m : Int) (hm : I64 m) (t : ByteArray) (ht : t.size ≤ 1000) (d : Int) (hd : I64 d) : (GV.mk (n : Int) m t d).Ok := ⟨small_i64 (by show 0 ≤ (n : Int) ∧ (n : Int) ≤ 1000000; omega), hm, by show t.size ≤ maxLen; unfold maxLen; omega, hd⟩

theorem rdVal_ok {r q : List Nat} {v : GV} (h : rdVal r = some (v, q)) : v.Ok := by
  have h0 : I64 0 := small_i64 (by omega)
  have hz : (⟨#[]⟩ : ByteArray).size ≤ 1000 := Nat.zero_le _
  cases r with
  | nil => cases h
  | cons k t =>
    unfold rdVal at h
    dsimp only at h
    split at h
    · simp only [Option.some.injEq, Prod.mk.injEq] at h
      rw [← h.1]; exact zero_ok (n := 0) (by omega) 0 h0 _ hz 0 h0
    · split at h
      · cases hq : rdNum 0 0 t with
        | none => rw [hq] at h; cases h
        | some y =>
          rw [hq] at h
          simp only [Option.map_some, Option.some.injEq, Prod.mk.injEq] at h
          rw [← h.1]; exact zero_ok (n := 1) (by omega) _ (zag_i64 (rdNum_lt 0 0 t y.1 y.2 (by omega) hq)) _ hz 0 h0
      · split at h
        · cases hq : rdLow 8 0 0 t with
          | none => rw [hq] at h; cases h
          | some y =>
            rw [hq] at h
            simp only [Option.map_some, Option.some.injEq, Prod.mk.injEq] at h
            rw [← h.1]; exact zero_ok (n := 2) (by omega) _ (rdLow_i64 8 0 0 t y.1 y.2 h0 hq) _ hz 0 h0
        · split at h
          · cases hq : rdCount 1000 t with
            | none => rw [hq] at h; cases h
            | some y =>
              rw [hq, Option.bind_some] at h
              cases hq2 : rdText y.1 y.2 with
              | none => rw [hq2] at h; cases h
              | some z =>
                rw [hq2] at h
                simp only [Option.map_some, Option.some.injEq, Prod.mk.injEq] at h
                have hz1 : z.1.size ≤ 1000 := by
                  have h1 := rdCount_le (n := y.1) (q := y.2) hq
                  unfold rdText at hq2
                  split at hq2
                  · have e2 : strB (y.2.take y.1) = z.1 := by simpa using congrArg (fun o => o.map Prod.fst) hq2
                    rw [← e2, strB_sizeR, List.length_take]; omega
                  · cases hq2
                rw [← h.1]; exact zero_ok (n := 3) (by omega) 0 h0 _ hz1 0 h0
          · split at h
            · cases hq : rdCount 300 t with
              | none => rw [hq] at h; cases h
              | some y =>
                rw [hq] at h
                simp only [Option.map_some, Option.some.injEq, Prod.mk.injEq] at h
                have h1 := rdCount_le (n := y.1) (q := y.2) hq
                rw [← h.1]; exact zero_ok (n := 4) (by omega) 0 h0 _ hz _ (small_i64 (by omega))
            · cases h

theorem rdVals_ok : ∀ (m : Nat) (r q : List Nat) (vs : List GV), rdVals m r = some (vs, q) → vs.length = m ∧ ∀ v, v ∈ vs → v.Ok
  | 0, r, q, vs, h => by
    have e : [] = vs := by simpa [rdVals] using congrArg (fun o => o.map Prod.fst) h
    rw [← e]; exact ⟨rfl, fun v hv => by cases hv⟩
  | m + 1, r, q, vs, h => by
    rw [rdVals] at h
    cases hv : rdVal r with
    | none => rw [hv] at h; cases h
    | some x =>
      rw [hv, Option.bind_some] at h
      cases hw : rdVals m x.2 with
      | none => rw [hw] at h; cases h
      | some y =>
        rw [hw] at h
        have e : x.1 :: y.1 = vs := by simpa using congrArg (fun o => o.map Prod.fst) h
        obtain ⟨h1, h2⟩ := rdVals_ok m x.2 y.2 y.1 hw
        rw [← e]
        refine ⟨by rw [List.length_cons, h1], fun v hm => ?_⟩
        rcases List.mem_cons.1 hm with rfl | hm
        · exact rdVal_ok (q := x.2) hv
        · exact h2 v hm
theorem rdNode_ok {r q : List Nat} {n : GN} (h : rdNode r = some (n, q)) : n.Ok := by
  unfold rdNode at h
  cases ht : rdCount 1000 r with
  | none => rw [ht] at h; cases h
  | some t =>
    rw [ht, Option.bind_some] at h
    cases hm : rdCount 100 t.2 with
    | none => rw [hm] at h; cases h
    | some m =>
      rw [hm, Option.bind_some] at h
      cases hv : rdVals m.1 m.2 with
      | none => rw [hv] at h; cases h
      | some y =>
        rw [hv] at h
        have e : (⟨(t.1 : Int), y.1⟩ : GN) = n := by simpa using congrArg (fun o => o.map Prod.fst) h
        obtain ⟨h1, h2⟩ := rdVals_ok m.1 m.2 y.2 y.1 hv
        have h3 := rdCount_le (n := t.1) (q := t.2) ht
        have h4 := rdCount_le (n := m.1) (q := m.2) hm
        rw [← e]
        exact ⟨small_i64 (by show 0 ≤ (t.1 : Int) ∧ (t.1 : Int) ≤ 1000000; omega), by show y.1.length ≤ maxLen; unfold maxLen; omega, h2⟩
theorem rdNodes_ok : ∀ (m : Nat) (r q : List Nat) (ns : List GN), rdNodes m r = some (ns, q) → ns.length = m ∧ ∀ n, n ∈ ns → n.Ok
  | 0, r, q, vs, h => by
    have e : [] = vs := by simpa [rdNodes] using congrArg (fun o => o.map Prod.fst) h
    rw [← e]; exact ⟨rfl, fun v hv => by cases hv⟩
  | m + 1, r, q, vs, h => by
    rw [rdNodes] at h
    cases hv : rdNode r with
    | none => rw [hv] at h; cases h
    | some x =>
      rw [hv, Option.bind_some] at h
      cases hw : rdNodes m x.2 with
      | none => rw [hw] at h; cases h
      | some y =>
        rw [hw] at h
        have e : x.1 :: y.1 = vs := by simpa using congrArg (fun o => o.map Prod.fst) h
        obtain ⟨h1, h2⟩ := rdNodes_ok m x.2 y.2 y.1 hw
        rw [← e]
        refine ⟨by rw [List.length_cons, h1], fun v hm => ?_⟩
        rcases List.mem_cons.1 hm with rfl | hm
        · exact rdNode_ok (q := x.2) hv
        · exact h2 v hm
theorem rdGraph_ok {r q : List Nat} {g : GG} (h : rdGraph r = some (g, q)) : g.Ok := by
  unfold rdGraph at h
  cases ht : rdText 2 r with
  | none => rw [ht] at h; cases h
  | some t =>
    rw [ht, Option.bind_some] at h
    split at h
    · cases hm : rdCount 300 t.2 with
      | none => rw [hm] at h; cases h
      | some m =>
        rw [hm, Option.bind_some] at h
        cases hv : rdVal m.2 with
        | none => rw [hv] at h; cases h
        | some x =>
          rw [hv, Option.bind_some] at h
          cases hn : rdNodes m.1 x.2 with
          | none => rw [hn] at h; cases h
          | some y =>
            rw [hn] at h
            have e : (⟨x.1, y.1⟩ : GG) = g := by simpa using congrArg (fun o => o.map Prod.fst) h
            obtain ⟨h1, h2⟩ := rdNodes_ok m.1 x.2 y.2 y.1 hn
            have h4 := rdCount_le (n := m.1) (q := m.2) hm
            rw [← e]
            exact ⟨rdVal_ok (q := x.2) hv, by show y.1.length ≤ maxLen; unfold maxLen; omega, h2⟩
    · cases h

/-! images are read back -/
theorem rdVal_back {n : Nat} {v : GV} (hn : n ≤ 300) (ho : v.Ok) (h : okV n v = true) (r : List Nat) : rdVal (valB v ++ r) = some (v, r) := by
  rcases okV_cases h with rfl | ⟨m, rfl⟩ | ⟨m, rfl⟩ | ⟨t, ht, rfl⟩ | ⟨k, hk, rfl⟩
  · rfl
  · show rdVal (1 :: (numB (zig m) ++ r)) = _
    simp [rdVal, rdNum_num (zig_lt ho.num), zag_zig]
  · show rdVal (2 :: (lowB 8 (u64n m) ++ r)) = _
    simp [rdVal, rdLow_word ho.num]
  · show rdVal (3 :: (numB t.size ++ bsOf t ++ r)) = _
    rw [List.append_assoc]
    simp [rdVal, rdCount_num (most := 1000) ht (by omega), rdText_bs]
  · show rdVal (4 :: (numB k ++ r)) = _
    simp [rdVal, rdCount_num (m := k) (most := 300) (by omega) (by omega)]
theorem rdVals_back {n : Nat} (hn : n ≤ 300) : ∀ (l : List GV) (r : List Nat), (∀ v, v ∈ l → v.Ok) → (∀ v, v ∈ l → okV n v = true) → rdVals l.length (valsB l ++ r) = some (l, r)
  | [], r, _, _ => rfl
  | v :: l, r, ho, h => by
    show rdVals (l.length + 1) (valB v ++ valsB l ++ r) = _
    rw [rdVals, List.append_assoc, rdVal_back hn (ho v (List.mem_cons_self ..)) (h v (List.mem_cons_self ..)), Option.bind_some, rdVals_back hn l r (fun x hx => ho x (List.mem_cons_of_mem _ hx)) (fun x hx => h x (List.mem_cons_of_mem _ hx))]
    rfl
theorem rdNode_back {n : Nat} (hn : n ≤ 300) {x : GN} (ho : x.Ok) (h : okN n x = true) (r : List Nat) : rdNode (nodeB x ++ r) = some (x, r) := by
  obtain ⟨h1, h2⟩ := okN_parts h
  have h3 := okN_tag' h
  unfold rdNode nodeB
  rw [List.append_assoc, List.append_assoc, rdCount_num (m := x.tag.toNat) (most := 1000) (by omega) (by omega), Option.bind_some]
  dsimp only
  rw [rdCount_num (m := x.vals.length) (most := 100) h1 (by omega), Option.bind_some]
  dsimp only
  rw [rdVals_back hn x.vals r ho.vals h2]
  show some ((⟨((x.tag.toNat : Nat) : Int), x.vals⟩ : GN), r) = _
  rw [show ((x.tag.toNat : Nat) : Int) = x.tag by omega]
theorem rdNodes_back {n : Nat} (hn : n ≤ 300) : ∀ (l : List GN) (r : List Nat), (∀ v, v ∈ l → v.Ok) → (∀ v, v ∈ l → okN n v = true) → rdNodes l.length (nodesB l ++ r) = some (l, r)
  | [], r, _, _ => rfl
  | v :: l, r, ho, h => by
    show rdNodes (l.length + 1) (nodeB v ++ nodesB l ++ r) = _
    rw [rdNodes, List.append_assoc, rdNode_back hn (ho v (List.mem_cons_self ..)) (h v (List.mem_cons_self ..)), Option.bind_some, rdNodes_back hn l r (fun x hx => ho x (List.mem_cons_of_mem _ hx)) (fun x hx => h x (List.mem_cons_of_mem _ hx))]
    rfl
theorem rdGraph_back {g : GG} (ho : g.Ok) (hok : okG g = true) (r : List Nat) : rdGraph (graphB g ++ r) = some (g, r) := by
  obtain ⟨hn, hroot, hnodes⟩ := okG_parts hok
  have e0 : rdText 2 (graphB g ++ r) = some (⟨#[72, 49]⟩, numB g.nodes.length ++ (valB g.root ++ (nodesB g.nodes ++ r))) := by
    have h1 := rdText_bs ⟨#[72, 49]⟩ (numB g.nodes.length ++ (valB g.root ++ (nodesB g.nodes ++ r)))
    have e : graphB g ++ r = bsOf ⟨#[72, 49]⟩ ++ (numB g.nodes.length ++ (valB g.root ++ (nodesB g.nodes ++ r))) := by unfold graphB; simp only [List.append_assoc]; rfl
    rw [e]; exact h1
  unfold rdGraph
  rw [e0, Option.bind_some, if_pos rfl]
  dsimp only
  rw [rdCount_num (m := g.nodes.length) (most := 300) hn (by omega), Option.bind_some]
  dsimp only
  rw [rdVal_back hn ho.root hroot, Option.bind_some]
  dsimp only
  rw [rdNodes_back hn g.nodes r ho.nodes hnodes]
  rfl

/-- what Unpack answers -/
def zeroG : GG := ⟨⟨0, 0, ⟨#[]⟩, 0⟩, []⟩
def unB (bs : List Nat) : Bool × GG :=
  match rdGraph bs with
  | some (g, _) => if packB g = bs then (true, g) else (false, zeroG)
  | none => (false, zeroG)

end Go.Proofs.Ythjddpkegooobab

/-
  SUN: the specification's reader. Own work.
-/
namespace Go.Proofs.Ythjddpkegooobab
open Go.RowKit

/-- the specification's number -/
def sNum : Nat → Nat → Nat → List Nat → Option (Nat × List Nat)
  | 0, _, _, _ => none
  | _ + 1, _, _, [] => none
  | k + 1, n, i, x :: r => if x < 128 then some (orU n (x % 128) (7 * i), r) else sNum k (orU n (x % 128) (7 * i)) (i + 1) r
def sSmall (r : List Nat) : Option (Nat × List Nat) :=
  match sNum 10 0 0 r with
  | some (n, r') => if n ≤ 5000 then some (n, r') else none
  | none => none
def sLow : Nat → Nat → Nat → List Nat → Option (Nat × List Nat)
  | 0, _, n, r => some (n, r)
  | _ + 1, _, _, [] => none
  | k + 1, i, n, x :: r => sLow k (i + 1) (orU n x (8 * i)) r

/-- a reader's three cells -/
structure SR (w : World) (b : Nat) (sa : Option Addr) (cap : Nat) (bs : List Nat) (at_ : Nat) (bad : Bool) : Prop where
  lt : b < w.heap.size
  c0 : w.cell? ⟨b, 0, none⟩ = some (.slice sa bs.length cap)
  c1 : w.cell? ⟨b, 1, none⟩ = some (.int .i64 (at_ : Int))
  c2 : w.cell? ⟨b, 2, none⟩ = some (.bool bad)
  f : ∀ o, w.frozen? ⟨b, o, none⟩ = false
  low : BytesLow b w sa bs
  cap : bs.length ≤ cap
  len : bs.length ≤ 4096
  byte : ∀ x, x ∈ bs → x < 256
  atl : at_ ≤ bs.length + 2

theorem SR.kept {p : Nat → Prop} {w w' : World} {b : Nat} {sa : Option Addr} {cap : Nat} {bs : List Nat} {at_ : Nat} {bad : Bool} (h : SR w b sa cap bs at_ bad) (k : Kept p w w') (hp : ∀ k, k ≤ b → ¬ p k) : SR w' b sa cap bs at_ bad := by
  have e := k.block b h.lt (hp b (Nat.le_refl _))
  exact ⟨Nat.lt_of_lt_of_le h.lt k.size, (World.cell?_of_block (w := w) e).trans h.c0, (World.cell?_of_block (w := w) e).trans h.c1, (World.cell?_of_block (w := w) e).trans h.c2, fun o => (World.frozen?_of_block (w := w) e).trans (h.f o), h.low.below (k.below (by have := h.lt; omega) (fun k hk => hp k (by omega))), h.cap, h.len, h.byte, h.atl⟩
theorem SR.grow {w w' : World} {b : Nat} {sa : Option Addr} {cap : Nat} {bs : List Nat} {at_ : Nat} {bad : Bool} (h : SR w b sa cap bs at_ bad) (k : Below w.heap.size w w') : SR w' b sa cap bs at_ bad := h.kept (Kept.of_below k (fun _ => False)) (fun _ _ e => e)
theorem SR.drewN {w : World} {b : Nat} {sa : Option Addr} {cap : Nat} {bs : List Nat} {at_ : Nat} {bad : Bool} (h : SR w b sa cap bs at_ bad) (k : Nat) : SR (w.drewN k) b sa cap bs at_ bad := ⟨h.lt, h.c0, h.c1, h.c2, h.f, h.low, h.cap, h.len, h.byte, h.atl⟩
theorem SR.setBad {w : World} {b : Nat} {sa : Option Addr} {cap : Nat} {bs : List Nat} {at_ : Nat} {bad : Bool} (h : SR w b sa cap bs at_ bad) : SR (w.setCell ⟨b, 2, none⟩ (.bool true)) b sa cap bs at_ true := by
  refine ⟨by have := h.lt; simpa [World.setCell] using this, ?_, ?_, World.cell?_setCell_same _ _ _ h.c2, fun o => ?_, h.low.below ((Kept.refl (fun k => k = b) w).set (a := ⟨b, 2, none⟩) (fun _ => rfl) _ |>.below (by have := h.lt; omega) (fun k hk e => by omega)), h.cap, h.len, h.byte, h.atl⟩
  · rw [World.cell?_setCell_other _ _ _ _ (by simp)]; exact h.c0
  · rw [World.cell?_setCell_other _ _ _ _ (by simp)]; exact h.c1
  · rw [World.frozen?_setCell]; exact h.f o
theorem SR.setAt {w : World} {b : Nat} {sa : Option Addr} {cap : Nat} {bs : List Nat} {at_ : Nat} {bad : Bool} (h : SR w b sa cap bs at_ bad) {z : Int} {n : Nat} (hz : z = (n : Int)) (hn : n ≤ bs.length + 2) : SR (w.setCell ⟨b, 1, none⟩ (.int .i64 z)) b sa cap bs n bad := by
  subst hz
  refine ⟨by have := h.lt; simpa [World.setCell] using this, ?_, World.cell?_setCell_same _ _ _ h.c1, ?_, fun o => ?_, h.low.below ((Kept.refl (fun k => k = b) w).set (a := ⟨b, 1, none⟩) (fun _ => rfl) _ |>.below (by have := h.lt; omega) (fun k hk e => by omega)), h.cap, h.len, h.byte, hn⟩
  · rw [World.cell?_setCell_other _ _ _ _ (by simp)]; exact h.c0
  · rw [World.cell?_setCell_other _ _ _ _ (by simp)]; exact h.c2
  · rw [World.frozen?_setCell]; exact h.f o

/-- how what was read stands to what was to be read -/
def SRel {α : Type} (f : Option (α × List Nat)) (bad : Bool) (x : α) (r' : List Nat) (bad' : Bool) : Prop :=
  (bad = true → bad' = true) ∧ (bad = false → (bad' = false ∧ f = some (x, r')) ∨ (bad' = true ∧ f = none))
/-- what a reader's call leaves -/
def SPost {α : Type} (f : Option (α × List Nat)) (enc : α → Value) (ok : α → Prop) (b : Nat) (sa : Option Addr) (cap : Nat) (bs : List Nat) (at_ : Nat) (bad : Bool) (w : World) (e : Ending) (w' : World) : Prop :=
  Kept (fun k => k = b) w w' ∧ ∃ x at' bad', e = .returned (enc x) ∧ ok x ∧ SR w' b sa cap bs at' bad' ∧ (at' ≤ bs.length ∨ at' = at_) ∧ Hid (SRel f bad x (bs.drop at') bad')

theorem drop_zero_of {bs : List Nat} {k : Nat} (h : bs.length ≤ k) : bs.drop k = [] := List.drop_of_length_le h

set_option maxRecDepth 100000 in
theorem sByte_any (b : Nat) (sa : Option Addr) (cap : Nat) (bs : List Nat) (at_ : Nat) (bad : Bool) (w : World) (hR : SR w b sa cap bs at_ bad) :
    Calls Try.prog 143 #[.pointer (some ⟨b, 0, none⟩)] w (SPost (rdByte (bs.drop at_)) (fun x => .int .u8 (x : Int)) (fun x => x < 256) b sa cap bs at_ bad w) := by
  have hatl := hR.atl
  have hlen := hR.len
  obtain ⟨hlt, c0, c1, c2, hf, hlow, hcap, _, hbyte, _⟩ := id hR
  by_cases h : at_ < bs.length
  · have hd : ¬ ((bs.length : Int) ≤ (at_ : Int)) := by omega
    obtain ⟨x, hx⟩ := hidx bs[at_]!
    have hxm : x < 256 := by rw [hx.out]; exact hbyte _ (mem_at h)
    have e1 : Hid (rdByte (bs.drop at_) = some (x, bs.drop (at_ + 1))) := by show _ = _; rw [drop_cons h, hx.out]; rfl
    obtain ⟨ba, off, rfl, hba, hcell⟩ := hlow at_ h
    rw [← hx.out] at hcell
    have hne : ba ≠ b := by omega
    go_enter Try.func143, Try.ntmps143
    go_wp2_with (go_quiet (fail))
    go_ret
    refine ⟨(((Kept.refl (fun k => k = b) w).drewN _).set (fun _ => rfl) _).drewN _, x, at_ + 1, bad, rfl, hxm, ?_, Or.inl (by omega), ⟨fun h => h, fun _ => ?_⟩⟩
    · exact ((hR.drewN _).setAt (by omega) (by omega)).drewN _
    · cases bad
      · exact Or.inl ⟨rfl, e1.out⟩
      · rename_i hc; cases hc
  · have hd : ((bs.length : Int) ≤ (at_ : Int)) := by omega
    have e1 : Hid (rdByte (bs.drop at_) = none) := by show _ = _; rw [drop_zero_of (by omega)]; rfl
    go_enter Try.func143, Try.ntmps143
    go_wp2_with (go_quiet (fail))
    go_ret
    exact ⟨((Kept.refl (fun k => k = b) w).drewN _).set (fun _ => rfl) _, 0, at_, true, rfl, by omega, (hR.drewN _).setBad, Or.inr rfl, ⟨fun _ => rfl, fun _ => Or.inr ⟨rfl, e1.out⟩⟩⟩

theorem byte_cons {r r' : List Nat} {x : Nat} (h : rdByte r = some (x, r')) : r = x :: r' := by
  cases r with
  | nil => cases h
  | cons y t =>
    have e : y = x ∧ t = r' := by simpa [rdByte] using h
    rw [e.1, e.2]
theorem byte_nil {r : List Nat} (h : rdByte r = none) : r = [] := by
  cases r with
  | nil => rfl
  | cons y t => cases h

/-- where a loop of reading stands -/
def SInv {α : Type} (f g : Option (α × List Nat)) (bad0 bad : Bool) : Prop := (bad0 = true → bad = true) ∧ (bad0 = false → bad = false → f = g) ∧ (bad0 = false → bad = true → f = none)

theorem SInv.start {α : Type} (f : Option (α × List Nat)) (bad : Bool) : SInv f f bad bad := ⟨fun h => h, fun _ _ => rfl, fun h h' => by rw [h] at h'; cases h'⟩
theorem SInv.comp {α β : Type} {F G G' : Option (β × List Nat)} {f1 : Option (α × List Nat)} {bad bad1 bad2 : Bool} {x : α} {r2 : List Nat} (h : SInv F G bad bad1) (hr : SRel f1 bad1 x r2 bad2) (h1 : f1 = some (x, r2) → G = G') (h0 : f1 = none → G = none) : SInv F G' bad bad2 := by
  refine ⟨fun hb => hr.1 (h.1 hb), fun hb hb2 => ?_, fun hb hb2 => ?_⟩
  · cases hb1 : bad1 with
    | true => rw [hr.1 hb1] at hb2; cases hb2
    | false =>
      rcases hr.2 hb1 with ⟨_, e⟩ | ⟨e, _⟩
      · exact (h.2.1 hb hb1).trans (h1 e)
      · rw [e] at hb2; cases hb2
  · cases hb1 : bad1 with
    | true => exact h.2.2 hb hb1
    | false =>
      rcases hr.2 hb1 with ⟨e, _⟩ | ⟨_, e⟩
      · rw [e] at hb2; cases hb2
      · exact (h.2.1 hb hb1).trans (h0 e)
theorem SInv.rel {α : Type} {F G : Option (α × List Nat)} {bad bad1 : Bool} {y : α} {r : List Nat} (h : SInv F G bad bad1) (hG : G = some (y, r)) : SRel F bad y r bad1 := by
  refine ⟨h.1, fun hb => ?_⟩
  cases hb1 : bad1 with
  | true => exact Or.inr ⟨rfl, h.2.2 hb hb1⟩
  | false => exact Or.inl ⟨rfl, (h.2.1 hb hb1).trans hG⟩
theorem SInv.bad {α : Type} {F G : Option (α × List Nat)} {bad bad1 : Bool} {y : α} {r : List Nat} (h : SInv F G bad bad1) (hG : G = none) : SRel F bad y r true := by
  refine ⟨fun _ => rfl, fun hb => Or.inr ⟨rfl, ?_⟩⟩
  cases hb1 : bad1 with
  | true => exact h.2.2 hb hb1
  | false => exact (h.2.1 hb hb1).trans hG
theorem sOr_form {n x s : Nat} (hn : n < 18446744073709551616) (_hx : x < 18446744073709551616) (hs : s ≤ 64) : bits .or .u64 (n : Int) (IntKind.u64.wrap ((x : Int) * 2 ^ s)) = ((orU n x s : Nat) : Int) := by
  have e3 : ((x : Int) * 2 ^ s) = ((x * 2 ^ s : Nat) : Int) := by push_cast; rfl
  have e4 : IntKind.u64.wrap ((x * 2 ^ s : Nat) : Int) = ((x * 2 ^ s % 18446744073709551616 : Nat) : Int) := by rw [IntKind.wrap_u64]; generalize x * 2 ^ s = y; omega
  rw [e3, e4, u64_or_nat n _ hn (Nat.mod_lt _ (by omega))]
  unfold orU
  rw [Nat.min_eq_left hs]
theorem and127 {x : Nat} (hx : x < 256) : IntKind.u64.wrap (bits .and .u8 (x : Int) 127) = ((x % 128 : Nat) : Int) := by
  have e1 : bits .and .u8 (x : Int) 127 = ((x % 128 : Nat) : Int) := by
    rw [u8_and _ _ (by omega) (by omega) (by omega) (by omega)]
    have h1 : (127 : Int).toNat = 127 := rfl
    rw [h1, Int.toNat_natCast, nat_mask7]
  rw [e1, IntKind.wrap_u64]; omega

set_option maxRecDepth 100000 in
theorem sEight_any (b : Nat) (sa : Option Addr) (cap : Nat) (bs : List Nat) (at_ : Nat) (bad : Bool) (w : World) (hR : SR w b sa cap bs at_ bad) :
    Calls Try.prog 144 #[.pointer (some ⟨b, 0, none⟩)] w (SPost (sLow 8 0 0 (bs.drop at_)) (fun x => .int .u64 (x : Int)) (fun x => x < 18446744073709551616) b sa cap bs at_ bad w) := by
  go_enter Try.func144, Try.ntmps144
  go_wp2
  go_loopw [3, 4] (fun a c ws => ∃ (n i at1 : Nat) (bad1 : Bool), a = .int .u64 n ∧ c = .int .i64 i ∧ n < 18446744073709551616 ∧ i ≤ 8 ∧ Hid (SInv (sLow 8 0 0 (bs.drop at_)) (sLow (8 - i) i n (bs.drop at1)) bad bad1) ∧ SR ws b sa cap bs at1 bad1 ∧ (at1 ≤ bs.length ∨ at1 = at_) ∧ Kept (fun k => k = b) w ws) (fun _ c _ => 8 - (intOf c).toNat)
  case atStart => exact ⟨0, 0, at_, bad, rfl, rfl, by omega, by omega, SInv.start _ _, hR, Or.inr rfl, Kept.refl _ _⟩
  case round =>
    obtain ⟨n, i, at1, bad1, rfl, rfl, hn, hi, hinv, hR1, hat1, hK⟩ := hrel
    by_cases hlt : i < 8
    · have hd : (i : Int) < 8 := by omega
      go_wp2_with (go_at_call 143; refine (sByte_any b sa cap bs at1 bad1 _ hR1).mono ?_; rintro e w1 ⟨hK1, x, at2, bad2, rfl, hx, hR2, hat2, hrel⟩)
      have e6 : IntKind.u64.wrap (x : Int) = (x : Int) := by rw [IntKind.wrap_u64]; omega
      refine ⟨⟨orU n x (8 * i), i + 1, at2, bad2, congrArg (Value.int .u64) (by first | exact sOr_form hn (by omega) (by omega) | (rw [e6]; exact sOr_form hn (by omega) (by omega))), by go_num, orU_lt hn, by omega, ?_, hR2, by omega, kk hK hK1⟩, by simp [intOf]; omega⟩
      refine hinv.out.comp hrel.out (fun h => ?_) (fun h => ?_)
      · rw [byte_cons h, show 8 - i = (8 - (i + 1)) + 1 by omega, sLow]
      · rw [byte_nil h, show 8 - i = (7 - i) + 1 by omega, sLow]
    · obtain rfl : i = 8 := by omega
      go_wp2
      go_ret
      exact ⟨hK, n, at1, bad1, rfl, hn, hR1, hat1, hinv.out.rel rfl⟩

end Go.Proofs.Ythjddpkegooobab

/-
  SLOW: words are read back. Own work.
-/
namespace Go.Proofs.Ythjddpkegooobab
open Go.RowKit

theorem sLow_back : ∀ (k i a m : Nat) (r : List Nat), i + k = 8 → a < 2 ^ (8 * i) → sLow k i a (lowB k m ++ r) = some (a + m % 2 ^ (8 * k) * 2 ^ (8 * i), r)
  | 0, i, a, m, r, _, _ => by
    show some (_, r) = _
    simp [Nat.mod_one]
  | k + 1, i, a, m, r, hk, ha => by
    show sLow k (i + 1) (orU a (m % 256) (8 * i)) (lowB k (m / 256) ++ r) = _
    have hp : 2 ^ (8 * (i + 1)) = 2 ^ (8 * i) * 256 := by rw [show 8 * (i + 1) = 8 * i + 8 by omega, Nat.pow_add]
    have hlt : a + m % 256 * 2 ^ (8 * i) < 2 ^ (8 * (i + 1)) := by
      have h1 : (m % 256 + 1) * 2 ^ (8 * i) ≤ 256 * 2 ^ (8 * i) := Nat.mul_le_mul_right _ (by omega)
      rw [Nat.add_mul] at h1
      rw [hp, Nat.mul_comm (2 ^ (8 * i)) 256]
      omega
    have h64 : 2 ^ (8 * (i + 1)) ≤ 2 ^ 64 := Nat.pow_le_pow_right (by omega) (by omega)
    rw [orU_join ha (by omega) (by omega), sLow_back k (i + 1) _ (m / 256) r (by omega) hlt]
    congr 2
    have e1 : m % 2 ^ (8 * (k + 1)) = m % 256 + m / 256 % 2 ^ (8 * k) * 256 := by
      rw [show 2 ^ (8 * (k + 1)) = 256 * 2 ^ (8 * k) by rw [show 8 * (k + 1) = 8 + 8 * k by omega, Nat.pow_add], Nat.mod_mul]
      omega
    rw [e1, hp, Nat.add_mul, Nat.mul_assoc, Nat.mul_comm 256 (2 ^ (8 * i)), Nat.add_assoc]

end Go.Proofs.Ythjddpkegooobab

/-
  SEQUAL: the specification's comparing of bytes. Own work.
-/
namespace Go.Proofs.Ythjddpkegooobab
open Go.RowKit


set_option maxRecDepth 100000 in
theorem l2equal_any (a a' : Option Addr) (xs ys : List Nat) (c c' : Nat) (w : World) (hl : xs.length ≤ maxLen) (_hl' : ys.length ≤ maxLen) (ha : BytesAt w a xs) (ha' : BytesAt w a' ys) :
    Calls Try.prog 85 #[.slice a xs.length c, .slice a' ys.length c'] w fun e w' => e = .returned (.bool (decide (xs = ys))) ∧ Below w.heap.size w w' := by
  unfold maxLen at hl
  by_cases hne : xs.length = ys.length
  · have hd : ((xs.length : Int) != (ys.length : Int)) = false := by rw [hne]; simp
    have hne' : Hid _ := hne
    clear hne
    go_enter Try.func85, Try.ntmps85
    go_wp2
    go_loopw [13] (fun i ws => ∃ (k : Nat), i = .int .i64 k ∧ k ≤ xs.length ∧ Hid (∀ j, j < k → xs[j]! = ys[j]!) ∧ Below w.heap.size w ws) (fun i _ => xs.length - (intOf i).toNat)
    case atStart => exact ⟨0, rfl, Nat.zero_le _, fun j hj => absurd hj (Nat.not_lt_zero _), gre _⟩
    case round =>
      obtain ⟨k, rfl, hk, hall, hb⟩ := hrel
      by_cases hlt : k < xs.length
      · obtain ⟨x, b, off, hxk, hxm, rfl, hc⟩ := (ha.grow hb).get hlt
        obtain ⟨y, b', off', hyk, hym, rfl, hc'⟩ := (ha'.grow hb).get (k := k) (by rw [← hne'.out]; exact hlt)
        have hlt' : k < ys.length := by rw [← hne'.out]; exact hlt
        by_cases hxy : x = y
        · subst hxy
          have hn2 : ((x : Int) != (x : Int)) = false := by simp
          go_wp2_with (go_quiet (fail))
          go_roundw
          case rel =>
            refine ⟨k + 1, by go_num, by omega, fun j hj => ?_, hb.trans ⟨rfl, rfl, rfl, Nat.le_refl _, fun _ _ => rfl⟩⟩
            by_cases e : j = k
            · rw [e, ← hxk.out, ← hyk.out]
            · exact hall.out j (by omega)
          case measure => simp [intOf]; omega
        · have hn2 : ((x : Int) != (y : Int)) = true := by simp; omega
          have hdec : Hid (decide (xs = ys) = false) := decide_eq_false (fun e => hxy (by rw [hxk.out, hyk.out, e]))
          go_wp2_with (go_quiet (fail))
          go_ret
          exact ⟨by rw [hdec.out]; rfl, hb.trans ⟨rfl, rfl, rfl, Nat.le_refl _, fun _ _ => rfl⟩⟩
      · have hdec : Hid (decide (xs = ys) = true) := decide_eq_true (List.ext_getElem hne'.out (fun i h1 h2 => by
          have := hall.out i (by omega)
          rwa [getElem!_pos xs i h1, getElem!_pos ys i h2] at this))
        go_wp2
        go_ret
        exact ⟨by rw [hdec.out]; rfl, hb⟩
  · have hd : ((xs.length : Int) != (ys.length : Int)) = true := by simp; omega
    have hdec : Hid (decide (xs = ys) = false) := decide_eq_false (fun e => hne (by rw [e]))
    go_enter Try.func85, Try.ntmps85
    go_wp2
    go_ret
    exact ⟨by rw [hdec.out]; rfl, gre _⟩

end Go.Proofs.Ythjddpkegooobab

/-
  DPLAIN: disks as lists, and how they lie in memory. Own work.
-/
namespace Go.Proofs.Ythjddpkegooobab
open Go.RowKit

structure DW where
  block : Int
  bytes : List Nat
  deriving Inhabited

structure DD where
  blocks : List (List Nat)
  waiting : List DW
  deriving Inhabited

structure BOk (b : List Nat) : Prop where
  len : b.length ≤ maxLen
  byte : ∀ x, x ∈ b → x < 256

structure DD.Ok (d : DD) : Prop where
  bl : d.blocks.length ≤ maxLen
  bb : ∀ b, b ∈ d.blocks → BOk b
  wl : d.waiting.length ≤ maxLen
  wi : ∀ x, x ∈ d.waiting → I64 x.block
  wb : ∀ x, x ∈ d.waiting → BOk x.bytes

def szBs : List (List Nat) → Int
  | [] => 0
  | b :: r => b.length + szBs r
def szWs : List DW → Int
  | [] => 0
  | x :: r => x.bytes.length + szWs r
def DD.sz (d : DD) : Int := (d.blocks.length + szBs d.blocks) + (d.waiting.length + szWs d.waiting)

theorem szBs_nonneg (l : List (List Nat)) : 0 ≤ szBs l := by
  induction l with
  | nil => simp [szBs]
  | cons v r ih => simp only [szBs]; omega
theorem szWs_nonneg (l : List DW) : 0 ≤ szWs l := by
  induction l with
  | nil => simp [szWs]
  | cons v r ih => simp only [szWs]; omega
theorem szBs_append (a b : List (List Nat)) : szBs (a ++ b) = szBs a + szBs b := by
  induction a with
  | nil => simp [szBs]
  | cons v r ih => simp only [List.cons_append, szBs, ih]; omega
theorem szWs_append (a b : List DW) : szWs (a ++ b) = szWs a + szWs b := by
  induction a with
  | nil => simp [szWs]
  | cons v r ih => simp only [List.cons_append, szWs, ih]; omega
theorem szBs_take_succ (l : List (List Nat)) (k : Nat) (h : k < l.length) : szBs (l.take (k + 1)) = szBs (l.take k) + l[k]!.length := by
  rw [take_snoc l k h, szBs_append]; simp [szBs]
theorem szWs_take_succ (l : List DW) (k : Nat) (h : k < l.length) : szWs (l.take (k + 1)) = szWs (l.take k) + l[k]!.bytes.length := by
  rw [take_snoc l k h, szWs_append]; simp [szWs]
theorem szBs_take_le (l : List (List Nat)) (k : Nat) : szBs (l.take k) ≤ szBs l := by
  have h : szBs l = szBs (l.take k) + szBs (l.drop k) := by rw [← szBs_append, List.take_append_drop]
  have := szBs_nonneg (l.drop k); omega
theorem szWs_take_le (l : List DW) (k : Nat) : szWs (l.take k) ≤ szWs l := by
  have h : szWs l = szWs (l.take k) + szWs (l.drop k) := by rw [← szWs_append, List.take_append_drop]
  have := szWs_nonneg (l.drop k); omega
theorem szBs_mem {l : List (List Nat)} {b : List Nat} (h : b ∈ l) : (b.length : Int) ≤ szBs l := by
  induction l with
  | nil => cases h
  | cons x r ih =>
    have := szBs_nonneg r
    simp only [szBs]
    cases List.mem_cons.1 h with
    | inl e => subst e; omega
    | inr e => have := ih e; omega
theorem szWs_mem {l : List DW} {x : DW} (h : x ∈ l) : (x.bytes.length : Int) ≤ szWs l := by
  induction l with
  | nil => cases h
  | cons y r ih =>
    have := szWs_nonneg r
    simp only [szWs]
    cases List.mem_cons.1 h with
    | inl e => subst e; omega
    | inr e => have := ih e; omega

/-- what a size at most so great says of the parts -/
structure DD.Small (d : DD) : Prop where
  bl : d.blocks.length ≤ 1048576
  bb : ∀ b, b ∈ d.blocks → b.length ≤ 1048576
  wl : d.waiting.length ≤ 1048576
  wb : ∀ x, x ∈ d.waiting → x.bytes.length ≤ 1048576
theorem DD.small {d : DD} (h : d.sz ≤ 1048576) : d.Small := by
  have h1 := szBs_nonneg d.blocks
  have h2 := szWs_nonneg d.waiting
  unfold DD.sz at h
  exact ⟨by omega, fun b hb => by have := szBs_mem hb; omega, by omega, fun x hx => by have := szWs_mem hx; omega⟩

/-- lists of bytes at a place -/
def BlksAt (w : World) (a : Option Addr) (ls : List (List Nat)) : Prop :=
  ∀ i, i < ls.length → ∃ b off a' cap, a = some ⟨b, off, none⟩ ∧ w.cell? ⟨b, off + i, none⟩ = some (.slice a' ls[i]!.length cap) ∧ BytesAt w a' ls[i]!
theorem BlksAt.get {w : World} {a : Option Addr} {ls : List (List Nat)} (h : BlksAt w a ls) {k : Nat} (hk : k < ls.length) :
    ∃ l b off a' cap, Hid (l = ls[k]!) ∧ l ∈ ls ∧ a = some ⟨b, off, none⟩ ∧ w.cell? ⟨b, off + k, none⟩ = some (.slice a' l.length cap) ∧ BytesAt w a' l := by
  obtain ⟨b, off, a', cap, ha, hc, hb⟩ := h k hk
  exact ⟨ls[k]!, b, off, a', cap, rfl, mem_at hk, ha, hc, hb⟩
theorem BlksAt.grow {w w' : World} {a : Option Addr} {ls : List (List Nat)} (h : BlksAt w a ls) (hb : Below w.heap.size w w') : BlksAt w' a ls := fun i hi => by
  obtain ⟨b, off, a', cap, ha, hc, hx⟩ := h i hi
  exact ⟨b, off, a', cap, ha, (World.cell?_of_block (w := w) (hb.block b (World.block_lt_of_cell? _ _ hc))).trans hc, hx.grow hb⟩

/-- writes at a place -/
def WrsAt (w : World) (a : Option Addr) (ls : List DW) : Prop :=
  ∀ i, i < ls.length → ∃ b off a' cap, a = some ⟨b, off, none⟩ ∧ w.cell? ⟨b, off + i * 2, none⟩ = some (.int .i64 ls[i]!.block) ∧ w.cell? ⟨b, off + i * 2 + 1, none⟩ = some (.slice a' ls[i]!.bytes.length cap) ∧ BytesAt w a' ls[i]!.bytes
theorem WrsAt.get {w : World} {a : Option Addr} {ls : List DW} (h : WrsAt w a ls) {k : Nat} (hk : k < ls.length) :
    ∃ x b off a' cap, Hid (x = ls[k]!) ∧ x ∈ ls ∧ a = some ⟨b, off, none⟩ ∧ w.cell? ⟨b, off + k * 2, none⟩ = some (.int .i64 x.block) ∧ w.cell? ⟨b, off + k * 2 + 1, none⟩ = some (.slice a' x.bytes.length cap) ∧ BytesAt w a' x.bytes := by
  obtain ⟨b, off, a', cap, ha, hc, hc2, hb⟩ := h k hk
  exact ⟨ls[k]!, b, off, a', cap, rfl, mem_at hk, ha, hc, hc2, hb⟩
theorem WrsAt.grow {w w' : World} {a : Option Addr} {ls : List DW} (h : WrsAt w a ls) (hb : Below w.heap.size w w') : WrsAt w' a ls := fun i hi => by
  obtain ⟨b, off, a', cap, ha, hc, hc2, hx⟩ := h i hi
  exact ⟨b, off, a', cap, ha, (World.cell?_of_block (w := w) (hb.block b (World.block_lt_of_cell? _ _ hc))).trans hc, (World.cell?_of_block (w := w) (hb.block b (World.block_lt_of_cell? _ _ hc2))).trans hc2, hx.grow hb⟩

/-- a disk, and where it lies -/
structure DL where
  ba : Option Addr
  bc : Nat
  wa : Option Addr
  wc : Nat
abbrev DD.val (d : DD) (l : DL) : Value := .agg #[.slice l.ba d.blocks.length l.bc, .slice l.wa d.waiting.length l.wc]
abbrev DW.val (x : DW) (a : Option Addr) (cap : Nat) : Value := .agg #[.int .i64 x.block, .slice a x.bytes.length cap]
structure DAt (w : World) (l : DL) (d : DD) : Prop where
  b : BlksAt w l.ba d.blocks
  w : WrsAt w l.wa d.waiting
theorem DAt.grow {w w' : World} {l : DL} {d : DD} (h : DAt w l d) (hb : Below w.heap.size w w') : DAt w' l d := ⟨h.b.grow hb, h.w.grow hb⟩

/-- a disk's own variable -/
structure DBox (w : World) (p : Nat) (d : DD) (l : DL) : Prop where
  lt : p < w.heap.size
  c0 : w.cell? ⟨p, 0, none⟩ = some (.slice l.ba d.blocks.length l.bc)
  c1 : w.cell? ⟨p, 1, none⟩ = some (.slice l.wa d.waiting.length l.wc)
theorem DBox.same {w w' : World} {p : Nat} {d : DD} {l : DL} (h : DBox w p d l) (e : w'.heap[p]? = w.heap[p]?) (hs : p < w'.heap.size) : DBox w' p d l :=
  ⟨hs, (World.cell?_of_block (w := w) e).trans h.c0, (World.cell?_of_block (w := w) e).trans h.c1⟩
theorem DBox.grow {w w' : World} {p : Nat} {d : DD} {l : DL} (h : DBox w p d l) (hb : Below w.heap.size w w') : DBox w' p d l := h.same (hb.block p h.lt) (Nat.lt_of_lt_of_le h.lt hb.size)
theorem DBox.kept {q : Nat → Prop} {w w' : World} {p : Nat} {d : DD} {l : DL} (h : DBox w p d l) (k : Kept q w w') (hn : ¬ q p) : DBox w' p d l := h.same (k.block p h.lt hn) (Nat.lt_of_lt_of_le h.lt k.size)
theorem DBox.new (w : World) (d : DD) (l : DL) (t : TypeId) : DBox (w.alloc (.cells #[.slice l.ba d.blocks.length l.bc, .slice l.wa d.waiting.length l.wc] t)) w.heap.size d l := ⟨by simp, by simp, by simp⟩

end Go.Proofs.Ythjddpkegooobab

/-
  DOK: both DiskOk. Own work.
-/
namespace Go.Proofs.Ythjddpkegooobab
open Go.RowKit

/-- a write that a disk may have -/
def wrOk (x : DW) : Bool := decide (0 ≤ x.block) && decide (x.block < 130) && decide (x.bytes.length = 64)
def blOk (b : List Nat) : Bool := decide (b.length = 64)
def DD.ok (d : DD) : Bool := decide (d.blocks.length = 130) && decide (d.waiting.length ≤ 200) && d.blocks.all blOk && d.waiting.all wrOk

theorem dall_take_succ {α : Type} [Inhabited α] (p : α → Bool) (l : List α) (k : Nat) (h : k < l.length) : (l.take (k + 1)).all p = ((l.take k).all p && p l[k]!) := by
  rw [take_snoc l k h]; simp
theorem all_take_false {α : Type} [Inhabited α] (p : α → Bool) (l : List α) (k : Nat) (h : k < l.length) (hp : p l[k]! = false) : l.all p = false := by
  rw [List.all_eq_false]
  exact ⟨l[k]!, mem_at h, by rw [hp]; exact Bool.false_ne_true⟩

set_option maxRecDepth 100000 in
theorem hasBlock_any (b : Int) (w : World) (_hb : I64 b) :
    Calls Try.prog 110 #[.int .i64 b] w fun e w' => e = .returned (.bool (decide (0 ≤ b) && decide (b < 130))) ∧ Below w.heap.size w w' := by
  by_cases h0 : b < 0
  · have h1 : ¬ (b ≥ 0) := by omega
    go_enter Try.func110, Try.ntmps110
    go_wp2
    all_goals go_ret
    all_goals exact ⟨by simp; omega, by first | exact gre _ | exact gal (gre _) _⟩
  · have h1 : b ≥ 0 := by omega
    by_cases h2 : b < 130
    · go_enter Try.func110, Try.ntmps110
      go_wp2
      all_goals go_ret
      all_goals exact ⟨by simp [], by first | exact gre _ | exact gal (gre _) _⟩
    · go_enter Try.func110, Try.ntmps110
      go_wp2
      all_goals go_ret
      all_goals exact ⟨by simp; omega, by first | exact gre _ | exact gal (gre _) _⟩

end Go.Proofs.Ythjddpkegooobab

/-
  DSEM: what disks do, plainly. Own work.
-/
namespace Go.Proofs.Ythjddpkegooobab

/-- a write carried out -/
def setB (bl : List (List Nat)) (x : DW) : List (List Nat) := bl.set x.block.toNat x.bytes
/-- the blocks behind the first j writes, of which those are carried out that are kept -/
def settleN (keep : Nat → Bool) (bl : List (List Nat)) (ws : List DW) : Nat → List (List Nat)
  | 0 => bl
  | j + 1 => if keep j = true then setB (settleN keep bl ws j) ws[j]! else settleN keep bl ws j
/-- what a block reads as behind the first j writes -/
def readN (bl : List (List Nat)) (ws : List DW) (b : Int) : Nat → List Nat
  | 0 => bl[b.toNat]!
  | j + 1 => if ws[j]!.block = b then ws[j]!.bytes else readN bl ws b j

def zeroD : DD := ⟨[], []⟩
def blankD : DD := ⟨List.replicate 130 (List.replicate 64 0), []⟩
def DD.put (d : DD) (b : Int) (bs : List Nat) : DD := if (d.ok && wrOk ⟨b, bs⟩ && decide (d.waiting.length ≠ 200)) = true then ⟨d.blocks, d.waiting ++ [⟨b, bs⟩]⟩ else zeroD
def DD.settle (d : DD) (keep : Nat → Bool) : DD := if d.ok = true then ⟨settleN keep d.blocks d.waiting d.waiting.length, []⟩ else zeroD
def DD.read (d : DD) (b : Int) : List Nat := if (d.ok && (decide (0 ≤ b) && decide (b < 130))) = true then readN d.blocks d.waiting b d.waiting.length else []

structure DD.Fit (d : DD) : Prop where
  bl : d.blocks.length = 130
  wl : d.waiting.length ≤ 200
  bb : ∀ b, b ∈ d.blocks → b.length = 64
  wb : ∀ x, x ∈ d.waiting → 0 ≤ x.block ∧ x.block < 130 ∧ x.bytes.length = 64
theorem DD.fit {d : DD} (h : d.ok = true) : d.Fit := by
  unfold DD.ok at h
  simp only [Bool.and_eq_true, decide_eq_true_eq, List.all_eq_true] at h
  obtain ⟨⟨⟨h1, h2⟩, h3⟩, h4⟩ := h
  refine ⟨h1, h2, fun b hb => by simpa [blOk] using h3 b hb, fun x hx => ?_⟩
  have := h4 x hx
  simp only [wrOk, Bool.and_eq_true, decide_eq_true_eq] at this
  exact ⟨this.1.1, this.1.2, this.2⟩

theorem setB_length (bl : List (List Nat)) (x : DW) : (setB bl x).length = bl.length := by simp [setB]
theorem settleN_length (keep : Nat → Bool) (bl : List (List Nat)) (ws : List DW) : ∀ j, (settleN keep bl ws j).length = bl.length
  | 0 => rfl
  | j + 1 => by
    simp only [settleN]
    split
    · rw [setB_length, settleN_length keep bl ws j]
    · exact settleN_length keep bl ws j
theorem setB_all {p : List Nat → Prop} {bl : List (List Nat)} {x : DW} (h : ∀ b, b ∈ bl → p b) (hx : p x.bytes) : ∀ b, b ∈ setB bl x → p b := fun b hb => by
  rcases List.mem_or_eq_of_mem_set hb with h1 | h1
  · exact h b h1
  · rw [h1]; exact hx
theorem settleN_all {p : List Nat → Prop} {keep : Nat → Bool} {bl : List (List Nat)} {ws : List DW} (h : ∀ b, b ∈ bl → p b) (hw : ∀ x, x ∈ ws → p x.bytes) : ∀ j, j ≤ ws.length → ∀ b, b ∈ settleN keep bl ws j → p b
  | 0, _ => h
  | j + 1, hj => by
    simp only [settleN]
    split
    · exact setB_all (settleN_all h hw j (by omega)) (hw _ (mem_at (by omega)))
    · exact settleN_all h hw j (by omega)
theorem setB_get {bl : List (List Nat)} {x : DW} {i : Nat} (hi : i < bl.length) : (setB bl x)[i]! = if i = x.block.toNat then x.bytes else bl[i]! := by
  rw [getElem!_pos _ i (by rw [setB_length]; exact hi), getElem!_pos bl i hi]
  simp only [setB, List.getElem_set]
  split
  · rename_i e; rw [if_pos e.symm]
  · rename_i e; rw [if_neg (fun e2 => e e2.symm)]
theorem readN_mem {p : List Nat → Prop} {bl : List (List Nat)} {ws : List DW} {b : Int} (h : ∀ x, x ∈ bl → p x) (hw : ∀ x, x ∈ ws → p x.bytes) (hb : b.toNat < bl.length) : ∀ j, j ≤ ws.length → p (readN bl ws b j)
  | 0, _ => h _ (mem_at hb)
  | j + 1, hj => by
    simp only [readN]
    split
    · exact hw _ (mem_at (by omega))
    · exact readN_mem h hw hb j (by omega)

end Go.Proofs.Ythjddpkegooobab

/-
  DMARKS: disks in memory of their own. Own work.
-/
namespace Go.Proofs.Ythjddpkegooobab
open Go.RowKit

set_option maxRecDepth 100000 in
theorem info_bytes : (Try.prog.info? 28).map (fun i => (i.zero, i.size, i.bytes)) = some (some (.slice none 0 0), 1, 24) := by kernel_rfl
set_option maxRecDepth 100000 in
theorem info_implWrite : (Try.prog.info? 133).map (fun i => (i.zero, i.size, i.bytes)) = some (some (.agg #[.int .i64 0, .slice none 0 0]), 2, 32) := by kernel_rfl
/-- two places that are not one block -/
def Apart (a a' : Option Addr) : Prop := ∀ b, a = some ⟨b, 0, none⟩ → a' ≠ some ⟨b, 0, none⟩
theorem Apart.symm {a a' : Option Addr} (h : Apart a a') : Apart a' a := fun b hb hx => h b hx hb

/-- bytes in a row of their own between two bounds -/
def BB (w : World) (lo hi : Nat) (oa : Option Addr) (bs : List Nat) : Prop := bs = [] ∨ ∃ G n, oa = some ⟨G, 0, none⟩ ∧ lo ≤ G ∧ G < hi ∧ BRow w G n bs
theorem BB.bytes {w : World} {lo hi : Nat} {oa : Option Addr} {bs : List Nat} (h : BB w lo hi oa bs) : BytesAt w oa bs := by
  rcases h with rfl | ⟨G, n, rfl, _, _, h⟩
  · exact fun i hi => absurd hi (Nat.not_lt_zero _)
  · exact brow_bytes h
theorem BB.kept {p : Nat → Prop} {w w' : World} {lo hi : Nat} {oa : Option Addr} {bs : List Nat} (h : BB w lo hi oa bs) (k : Kept p w w') (hn : ∀ b, oa = some ⟨b, 0, none⟩ → bs ≠ [] → ¬ p b) : BB w' lo hi oa bs := by
  by_cases e : bs = []
  · exact Or.inl e
  · rcases h with h | ⟨G, n, h1, h2, h3, h4⟩
    · exact Or.inl h
    · exact Or.inr ⟨G, n, h1, h2, h3, h4.kept k (hn G h1 e)⟩
theorem BB.mono {w : World} {lo hi lo' hi' : Nat} {oa : Option Addr} {bs : List Nat} (h : BB w lo hi oa bs) (h1 : lo' ≤ lo) (h2 : hi ≤ hi') : BB w lo' hi' oa bs := by
  rcases h with h | ⟨G, n, a1, a2, a3, a4⟩
  · exact Or.inl h
  · exact Or.inr ⟨G, n, a1, by omega, by omega, a4⟩

/-- lists of bytes that may be marked -/
structure MBs (w : World) (lo hi : Nat) (a : Option Addr) (n : Nat) (F : Nat → List Nat) (fa : Nat → Option Addr) (fc : Nat → Nat) : Prop where
  row : 0 < n → ∃ g m f, a = some ⟨g, 0, none⟩ ∧ lo ≤ g ∧ g < hi ∧ w.rowIs g 28 m f ∧ n ≤ m ∧ ∀ i, i < n → f i = .slice (fa i) (F i).length (fc i)
  byt : ∀ i, i < n → BB w lo hi (fa i) (F i)
  far : ∀ i j, i < j → j < n → Apart (fa i) (fa j)
/-- writes that may be marked -/
structure MWs (w : World) (lo hi : Nat) (a : Option Addr) (n : Nat) (B : Nat → Int) (F : Nat → List Nat) (fa : Nat → Option Addr) (fc : Nat → Nat) : Prop where
  row : 0 < n → ∃ g m f, a = some ⟨g, 0, none⟩ ∧ lo ≤ g ∧ g < hi ∧ w.rowIs g 133 m f ∧ n * 2 ≤ m ∧ ∀ i, i < n → f (i * 2) = .int .i64 (B i) ∧ f (i * 2 + 1) = .slice (fa i) (F i).length (fc i)
  byt : ∀ i, i < n → BB w lo hi (fa i) (F i)
  far : ∀ i j, i < j → j < n → Apart (fa i) (fa j)

theorem MBs.ne {w : World} {lo hi : Nat} {a : Option Addr} {n : Nat} {F : Nat → List Nat} {fa : Nat → Option Addr} {fc : Nat → Nat} (h : MBs w lo hi a n F fa fc) {i j : Nat} (hi : i < n) (hj : j < n) (hij : i ≠ j) : Apart (fa i) (fa j) := by
  rcases Nat.lt_or_gt_of_ne hij with e | e
  · exact h.far i j e hj
  · exact (h.far j i e hi).symm
theorem MWs.ne {w : World} {lo hi : Nat} {a : Option Addr} {n : Nat} {B : Nat → Int} {F : Nat → List Nat} {fa : Nat → Option Addr} {fc : Nat → Nat} (h : MWs w lo hi a n B F fa fc) {i j : Nat} (hi : i < n) (hj : j < n) (hij : i ≠ j) : Apart (fa i) (fa j) := by
  rcases Nat.lt_or_gt_of_ne hij with e | e
  · exact h.far i j e hj
  · exact (h.far j i e hi).symm

/-- a block of bytes -/
def IsB (w : World) (b : Nat) : Prop := ∃ c, w.heap[b]? = some (.cells c 5 (0, 0))
def IsW (w : World) (b : Nat) : Prop := ∃ c, w.heap[b]? = some (.cells c 133 (0, 0))
theorem BRow.isB {w : World} {a n : Nat} {xs : List Nat} (h : BRow w a n xs) : IsB w a := let ⟨c, hc, _⟩ := h; ⟨c, hc⟩
theorem rowIs_isW {w : World} {b n : Nat} {f : Nat → Value} (h : w.rowIs b 133 n f) : IsW w b := let ⟨c, hc, _⟩ := h; ⟨c, hc⟩
theorem not_B_of_bs {w : World} {b n : Nat} {f : Nat → Value} (h : w.rowIs b 28 n f) : ¬ IsB w b := fun ⟨c, hc⟩ => by
  obtain ⟨c', hc', _⟩ := h
  rw [hc] at hc'
  simp at hc'
theorem not_W_of_bs {w : World} {b n : Nat} {f : Nat → Value} (h : w.rowIs b 28 n f) : ¬ IsW w b := fun ⟨c, hc⟩ => by
  obtain ⟨c', hc', _⟩ := h
  rw [hc] at hc'
  simp at hc'
theorem not_B_of_W {w : World} {b : Nat} (h : IsW w b) : ¬ IsB w b := fun ⟨c, hc⟩ => by
  obtain ⟨c', hc'⟩ := h
  rw [hc] at hc'
  simp at hc'

/-- the bytes' blocks of a list -/
def TB (n : Nat) (F : Nat → List Nat) (fa : Nat → Option Addr) (b : Nat) : Prop := ∃ i, i < n ∧ F i ≠ [] ∧ fa i = some ⟨b, 0, none⟩

theorem MBs.tb {w : World} {lo hi : Nat} {a : Option Addr} {n : Nat} {F : Nat → List Nat} {fa : Nat → Option Addr} {fc : Nat → Nat} (h : MBs w lo hi a n F fa fc) {b : Nat} (hb : TB n F fa b) : lo ≤ b ∧ b < hi ∧ IsB w b := by
  obtain ⟨i, hi, hn, e⟩ := hb
  rcases h.byt i hi with h0 | ⟨G, m, h1, h2, h3, h4⟩
  · exact absurd h0 hn
  · rw [e] at h1
    obtain rfl := some_addr h1
    exact ⟨h2, h3, h4.isB⟩
theorem MWs.tb {w : World} {lo hi : Nat} {a : Option Addr} {n : Nat} {B : Nat → Int} {F : Nat → List Nat} {fa : Nat → Option Addr} {fc : Nat → Nat} (h : MWs w lo hi a n B F fa fc) {b : Nat} (hb : TB n F fa b) : lo ≤ b ∧ b < hi ∧ IsB w b := by
  obtain ⟨i, hi, hn, e⟩ := hb
  rcases h.byt i hi with h0 | ⟨G, m, h1, h2, h3, h4⟩
  · exact absurd h0 hn
  · rw [e] at h1
    obtain rfl := some_addr h1
    exact ⟨h2, h3, h4.isB⟩

theorem MBs.kept {p : Nat → Prop} {w w' : World} {lo hi : Nat} {a : Option Addr} {n : Nat} {F : Nat → List Nat} {fa : Nat → Option Addr} {fc : Nat → Nat} (h : MBs w lo hi a n F fa fc) (k : Kept p w w') (hr : ∀ b m f, a = some ⟨b, 0, none⟩ → w.rowIs b 28 m f → ¬ p b) (hn : ∀ b, TB n F fa b → ¬ p b) : MBs w' lo hi a n F fa fc :=
  ⟨fun h0 => let ⟨g, m, f, h1, h2, h3, h4, h5⟩ := h.row h0; ⟨g, m, f, h1, h2, h3, k.rowIs h4 (hr g m f h1 h4), h5⟩, fun i hi => (h.byt i hi).kept k (fun b hb hne => hn b ⟨i, hi, hne, hb⟩), h.far⟩
theorem MWs.kept {p : Nat → Prop} {w w' : World} {lo hi : Nat} {a : Option Addr} {n : Nat} {B : Nat → Int} {F : Nat → List Nat} {fa : Nat → Option Addr} {fc : Nat → Nat} (h : MWs w lo hi a n B F fa fc) (k : Kept p w w') (hr : ∀ b m f, a = some ⟨b, 0, none⟩ → w.rowIs b 133 m f → ¬ p b) (hn : ∀ b, TB n F fa b → ¬ p b) : MWs w' lo hi a n B F fa fc :=
  ⟨fun h0 => let ⟨g, m, f, h1, h2, h3, h4, h5⟩ := h.row h0; ⟨g, m, f, h1, h2, h3, k.rowIs h4 (hr g m f h1 h4), h5⟩, fun i hi => (h.byt i hi).kept k (fun b hb hne => hn b ⟨i, hi, hne, hb⟩), h.far⟩

theorem BB.range {w : World} {lo hi : Nat} {oa : Option Addr} {bs : List Nat} (h : BB w lo hi oa bs) {b : Nat} (e : oa = some ⟨b, 0, none⟩) (hn : bs ≠ []) : lo ≤ b ∧ b < hi := by
  rcases h with h0 | ⟨G, m, h1, h2, h3, _⟩
  · exact absurd h0 hn
  · rw [e] at h1
    obtain rfl := some_addr h1
    exact ⟨h2, h3⟩
theorem MBs.out {p : Nat → Prop} {w w' : World} {lo hi : Nat} {a : Option Addr} {n : Nat} {F : Nat → List Nat} {fa : Nat → Option Addr} {fc : Nat → Nat} (h : MBs w lo hi a n F fa fc) (k : Kept p w w') (hp : ∀ b, lo ≤ b → b < hi → ¬ p b) : MBs w' lo hi a n F fa fc :=
  ⟨fun h0 => let ⟨g, m, f, h1, h2, h3, h4, h5⟩ := h.row h0; ⟨g, m, f, h1, h2, h3, k.rowIs h4 (hp g h2 h3), h5⟩, fun i hi => (h.byt i hi).kept k (fun b hb hne => let r := (h.byt i hi).range hb hne; hp b r.1 r.2), h.far⟩
theorem MWs.out {p : Nat → Prop} {w w' : World} {lo hi : Nat} {a : Option Addr} {n : Nat} {B : Nat → Int} {F : Nat → List Nat} {fa : Nat → Option Addr} {fc : Nat → Nat} (h : MWs w lo hi a n B F fa fc) (k : Kept p w w') (hp : ∀ b, lo ≤ b → b < hi → ¬ p b) : MWs w' lo hi a n B F fa fc :=
  ⟨fun h0 => let ⟨g, m, f, h1, h2, h3, h4, h5⟩ := h.row h0; ⟨g, m, f, h1, h2, h3, k.rowIs h4 (hp g h2 h3), h5⟩, fun i hi => (h.byt i hi).kept k (fun b hb hne => let r := (h.byt i hi).range hb hne; hp b r.1 r.2), h.far⟩

theorem MBs.congr {w : World} {lo hi : Nat} {a : Option Addr} {n : Nat} {F G : Nat → List Nat} {fa : Nat → Option Addr} {fc : Nat → Nat} (h : MBs w lo hi a n F fa fc) (e : ∀ i, i < n → G i = F i) : MBs w lo hi a n G fa fc :=
  ⟨fun h0 => let ⟨g, m, f, h1, h2, h3, h4, h5, h6⟩ := h.row h0; ⟨g, m, f, h1, h2, h3, h4, h5, fun i hi => by rw [e i hi]; exact h6 i hi⟩, fun i hi => by rw [e i hi]; exact h.byt i hi, h.far⟩
theorem MWs.congr {w : World} {lo hi : Nat} {a : Option Addr} {n : Nat} {B C : Nat → Int} {F G : Nat → List Nat} {fa : Nat → Option Addr} {fc : Nat → Nat} (h : MWs w lo hi a n B F fa fc) (eB : ∀ i, i < n → C i = B i) (e : ∀ i, i < n → G i = F i) : MWs w lo hi a n C G fa fc :=
  ⟨fun h0 => let ⟨g, m, f, h1, h2, h3, h4, h5, h6⟩ := h.row h0; ⟨g, m, f, h1, h2, h3, h4, h5, fun i hi => by rw [e i hi, eB i hi]; exact h6 i hi⟩, fun i hi => by rw [e i hi]; exact h.byt i hi, h.far⟩

/-- a disk in memory of its own, between two bounds -/
structure MD (w : World) (lo hi : Nat) (l : DL) (d : DD) (fa ga : Nat → Option Addr) (fc gc : Nat → Nat) : Prop where
  b : MBs w lo hi l.ba d.blocks.length (fun i => d.blocks[i]!) fa fc
  w : MWs w lo hi l.wa d.waiting.length (fun i => d.waiting[i]!.block) (fun i => d.waiting[i]!.bytes) ga gc
  far : ∀ i j, i < d.blocks.length → j < d.waiting.length → Apart (fa i) (ga j)
theorem MD.out {p : Nat → Prop} {w w' : World} {lo hi : Nat} {l : DL} {d : DD} {fa ga : Nat → Option Addr} {fc gc : Nat → Nat} (h : MD w lo hi l d fa ga fc gc) (k : Kept p w w') (hp : ∀ b, lo ≤ b → b < hi → ¬ p b) : MD w' lo hi l d fa ga fc gc := ⟨h.b.out k hp, h.w.out k hp, h.far⟩
theorem MD.grow {w w' : World} {lo hi : Nat} {l : DL} {d : DD} {fa ga : Nat → Option Addr} {fc gc : Nat → Nat} (h : MD w lo hi l d fa ga fc gc) (hb : Below w.heap.size w w') : MD w' lo hi l d fa ga fc gc := h.out (Kept.of_below hb (fun _ => False)) (fun _ _ _ e => e)
theorem MBs.at_ {w : World} {lo hi : Nat} {a : Option Addr} {ls : List (List Nat)} {fa : Nat → Option Addr} {fc : Nat → Nat} (h : MBs w lo hi a ls.length (fun i => ls[i]!) fa fc) : BlksAt w a ls := fun i hi => by
  obtain ⟨g, m, f, h1, _, _, h4, h5, h6⟩ := h.row (by omega)
  refine ⟨g, 0, fa i, fc i, h1, ?_, (h.byt i hi).bytes⟩
  rw [Nat.zero_add, ← h6 i hi]
  exact h4.cell (by omega)
theorem MWs.at_ {w : World} {lo hi : Nat} {a : Option Addr} {ls : List DW} {fa : Nat → Option Addr} {fc : Nat → Nat} (h : MWs w lo hi a ls.length (fun i => ls[i]!.block) (fun i => ls[i]!.bytes) fa fc) : WrsAt w a ls := fun i hi => by
  obtain ⟨g, m, f, h1, _, _, h4, h5, h6⟩ := h.row (by omega)
  refine ⟨g, 0, fa i, fc i, h1, ?_, ?_, (h.byt i hi).bytes⟩
  · rw [Nat.zero_add, ← (h6 i hi).1]
    exact h4.cell (by omega)
  · rw [Nat.zero_add, ← (h6 i hi).2]
    exact h4.cell (by omega)
theorem MD.at_ {w : World} {lo hi : Nat} {l : DL} {d : DD} {fa ga : Nat → Option Addr} {fc gc : Nat → Nat} (h : MD w lo hi l d fa ga fc gc) : DAt w l d := ⟨h.b.at_, h.w.at_⟩

end Go.Proofs.Ythjddpkegooobab
