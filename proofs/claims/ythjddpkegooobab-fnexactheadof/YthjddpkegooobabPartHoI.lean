import Derived.WalkLawsBesides
import Derived.Deep.QuietTactic
import Derived.Test.YthjddpkegooobabPartHoH

/-
  RDOK: what is read fits; images are read back. Own work.
-/
namespace Go.Proofs.Ythjddpkegooobab

theorem zag_i64 {n : Nat} (h : n < 18446744073709551616) : I64 (zag n) := by unfold I64 zag; split <;> omega
theorem wrap_i64_ok (n : Int) : I64 (IntKind.i64.wrap n) := by rw [IntKind.wrap_i64]; unfold I64; omega
theorem orI_i64 (n : Int) (b i : Nat) : I64 (orI n b i) := wrap_i64_ok _
theorem rdLow_i64 : ∀ (k i : Nat) (n : Int) (r : List Nat) (x : Int) (q : List Nat), I64 n → rdLow k i n r = some (x, q) → I64 x
  | 0, _, n, r, x, q, hn, h => by
    have e : n = x ∧ r = q := by simpa [rdLow] using h
    rw [← e.1]; exact hn
  | k + 1, _, _, [], _, _, _, h => by cases h
  | k + 1, i, n, b :: r, x, q, _, h => rdLow_i64 k (i + 1) (orI n b i) r x q (orI_i64 n b i) h
theorem strB_sizeR (xs : List Nat) : (strB xs).size = xs.length := by unfold strB; rw [Go.strOfNums_size, List.length_map]
theorem small_i64 {n : Int} (h : 0 ≤ n ∧ n ≤ 1000000) : I64 n := by unfold I64; omega
theorem zero_ok {n : Nat} (h : n ≤ 4) (m : Int) (hm : I64 m) (t : ByteArray) (ht : t.size ≤ 1000) (d : Int) (hd : I64 d) : (GV.mk (n : Int) m t d).Ok := ⟨small_i64 (by show 0 ≤ (n : Int) ∧ (n : Int) ≤ 1000000; omega), hm, by show t.size ≤ maxLen; unfold maxLen; omega, hd⟩

theorem rdVal_ok {r q : List Nat} {v : GV} (h : rdVal r = some (v, q)) : v.Ok := by
  have h0 : I64 0 := small_i64 (by omega)
  have hz : (⟨#[]⟩ : ByteArray).size ≤ 1000 := Nat.zero_le _
  cases r with
  | nil => cases h
  | cons k t =>
    unfold rdVal at h
    dsimp only at h
    split at h
    · simp only [Option.some.injEq, Prod.mk.injEq] at h
      rw [← h.1]; exact zero_ok (n := 0) (by omega) 0 h0 _ hz 0 h0
    · split at h
      · cases hq : rdNum 0 0 t with
        | none => rw [hq] at h; cases h
        | some y =>
          rw [hq] at h
          simp only [Option.map_some, Option.some.injEq, Prod.mk.injEq] at h
          rw [← h.1]; exact zero_ok (n := 1) (by omega) _ (zag_i64 (rdNum_lt 0 0 t y.1 y.2 (by omega) hq)) _ hz 0 h0
      · split at h
        · cases hq : rdLow 8 0 0 t with
          | none => rw [hq] at h; cases h
          | some y =>
            rw [hq] at h
            simp only [Option.map_some, Option.some.injEq, Prod.mk.injEq] at h
            rw [← h.1]; exact zero_ok (n := 2) (by omega) _ (rdLow_i64 8 0 0 t y.1 y.2 h0 hq) _ hz 0 h0
        · split at h
          · cases hq : rdCount 1000 t with
            | none => rw [hq] at h; cases h
            | some y =>
              rw [hq, Option.bind_some] at h
              cases hq2 : rdText y.1 y.2 with
              | none => rw [hq2] at h; cases h
              | some z =>
                rw [hq2] at h
                simp only [Option.map_some, Option.some.injEq, Prod.mk.injEq] at h
                have hz1 : z.1.size ≤ 1000 := by
                  have h1 := rdCount_le (n := y.1) (q := y.2) hq
                  unfold rdText at hq2
                  split at hq2
                  · have e2 : strB (y.2.take y.1) = z.1 := by simpa using congrArg (fun o => o.map Prod.fst) hq2
                    rw [← e2, strB_sizeR, List.length_take]; omega
                  · cases hq2
                rw [← h.1]; exact zero_ok (n := 3) (by omega) 0 h0 _ hz1 0 h0
          · split at h
            · cases hq : rdCount 300 t with
              | none => rw [hq] at h; cases h
              | some y =>
                rw [hq] at h
                simp only [Option.map_some, Option.some.injEq, Prod.mk.injEq] at h
                have h1 := rdCount_le (n := y.1) (q := y.2) hq
                rw [← h.1]; exact zero_ok (n := 4) (by omega) 0 h0 _ hz _ (small_i64 (by omega))
            · cases h

theorem rdVals_ok : ∀ (m : Nat) (r q : List Nat) (vs : List GV), rdVals m r = some (vs, q) → vs.length = m ∧ ∀ v, v ∈ vs → v.Ok
  | 0, r, q, vs, h => by
    have e : [] = vs := by simpa [rdVals] using congrArg (fun o => o.map Prod.fst) h
    rw [← e]; exact ⟨rfl, fun v hv => by cases hv⟩
  | m + 1, r, q, vs, h => by
    rw [rdVals] at h
    cases hv : rdVal r with
    | none => rw [hv] at h; cases h
    | some x =>
      rw [hv, Option.bind_some] at h
      cases hw : rdVals m x.2 with
      | none => rw [hw] at h; cases h
      | some y =>
        rw [hw] at h
        have e : x.1 :: y.1 = vs := by simpa using congrArg (fun o => o.map Prod.fst) h
        obtain ⟨h1, h2⟩ := rdVals_ok m x.2 y.2 y.1 hw
        rw [← e]
        refine ⟨by rw [List.length_cons, h1], fun v hm => ?_⟩
        rcases List.mem_cons.1 hm with rfl | hm
        · exact rdVal_ok (q := x.2) hv
        · exact h2 v hm
theorem rdNode_ok {r q : List Nat} {n : GN} (h : rdNode r = some (n, q)) : n.Ok := by
  unfold rdNode at h
  cases ht : rdCount 1000 r with
  | none => rw [ht] at h; cases h
  | some t =>
    rw [ht, Option.bind_some] at h
    cases hm : rdCount 100 t.2 with
    | none => rw [hm] at h; cases h
    | some m =>
      rw [hm, Option.bind_some] at h
      cases hv : rdVals m.1 m.2 with
      | none => rw [hv] at h; cases h
      | some y =>
        rw [hv] at h
        have e : (⟨(t.1 : Int), y.1⟩ : GN) = n := by simpa using congrArg (fun o => o.map Prod.fst) h
        obtain ⟨h1, h2⟩ := rdVals_ok m.1 m.2 y.2 y.1 hv
        have h3 := rdCount_le (n := t.1) (q := t.2) ht
        have h4 := rdCount_le (n := m.1) (q := m.2) hm
        rw [← e]
        exact ⟨small_i64 (by show 0 ≤ (t.1 : Int) ∧ (t.1 : Int) ≤ 1000000; omega), by show y.1.length ≤ maxLen; unfold maxLen; omega, h2⟩
theorem rdNodes_ok : ∀ (m : Nat) (r q : List Nat) (ns : List GN), rdNodes m r = some (ns, q) → ns.length = m ∧ ∀ n, n ∈ ns → n.Ok
  | 0, r, q, vs, h => by
    have e : [] = vs := by simpa [rdNodes] using congrArg (fun o => o.map Prod.fst) h
    rw [← e]; exact ⟨rfl, fun v hv => by cases hv⟩
  | m + 1, r, q, vs, h => by
    rw [rdNodes] at h
    cases hv : rdNode r with
    | none => rw [hv] at h; cases h
    | some x =>
      rw [hv, Option.bind_some] at h
      cases hw : rdNodes m x.2 with
      | none => rw [hw] at h; cases h
      | some y =>
        rw [hw] at h
        have e : x.1 :: y.1 = vs := by simpa using congrArg (fun o => o.map Prod.fst) h
        obtain ⟨h1, h2⟩ := rdNodes_ok m x.2 y.2 y.1 hw
        rw [← e]
        refine ⟨by rw [List.length_cons, h1], fun v hm => ?_⟩
        rcases List.mem_cons.1 hm with rfl | hm
        · exact rdNode_ok (q := x.2) hv
        · exact h2 v hm
theorem rdGraph_ok {r q : List Nat} {g : GG} (h : rdGraph r = some (g, q)) : g.Ok := by
  unfold rdGraph at h
  cases ht : rdText 2 r with
  | none => rw [ht] at h; cases h
  | some t =>
    rw [ht, Option.bind_some] at h
    split at h
    · cases hm : rdCount 300 t.2 with
      | none => rw [hm] at h; cases h
      | some m =>
        rw [hm, Option.bind_some] at h
        cases hv : rdVal m.2 with
        | none => rw [hv] at h; cases h
        | some x =>
          rw [hv, Option.bind_some] at h
          cases hn : rdNodes m.1 x.2 with
          | none => rw [hn] at h; cases h
          | some y =>
            rw [hn] at h
            have e : (⟨x.1, y.1⟩ : GG) = g := by simpa using congrArg (fun o => o.map Prod.fst) h
            obtain ⟨h1, h2⟩ := rdNodes_ok m.1 x.2 y.2 y.1 hn
            have h4 := rdCount_le (n := m.1) (q := m.2) hm
            rw [← e]
            exact ⟨rdVal_ok (q := x.2) hv, by show y.1.length ≤ maxLen; unfold maxLen; omega, h2⟩
    · cases h

/-! images are read back -/
theorem rdVal_back {n : Nat} {v : GV} (hn : n ≤ 300) (ho : v.Ok) (h : okV n v = true) (r : List Nat) : rdVal (valB v ++ r) = some (v, r) := by
  rcases okV_cases h with rfl | ⟨m, rfl⟩ | ⟨m, rfl⟩ | ⟨t, ht, rfl⟩ | ⟨k, hk, rfl⟩
  · rfl
  · show rdVal (1 :: (numB (zig m) ++ r)) = _
    simp [rdVal, rdNum_num (zig_lt ho.num), zag_zig]
  · show rdVal (2 :: (lowB 8 (u64n m) ++ r)) = _
    simp [rdVal, rdLow_word ho.num]
  · show rdVal (3 :: (numB t.size ++ bsOf t ++ r)) = _
    rw [List.append_assoc]
    simp [rdVal, rdCount_num (most := 1000) ht (by omega), rdText_bs]
  · show rdVal (4 :: (numB k ++ r)) = _
    simp [rdVal, rdCount_num (m := k) (most := 300) (by omega) (by omega)]
theorem rdVals_back {n : Nat} (hn : n ≤ 300) : ∀ (l : List GV) (r : List Nat), (∀ v, v ∈ l → v.Ok) → (∀ v, v ∈ l → okV n v = true) → rdVals l.length (valsB l ++ r) = some (l, r)
  | [], r, _, _ => rfl
  | v :: l, r, ho, h => by
    show rdVals (l.length + 1) (valB v ++ valsB l ++ r) = _
    rw [rdVals, List.append_assoc, rdVal_back hn (ho v (List.mem_cons_self ..)) (h v (List.mem_cons_self ..)), Option.bind_some, rdVals_back hn l r (fun x hx => ho x (List.mem_cons_of_mem _ hx)) (fun x hx => h x (List.mem_cons_of_mem _ hx))]
    rfl
theorem rdNode_back {n : Nat} (hn : n ≤ 300) {x : GN} (ho : x.Ok) (h : okN n x = true) (r : List Nat) : rdNode (nodeB x ++ r) = some (x, r) := by
  obtain ⟨h1, h2⟩ := okN_parts h
  have h3 := okN_tag' h
  unfold rdNode nodeB
  rw [List.append_assoc, List.append_assoc, rdCount_num (m := x.tag.toNat) (most := 1000) (by omega) (by omega), Option.bind_some]
  dsimp only
  rw [rdCount_num (m := x.vals.length) (most := 100) h1 (by omega), Option.bind_some]
  dsimp only
  rw [rdVals_back hn x.vals r ho.vals h2]
  show some ((⟨((x.tag.toNat : Nat) : Int), x.vals⟩ : GN), r) = _
  rw [show ((x.tag.toNat : Nat) : Int) = x.tag by omega]
theorem rdNodes_back {n : Nat} (hn : n ≤ 300) : ∀ (l : List GN) (r : List Nat), (∀ v, v ∈ l → v.Ok) → (∀ v, v ∈ l → okN n v = true) → rdNodes l.length (nodesB l ++ r) = some (l, r)
  | [], r, _, _ => rfl
  | v :: l, r, ho, h => by
    show rdNodes (l.length + 1) (nodeB v ++ nodesB l ++ r) = _
    rw [rdNodes, List.append_assoc, rdNode_back hn (ho v (List.mem_cons_self ..)) (h v (List.mem_cons_self ..)), Option.bind_some, rdNodes_back hn l r (fun x hx => ho x (List.mem_cons_of_mem _ hx)) (fun x hx => h x (List.mem_cons_of_mem _ hx))]
    rfl
theorem rdGraph_back {g : GG} (ho : g.Ok) (hok : okG g = true) (r : List Nat) : rdGraph (graphB g ++ r) = some (g, r) := by
  obtain ⟨hn, hroot, hnodes⟩ := okG_parts hok
  have e0 : rdText 2 (graphB g ++ r) = some (⟨#[72, 49]⟩, numB g.nodes.length ++ (valB g.root ++ (nodesB g.nodes ++ r))) := by
    have h1 := rdText_bs ⟨#[72, 49]⟩ (numB g.nodes.length ++ (valB g.root ++ (nodesB g.nodes ++ r)))
    have e : graphB g ++ r = bsOf ⟨#[72, 49]⟩ ++ (numB g.nodes.length ++ (valB g.root ++ (nodesB g.nodes ++ r))) := by unfold graphB; simp only [List.append_assoc]; rfl
    rw [e]; exact h1
  unfold rdGraph
  rw [e0, Option.bind_some, if_pos rfl]
  dsimp only
  rw [rdCount_num (m := g.nodes.length) (most := 300) hn (by omega), Option.bind_some]
  dsimp only
  rw [rdVal_back hn ho.root hroot, Option.bind_some]
  dsimp only
  rw [rdNodes_back hn g.nodes r ho.nodes hnodes]
  rfl

/-- what Unpack answers -/
def zeroG : GG := ⟨⟨0, 0, ⟨#[]⟩, 0⟩, []⟩
def unB (bs : List Nat) : Bool × GG :=
  match rdGraph bs with
  | some (g, _) => if packB g = bs then (true, g) else (false, zeroG)
  | none => (false, zeroG)

end Go.Proofs.Ythjddpkegooobab

/-
  SUN: the specification's reader. Own work.
-/
namespace Go.Proofs.Ythjddpkegooobab
open Go.RowKit

/-- the specification's number -/
def sNum : Nat → Nat → Nat → List Nat → Option (Nat × List Nat)
  | 0, _, _, _ => none
  | _ + 1, _, _, [] => none
  | k + 1, n, i, x :: r => if x < 128 then some (orU n (x % 128) (7 * i), r) else sNum k (orU n (x % 128) (7 * i)) (i + 1) r
def sSmall (r : List Nat) : Option (Nat × List Nat) :=
  match sNum 10 0 0 r with
  | some (n, r') => if n ≤ 5000 then some (n, r') else none
  | none => none
def sLow : Nat → Nat → Nat → List Nat → Option (Nat × List Nat)
  | 0, _, n, r => some (n, r)
  | _ + 1, _, _, [] => none
  | k + 1, i, n, x :: r => sLow k (i + 1) (orU n x (8 * i)) r

/-- a reader's three cells -/
structure SR (w : World) (b : Nat) (sa : Option Addr) (cap : Nat) (bs : List Nat) (at_ : Nat) (bad : Bool) : Prop where
  lt : b < w.heap.size
  c0 : w.cell? ⟨b, 0, none⟩ = some (.slice sa bs.length cap)
  c1 : w.cell? ⟨b, 1, none⟩ = some (.int .i64 (at_ : Int))
  c2 : w.cell? ⟨b, 2, none⟩ = some (.bool bad)
  f : ∀ o, w.frozen? ⟨b, o, none⟩ = false
  low : BytesLow b w sa bs
  cap : bs.length ≤ cap
  len : bs.length ≤ 4096
  byte : ∀ x, x ∈ bs → x < 256
  atl : at_ ≤ bs.length + 2

theorem SR.kept {p : Nat → Prop} {w w' : World} {b : Nat} {sa : Option Addr} {cap : Nat} {bs : List Nat} {at_ : Nat} {bad : Bool} (h : SR w b sa cap bs at_ bad) (k : Kept p w w') (hp : ∀ k, k ≤ b → ¬ p k) : SR w' b sa cap bs at_ bad := by
  have e := k.block b h.lt (hp b (Nat.le_refl _))
  exact ⟨Nat.lt_of_lt_of_le h.lt k.size, (World.cell?_of_block (w := w) e).trans h.c0, (World.cell?_of_block (w := w) e).trans h.c1, (World.cell?_of_block (w := w) e).trans h.c2, fun o => (World.frozen?_of_block (w := w) e).trans (h.f o), h.low.below (k.below (by have := h.lt; omega) (fun k hk => hp k (by omega))), h.cap, h.len, h.byte, h.atl⟩
theorem SR.grow {w w' : World} {b : Nat} {sa : Option Addr} {cap : Nat} {bs : List Nat} {at_ : Nat} {bad : Bool} (h : SR w b sa cap bs at_ bad) (k : Below w.heap.size w w') : SR w' b sa cap bs at_ bad := h.kept (Kept.of_below k (fun _ => False)) (fun _ _ e => e)
theorem SR.drewN {w : World} {b : Nat} {sa : Option Addr} {cap : Nat} {bs : List Nat} {at_ : Nat} {bad : Bool} (h : SR w b sa cap bs at_ bad) (k : Nat) : SR (w.drewN k) b sa cap bs at_ bad := ⟨h.lt, h.c0, h.c1, h.c2, h.f, h.low, h.cap, h.len, h.byte, h.atl⟩
theorem SR.setBad {w : World} {b : Nat} {sa : Option Addr} {cap : Nat} {bs : List Nat} {at_ : Nat} {bad : Bool} (h : SR w b sa cap bs at_ bad) : SR (w.setCell ⟨b, 2, none⟩ (.bool true)) b sa cap bs at_ true := by
  refine ⟨by have := h.lt; simpa [World.setCell] using this, ?_, ?_, World.cell?_setCell_same _ _ _ h.c2, fun o => ?_, h.low.below ((Kept.refl (fun k => k = b) w).set (a := ⟨b, 2, none⟩) (fun _ => rfl) _ |>.below (by have := h.lt; omega) (fun k hk e => by omega)), h.cap, h.len, h.byte, h.atl⟩
  · rw [World.cell?_setCell_other _ _ _ _ (by simp)]; exact h.c0
  · rw [World.cell?_setCell_other _ _ _ _ (by simp)]; exact h.c1
  · rw [World.frozen?_setCell]; exact h.f o
theorem SR.setAt {w : World} {b : Nat} {sa : Option Addr} {cap : Nat} {bs : List Nat} {at_ : Nat} {bad : Bool} (h : SR w b sa cap bs at_ bad) {z : Int} {n : Nat} (hz : z = (n : Int)) (hn : n ≤ bs.length + 2) : SR (w.setCell ⟨b, 1, none⟩ (.int .i64 z)) b sa cap bs n bad := by
  subst hz
  refine ⟨by have := h.lt; simpa [World.setCell] using this, ?_, World.cell?_setCell_same _ _ _ h.c1, ?_, fun o => ?_, h.low.below ((Kept.refl (fun k => k = b) w).set (a := ⟨b, 1, none⟩) (fun _ => rfl) _ |>.below (by have := h.lt; omega) (fun k hk e => by omega)), h.cap, h.len, h.byte, hn⟩
  · rw [World.cell?_setCell_other _ _ _ _ (by simp)]; exact h.c0
  · rw [World.cell?_setCell_other _ _ _ _ (by simp)]; exact h.c2
  · rw [World.frozen?_setCell]; exact h.f o

/-- how what was read stands to what was to be read -/
def SRel {α : Type} (f : Option (α × List Nat)) (bad : Bool) (x : α) (r' : List Nat) (bad' : Bool) : Prop :=
  (bad = true → bad' = true) ∧ (bad = false → (bad' = false ∧ f = some (x, r')) ∨ (bad' = true ∧ f = none))
/-- what a reader's call leaves -/
def SPost {α : Type} (f : Option (α × List Nat)) (enc : α → Value) (ok : α → Prop) (b : Nat) (sa : Option Addr) (cap : Nat) (bs : List Nat) (at_ : Nat) (bad : Bool) (w : World) (e : Ending) (w' : World) : Prop :=
  Kept (fun k => k = b) w w' ∧ ∃ x at' bad', e = .returned (enc x) ∧ ok x ∧ SR w' b sa cap bs at' bad' ∧ (at' ≤ bs.length ∨ at' = at_) ∧ Hid (SRel f bad x (bs.drop at') bad')

theorem drop_zero_of {bs : List Nat} {k : Nat} (h : bs.length ≤ k) : bs.drop k = [] := List.drop_of_length_le h

set_option maxRecDepth 100000 in
theorem sByte_any (b : Nat) (sa : Option Addr) (cap : Nat) (bs : List Nat) (at_ : Nat) (bad : Bool) (w : World) (hR : SR w b sa cap bs at_ bad) :
    Calls Try.prog 143 #[.pointer (some ⟨b, 0, none⟩)] w (SPost (rdByte (bs.drop at_)) (fun x => .int .u8 (x : Int)) (fun x => x < 256) b sa cap bs at_ bad w) := by
  have hatl := hR.atl
  have hlen := hR.len
  obtain ⟨hlt, c0, c1, c2, hf, hlow, hcap, _, hbyte, _⟩ := id hR
  by_cases h : at_ < bs.length
  · have hd : ¬ ((bs.length : Int) ≤ (at_ : Int)) := by omega
    obtain ⟨x, hx⟩ := hidx bs[at_]!
    have hxm : x < 256 := by rw [hx.out]; exact hbyte _ (mem_at h)
    have e1 : Hid (rdByte (bs.drop at_) = some (x, bs.drop (at_ + 1))) := by show _ = _; rw [drop_cons h, hx.out]; rfl
    obtain ⟨ba, off, rfl, hba, hcell⟩ := hlow at_ h
    rw [← hx.out] at hcell
    have hne : ba ≠ b := by omega
    go_enter Try.func143, Try.ntmps143
    go_wp2_with (go_quiet (fail))
    go_ret
    refine ⟨(((Kept.refl (fun k => k = b) w).drewN _).set (fun _ => rfl) _).drewN _, x, at_ + 1, bad, rfl, hxm, ?_, Or.inl (by omega), ⟨fun h => h, fun _ => ?_⟩⟩
    · exact ((hR.drewN _).setAt (by omega) (by omega)).drewN _
    · cases bad
      · exact Or.inl ⟨rfl, e1.out⟩
      · rename_i hc; cases hc
  · have hd : ((bs.length : Int) ≤ (at_ : Int)) := by omega
    have e1 : Hid (rdByte (bs.drop at_) = none) := by show _ = _; rw [drop_zero_of (by omega)]; rfl
    go_enter Try.func143, Try.ntmps143
    go_wp2_with (go_quiet (fail))
    go_ret
    exact ⟨((Kept.refl (fun k => k = b) w).drewN _).set (fun _ => rfl) _, 0, at_, true, rfl, by omega, (hR.drewN _).setBad, Or.inr rfl, ⟨fun _ => rfl, fun _ => Or.inr ⟨rfl, e1.out⟩⟩⟩

theorem byte_cons {r r' : List Nat} {x : Nat} (h : rdByte r = some (x, r')) : r = x :: r' := by
  cases r with
  | nil => cases h
  | cons y t =>
    have e : y = x ∧ t = r' := by simpa [rdByte] using h
    rw [e.1, e.2]
theorem byte_nil {r : List Nat} (h : rdByte r = none) : r = [] := by
  cases r with
  | nil => rfl
  | cons y t => cases h

/-- where a loop of reading stands -/
def SInv {α : Type} (f g : Option (α × List Nat)) (bad0 bad : Bool) : Prop := (bad0 = true → bad = true) ∧ (bad0 = false → bad = false → f = g) ∧ (bad0 = false → bad = true → f = none)

theorem SInv.start {α : Type} (f : Option (α × List Nat)) (bad : Bool) : SInv f f bad bad := ⟨fun h => h, fun _ _ => rfl, fun h h' => by rw [h] at h'; cases h'⟩
theorem SInv.comp {α β : Type} {F G G' : Option (β × List Nat)} {f1 : Option (α × List Nat)} {bad bad1 bad2 : Bool} {x : α} {r2 : List Nat} (h : SInv F G bad bad1) (hr : SRel f1 bad1 x r2 bad2) (h1 : f1 = some (x, r2) → G = G') (h0 : f1 = none → G = none) : SInv F G' bad bad2 := by
  refine ⟨fun hb => hr.1 (h.1 hb), fun hb hb2 => ?_, fun hb hb2 => ?_⟩
  · cases hb1 : bad1 with
    | true => rw [hr.1 hb1] at hb2; cases hb2
    | false =>
      rcases hr.2 hb1 with ⟨_, e⟩ | ⟨e, _⟩
      · exact (h.2.1 hb hb1).trans (h1 e)
      · rw [e] at hb2; cases hb2
  · cases hb1 : bad1 with
    | true => exact h.2.2 hb hb1
    | false =>
      rcases hr.2 hb1 with ⟨e, _⟩ | ⟨_, e⟩
      · rw [e] at hb2; cases hb2
      · exact (h.2.1 hb hb1).trans (h0 e)
theorem SInv.rel {α : Type} {F G : Option (α × List Nat)} {bad bad1 : Bool} {y : α} {r : List Nat} (h : SInv F G bad bad1) (hG : G = some (y, r)) : SRel F bad y r bad1 := by
  refine ⟨h.1, fun hb => ?_⟩
  cases hb1 : bad1 with
  | true => exact Or.inr ⟨rfl, h.2.2 hb hb1⟩
  | false => exact Or.inl ⟨rfl, (h.2.1 hb hb1).trans hG⟩
theorem SInv.bad {α : Type} {F G : Option (α × List Nat)} {bad bad1 : Bool} {y : α} {r : List Nat} (h : SInv F G bad bad1) (hG : G = none) : SRel F bad y r true := by
  refine ⟨fun _ => rfl, fun hb => Or.inr ⟨rfl, ?_⟩⟩
  cases hb1 : bad1 with
  | true => exact h.2.2 hb hb1
  | false => exact (h.2.1 hb hb1).trans hG
theorem sOr_form {n x s : Nat} (hn : n < 18446744073709551616) (_hx : x < 18446744073709551616) (hs : s ≤ 64) : bits .or .u64 (n : Int) (IntKind.u64.wrap ((x : Int) * 2 ^ s)) = ((orU n x s : Nat) : Int) := by
  have e3 : ((x : Int) * 2 ^ s) = ((x * 2 ^ s : Nat) : Int) := by push_cast; rfl
  have e4 : IntKind.u64.wrap ((x * 2 ^ s : Nat) : Int) = ((x * 2 ^ s % 18446744073709551616 : Nat) : Int) := by rw [IntKind.wrap_u64]; generalize x * 2 ^ s = y; omega
  rw [e3, e4, u64_or_nat n _ hn (Nat.mod_lt _ (by omega))]
  unfold orU
  rw [Nat.min_eq_left hs]
theorem and127 {x : Nat} (hx : x < 256) : IntKind.u64.wrap (bits .and .u8 (x : Int) 127) = ((x % 128 : Nat) : Int) := by
  have e1 : bits .and .u8 (x : Int) 127 = ((x % 128 : Nat) : Int) := by
    rw [u8_and _ _ (by omega) (by omega) (by omega) (by omega)]
    have h1 : (127 : Int).toNat = 127 := rfl
    rw [h1, Int.toNat_natCast, nat_mask7]
  rw [e1, IntKind.wrap_u64]; omega

set_option maxRecDepth 100000 in
theorem sEight_any (b : Nat) (sa : Option Addr) (cap : Nat) (bs : List Nat) (at_ : Nat) (bad : Bool) (w : World) (hR : SR w b sa cap bs at_ bad) :
    Calls Try.prog 144 #[.pointer (some ⟨b, 0, none⟩)] w (SPost (sLow 8 0 0 (bs.drop at_)) (fun x => .int .u64 (x : Int)) (fun x => x < 18446744073709551616) b sa cap bs at_ bad w) := by
  go_enter Try.func144, Try.ntmps144
  go_wp2
  go_loopw [3, 4] (fun a c ws => ∃ (n i at1 : Nat) (bad1 : Bool), a = .int .u64 n ∧ c = .int .i64 i ∧ n < 18446744073709551616 ∧ i ≤ 8 ∧ Hid (SInv (sLow 8 0 0 (bs.drop at_)) (sLow (8 - i) i n (bs.drop at1)) bad bad1) ∧ SR ws b sa cap bs at1 bad1 ∧ (at1 ≤ bs.length ∨ at1 = at_) ∧ Kept (fun k => k = b) w ws) (fun _ c _ => 8 - (intOf c).toNat)
  case atStart => exact ⟨0, 0, at_, bad, rfl, rfl, by omega, by omega, SInv.start _ _, hR, Or.inr rfl, Kept.refl _ _⟩
  case round =>
    obtain ⟨n, i, at1, bad1, rfl, rfl, hn, hi, hinv, hR1, hat1, hK⟩ := hrel
    by_cases hlt : i < 8
    · have hd : (i : Int) < 8 := by omega
      go_wp2_with (go_at_call 143; refine (sByte_any b sa cap bs at1 bad1 _ hR1).mono ?_; rintro e w1 ⟨hK1, x, at2, bad2, rfl, hx, hR2, hat2, hrel⟩)
      have e6 : IntKind.u64.wrap (x : Int) = (x : Int) := by rw [IntKind.wrap_u64]; omega
      refine ⟨⟨orU n x (8 * i), i + 1, at2, bad2, congrArg (Value.int .u64) (by first | exact sOr_form hn (by omega) (by omega) | (rw [e6]; exact sOr_form hn (by omega) (by omega))), by go_num, orU_lt hn, by omega, ?_, hR2, by omega, kk hK hK1⟩, by simp [intOf]; omega⟩
      refine hinv.out.comp hrel.out (fun h => ?_) (fun h => ?_)
      · rw [byte_cons h, show 8 - i = (8 - (i + 1)) + 1 by omega, sLow]
      · rw [byte_nil h, show 8 - i = (7 - i) + 1 by omega, sLow]
    · obtain rfl : i = 8 := by omega
      go_wp2
      go_ret
      exact ⟨hK, n, at1, bad1, rfl, hn, hR1, hat1, hinv.out.rel rfl⟩

end Go.Proofs.Ythjddpkegooobab

/-
  SLOW: words are read back. Own work.
-/
namespace Go.Proofs.Ythjddpkegooobab
open Go.RowKit

theorem sLow_back : ∀ (k i a m : Nat) (r : List Nat), i + k = 8 → a < 2 ^ (8 * i) → sLow k i a (lowB k m ++ r) = some (a + m % 2 ^ (8 * k) * 2 ^ (8 * i), r)
  | 0, i, a, m, r, _, _ => by
    show some (_, r) = _
    simp [Nat.mod_one]
  | k + 1, i, a, m, r, hk, ha => by
    show sLow k (i + 1) (orU a (m % 256) (8 * i)) (lowB k (m / 256) ++ r) = _
    have hp : 2 ^ (8 * (i + 1)) = 2 ^ (8 * i) * 256 := by rw [show 8 * (i + 1) = 8 * i + 8 by omega, Nat.pow_add]
    have hlt : a + m % 256 * 2 ^ (8 * i) < 2 ^ (8 * (i + 1)) := by
      have h1 : (m % 256 + 1) * 2 ^ (8 * i) ≤ 256 * 2 ^ (8 * i) := Nat.mul_le_mul_right _ (by omega)
      rw [Nat.add_mul] at h1
      rw [hp, Nat.mul_comm (2 ^ (8 * i)) 256]
      omega
    have h64 : 2 ^ (8 * (i + 1)) ≤ 2 ^ 64 := Nat.pow_le_pow_right (by omega) (by omega)
    rw [orU_join ha (by omega) (by omega), sLow_back k (i + 1) _ (m / 256) r (by omega) hlt]
    congr 2
    have e1 : m % 2 ^ (8 * (k + 1)) = m % 256 + m / 256 % 2 ^ (8 * k) * 256 := by
      rw [show 2 ^ (8 * (k + 1)) = 256 * 2 ^ (8 * k) by rw [show 8 * (k + 1) = 8 + 8 * k by omega, Nat.pow_add], Nat.mod_mul]
      omega
    rw [e1, hp, Nat.add_mul, Nat.mul_assoc, Nat.mul_comm 256 (2 ^ (8 * i)), Nat.add_assoc]

end Go.Proofs.Ythjddpkegooobab

/-
  SEQUAL: the specification's comparing of bytes. Own work.
-/
namespace Go.Proofs.Ythjddpkegooobab
open Go.RowKit


set_option maxRecDepth 100000 in
theorem l2equal_any (a a' : Option Addr) (xs ys : List Nat) (c c' : Nat) (w : World) (hl : xs.length ≤ maxLen) (_hl' : ys.length ≤ maxLen) (ha : BytesAt w a xs) (ha' : BytesAt w a' ys) :
    Calls Try.prog 85 #[.slice a xs.length c, .slice a' ys.length c'] w fun e w' => e = .returned (.bool (decide (xs = ys))) ∧ Below w.heap.size w w' := by
  unfold maxLen at hl
  by_cases hne : xs.length = ys.length
  · have hd : ((xs.length : Int) != (ys.length : Int)) = false := by rw [hne]; simp
    have hne' : Hid _ := hne
    clear hne
    go_enter Try.func85, Try.ntmps85
    go_wp2
    go_loopw [13] (fun i ws => ∃ (k : Nat), i = .int .i64 k ∧ k ≤ xs.length ∧ Hid (∀ j, j < k → xs[j]! = ys[j]!) ∧ Below w.heap.size w ws) (fun i _ => xs.length - (intOf i).toNat)
    case atStart => exact ⟨0, rfl, Nat.zero_le _, fun j hj => absurd hj (Nat.not_lt_zero _), gre _⟩
    case round =>
      obtain ⟨k, rfl, hk, hall, hb⟩ := hrel
      by_cases hlt : k < xs.length
      · obtain ⟨x, b, off, hxk, hxm, rfl, hc⟩ := (ha.grow hb).get hlt
        obtain ⟨y, b', off', hyk, hym, rfl, hc'⟩ := (ha'.grow hb).get (k := k) (by rw [← hne'.out]; exact hlt)
        have hlt' : k < ys.length := by rw [← hne'.out]; exact hlt
        by_cases hxy : x = y
        · subst hxy
          have hn2 : ((x : Int) != (x : Int)) = false := by simp
          go_wp2_with (go_quiet (fail))
          go_roundw
          case rel =>
            refine ⟨k + 1, by go_num, by omega, fun j hj => ?_, hb.trans ⟨rfl, rfl, rfl, Nat.le_refl _, fun _ _ => rfl⟩⟩
            by_cases e : j = k
            · rw [e, ← hxk.out, ← hyk.out]
            · exact hall.out j (by omega)
          case measure => simp [intOf]; omega
        · have hn2 : ((x : Int) != (y : Int)) = true := by simp; omega
          have hdec : Hid (decide (xs = ys) = false) := decide_eq_false (fun e => hxy (by rw [hxk.out, hyk.out, e]))
          go_wp2_with (go_quiet (fail))
          go_ret
          exact ⟨by rw [hdec.out]; rfl, hb.trans ⟨rfl, rfl, rfl, Nat.le_refl _, fun _ _ => rfl⟩⟩
      · have hdec : Hid (decide (xs = ys) = true) := decide_eq_true (List.ext_getElem hne'.out (fun i h1 h2 => by
          have := hall.out i (by omega)
          rwa [getElem!_pos xs i h1, getElem!_pos ys i h2] at this))
        go_wp2
        go_ret
        exact ⟨by rw [hdec.out]; rfl, hb⟩
  · have hd : ((xs.length : Int) != (ys.length : Int)) = true := by simp; omega
    have hdec : Hid (decide (xs = ys) = false) := decide_eq_false (fun e => hne (by rw [e]))
    go_enter Try.func85, Try.ntmps85
    go_wp2
    go_ret
    exact ⟨by rw [hdec.out]; rfl, gre _⟩

end Go.Proofs.Ythjddpkegooobab

/-
  SHEAD: the specification's HeadOf. Own work.
-/
namespace Go.Proofs.Ythjddpkegooobab
open Go.RowKit

/-- what a block reads as -/
def DD.rd (d : DD) (m : Nat) : List Nat := readN d.blocks d.waiting (m : Int) d.waiting.length
theorem DD.rd_len {d : DD} (h : d.Fit) {m : Nat} (hm : m < 130) : (d.rd m).length = 64 :=
  readN_mem (p := fun x => x.length = 64) h.bb (fun x hx => (h.wb x hx).2.2) (by rw [h.bl]; simpa using hm) _ (Nat.le_refl _)
theorem DD.rd_byte {d : DD} (h : d.Fit) (ho : d.Ok) {m : Nat} (hm : m < 130) : ∀ x, x ∈ d.rd m → x < 256 :=
  readN_mem (p := fun b => ∀ x, x ∈ b → x < 256) (fun b hb => (ho.bb b hb).byte) (fun x hx => (ho.wb x hx).byte) (by rw [h.bl]; simpa using hm) _ (Nat.le_refl _)

theorem sLow_some : ∀ (k i n : Nat) (r : List Nat), k ≤ r.length → ∃ x, sLow k i n r = some (x, r.drop k)
  | 0, _, n, r, _ => ⟨n, rfl⟩
  | k + 1, i, n, x :: r, h => by
    obtain ⟨y, hy⟩ := sLow_some k (i + 1) (orU n x (8 * i)) r (by simpa using h)
    exact ⟨y, hy⟩

/-- three words, one behind the other -/
theorem head_three {bs : List Nat} {g l s : Nat} {r1 r2 r3 : List Nat} (h1 : sLow 8 0 0 (bs.drop 4) = some (g, r1)) (h2 : sLow 8 0 0 r1 = some (l, r2)) (h3 : sLow 8 0 0 r2 = some (s, r3)) {x : HH} (hx : x.Is bs) : (g : Int) = x.gen ∧ (l : Int) = x.len ∧ wrap64 (s : Int) = x.sum := by
  have hr := rng_i64 hx.rng
  have e0 : ∀ n : Int, (n : Int) = n := fun _ => rfl
  have hb : ∀ (n : Int) (r : List Nat), sLow 8 0 0 (lowB 8 (u64n n) ++ r) = some (u64n n, r) := fun n r => by
    have h := sLow_back 8 0 0 (u64n n) r (by omega) (by simp)
    rw [h]
    have e1 : u64n n % 2 ^ (8 * 8) = u64n n := Nat.mod_eq_of_lt (u64n_lt n)
    rw [e1]; simp
  rw [hx.eq, headB_drop, hb] at h1
  injection h1 with h1
  injection h1 with e1 e1'
  rw [← e1', hb] at h2
  injection h2 with h2
  injection h2 with e2 e2'
  rw [← e2', hb] at h3
  injection h3 with h3
  injection h3 with e3 e3'
  have hs := hx.sum
  unfold I64 at hs
  refine ⟨?_, ?_, ?_⟩
  · rw [← e1]; unfold u64n; omega
  · rw [← e2]; unfold u64n; omega
  · rw [← e3]; unfold u64n wrap64; omega

theorem SR.new {w : World} {oa : Option Addr} {bs : List Nat} {c : Nat} (ha : BytesAt w oa bs) (hc : bs.length ≤ c) (hl : bs.length ≤ 4096) (hb : ∀ x, x ∈ bs → x < 256) (k : Nat) (hk : k ≤ bs.length + 2) (z : Int) (hz : z = (k : Int)) : SR (w.alloc (.cells #[.slice oa bs.length c, .int .i64 z, .bool false] 111)) w.heap.size oa c bs k false := by
  subst hz
  have hA := gal (gre w) (.cells #[.slice oa bs.length c, .int .i64 (k : Int), .bool false] 111)
  exact ⟨by simp, by simp, by simp, by simp, fun o => by simp, ha.low.below hA, hc, hl, hb, hk⟩

theorem owns_capH {w : World} {base n cap : Nat} {a : Option Addr} {t : TypeId} {k : Nat} {xs : List Value} (h : w.ownsRow base t k (.slice a n cap) n xs) : n ≤ cap := by
  rcases h.2 with ⟨_, h2⟩ | ⟨g, c, cur, h1, _, _, h4, _⟩
  · omega
  · injection h1 with _ _ e
    omega
/-- a head's own variable, that may be written -/
structure HV (w : World) (R : Nat) (h : HH) : Prop where
  box : HBox w R h.ok h.gen h.len h.sum
  f : ∀ o, w.frozen? ⟨R, o, none⟩ = false
theorem HV.kept {p : Nat → Prop} {w w' : World} {b : Nat} {h : HH} (hv : HV w b h) (k : Kept p w w') (hn : ¬ p b) : HV w' b h :=
  ⟨hv.box.kept k hn, fun o => (World.frozen?_of_block (w := w) (a := ⟨b, o, none⟩) (k.block b hv.box.lt hn)).trans (hv.f o)⟩
theorem HV.grow {w w' : World} {b : Nat} {h : HH} (hv : HV w b h) (k : Below w.heap.size w w') : HV w' b h := hv.kept (Kept.of_below k (fun _ => False)) (fun e => e)
theorem HV.new_at (w : World) (h : HH) (t : TypeId) (R : Nat) (hR : R = w.heap.size) : HV (w.alloc (.cells #[.bool h.ok, .int .i64 h.gen, .int .i64 h.len, .int .i64 h.sum] t)) R h := by
  subst hR
  exact ⟨HBox.new w _ _ _ _ _, fun o => by simp⟩
theorem ret4 {w : World} {R : Nat} {h : HH} (hv : HV w R h) (A B C D : Value) :
    (w.setCell ⟨R, 0, none⟩ A).cell? ⟨R, 0, none⟩ = some A ∧ ((w.setCell ⟨R, 0, none⟩ A).setCell ⟨R, 1, none⟩ B).cell? ⟨R, 1, none⟩ = some B ∧ (((w.setCell ⟨R, 0, none⟩ A).setCell ⟨R, 1, none⟩ B).setCell ⟨R, 2, none⟩ C).cell? ⟨R, 2, none⟩ = some C ∧ ((((w.setCell ⟨R, 0, none⟩ A).setCell ⟨R, 1, none⟩ B).setCell ⟨R, 2, none⟩ C).setCell ⟨R, 3, none⟩ D).cell? ⟨R, 3, none⟩ = some D ∧
      Kept (fun b => b = R) w ((((w.setCell ⟨R, 0, none⟩ A).setCell ⟨R, 1, none⟩ B).setCell ⟨R, 2, none⟩ C).setCell ⟨R, 3, none⟩ D) := by
  refine ⟨World.cell?_setCell_same _ _ _ hv.box.c0, World.cell?_setCell_same _ _ _ ((World.cell?_setCell_other _ _ _ _ (by simp)).trans hv.box.c1), World.cell?_setCell_same _ _ _ (((World.cell?_setCell_other _ _ _ _ (by simp)).trans (World.cell?_setCell_other _ _ _ _ (by simp))).trans hv.box.c2), World.cell?_setCell_same _ _ _ ((((World.cell?_setCell_other _ _ _ _ (by simp)).trans (World.cell?_setCell_other _ _ _ _ (by simp))).trans (World.cell?_setCell_other _ _ _ _ (by simp))).trans hv.box.c3), ?_⟩
  exact ((((Kept.refl (fun b => b = R) w).set (a := ⟨R, 0, none⟩) (fun _ => rfl) A).set (a := ⟨R, 1, none⟩) (fun _ => rfl) B).set (a := ⟨R, 2, none⟩) (fun _ => rfl) C).set (a := ⟨R, 3, none⟩) (fun _ => rfl) D

theorem sEight_known (b : Nat) (sa : Option Addr) (cap : Nat) (bs : List Nat) (at_ : Nat) (x : Nat) (r : List Nat) (w : World) (hR : SR w b sa cap bs at_ false) (hx : Hid (sLow 8 0 0 (bs.drop at_) = some (x, r))) :
    Calls Try.prog 144 #[.pointer (some ⟨b, 0, none⟩)] w fun e w' => e = .returned (.int .u64 (x : Int)) ∧ (∃ at', SR w' b sa cap bs at' false ∧ Hid (bs.drop at' = r)) ∧ Kept (fun k => k = b) w w' :=
  (sEight_any b sa cap bs at_ false w hR).mono fun e w' ⟨hK, y, at', bad', he, _, hS, _, hr⟩ => by
    rcases hr.out.2 rfl with ⟨rfl, e1⟩ | ⟨_, e1⟩
    · rw [hx.out] at e1
      injection e1 with e1
      injection e1 with e2 e3
      subst e2
      exact ⟨he, ⟨at', hS, e3.symm⟩, hK⟩
    · rw [hx.out] at e1
      cases e1

/-- what heads' bytes read as, at once -/
structure HRead (bs : List Nat) (g l s : Nat) (r1 r2 r3 : List Nat) : Prop where
  e1 : sLow 8 0 0 (bs.drop 4) = some (g, r1)
  e2 : sLow 8 0 0 r1 = some (l, r2)
  e3 : sLow 8 0 0 r2 = some (s, r3)
theorem hread {bs : List Nat} (h : bs.length = 64) : ∃ g l s r1 r2 r3, HRead bs g l s r1 r2 r3 := by
  obtain ⟨g, hg⟩ := sLow_some 8 0 0 (bs.drop 4) (by rw [List.length_drop]; omega)
  obtain ⟨l, hl⟩ := sLow_some 8 0 0 ((bs.drop 4).drop 8) (by rw [List.length_drop, List.length_drop]; omega)
  obtain ⟨s, hs⟩ := sLow_some 8 0 0 (((bs.drop 4).drop 8).drop 8) (by rw [List.length_drop, List.length_drop, List.length_drop]; omega)
  exact ⟨g, l, s, _, _, _, hg, hl, hs⟩

set_option maxHeartbeats 2000000 in
set_option maxRecDepth 100000 in
theorem l4head_any (d : DD) (l : DL) (m : Nat) (w : World) (hf : d.Fit) (ho : d.Ok) (ha : DAt w l d) (hm : m < 130) :
    Calls Try.prog 114 #[d.val l, .int .i64 (m : Int)] w fun e w' => e = .returned (headOf (d.rd m)).val ∧ Below w.heap.size w w' := by
  obtain ⟨bs, hbs⟩ := hid_ex (d.rd m)
  have hbl : Hid (bs.length = 64) := by show _ = _; rw [hbs.out]; exact DD.rd_len hf hm
  have hbb : ∀ x, x ∈ bs → x < 256 := by rw [hbs.out]; exact DD.rd_byte hf ho hm
  rw [← hbs.out]
  obtain ⟨G, L, S, r1, r2, r3, hE⟩ := hread hbl.out
  have E1 : Hid _ := hE.e1
  have E2 : Hid _ := hE.e2
  have E3 : Hid _ := hE.e3
  have hA := gal (gal (gre w) (.cells #[.slice l.ba d.blocks.length l.bc, .slice l.wa d.waiting.length l.wc] 50)) (.cells #[.bool false, .int .i64 0, .int .i64 0, .int .i64 0] 74)
  have hR0 := HV.new_at (w.alloc (.cells #[.slice l.ba d.blocks.length l.bc, .slice l.wa d.waiting.length l.wc] 50)) noH 74 (w.heap.size + 1) (by simp)
  have hno : ∀ P : Prop, (P → False) → ((1000000000000 : Int) < (G : Int) ∨ (4096 : Int) < (L : Int) ∨ headOkB true (G : Int) (L : Int) = false ∨ headB (G : Int) (L : Int) (wrap64 (S : Int)) ≠ bs) → headOf bs = noH := fun _ _ h => headOf_no fun x hx => by
    obtain ⟨e1, e2, e3⟩ := head_three hE.e1 hE.e2 hE.e3 hx
    have hr := rng_i64 hx.rng
    rcases h with h | h | h | h
    · omega
    · omega
    · rw [e1, e2, hx.rng] at h; cases h
    · rw [e1, e2, e3] at h; exact h hx.eq.symm
  go_enter Try.func114, Try.ntmps114
  by_cases t1 : (1000000000000 : Int) < (G : Int)
  · rw [hno False id (Or.inl t1)]
    go_upto_region 99 with (first
          | (go_at_call 109; refine (l3read_own d l m _ hf (ha.grow hA) hm).mono ?_; rw [show readN d.blocks d.waiting (m : Int) d.waiting.length = bs from hbs.out.symm]; rintro e w1 ⟨oa, c, rfl, hO, hb1⟩; have hlc : bs.length ≤ c := owns_capH hO; have hS0 := SR.new (owns_bytes hO) hlc (by have := hbl.out; omega) hbb 4 (by have := hbl.out; omega) 4 rfl; have hAt := owns_bytes hO; have hRl := (hR0.grow hb1).box.lt; have hb2 := gal hb1 (.cells #[.slice oa bs.length c, .int .i64 4, .bool false] 111))
          | (go_at_call 144; refine (sEight_known _ _ _ _ _ S r3 _ hS2 (by show _ = _; rw [d2.out]; exact E3.out)).mono ?_; rintro e w4 ⟨rfl, ⟨at3, hS3, d3⟩, hK3⟩; have hR4 := (((hR0.grow hb2).kept hK1 (by omega)).kept hK2 (by omega)).kept hK3 (by omega); obtain ⟨⟨_, z0, z1, z2, z3⟩, zf⟩ := id hR4; have hB2 := gca hA hb2; have hB3 := hB2.trans (hK1.below (B := w.heap.size) hB2.size (fun k hk e => by omega)); have hB4 := hB3.trans (hK2.below (B := w.heap.size) hB3.size (fun k hk e => by omega)); have hB5 := hB4.trans (hK3.below (B := w.heap.size) hB4.size (fun k hk e => by omega)); have hK := (hK1.trans hK2 (fun _ _ h => h)).trans hK3 (fun _ _ h => h))
          | (go_at_call 144; refine (sEight_known _ _ _ _ _ L r2 _ hS1 (by show _ = _; rw [d1.out]; exact E2.out)).mono ?_; rintro e w3 ⟨rfl, ⟨at2, hS2, d2⟩, hK2⟩)
          | (go_at_call 144; refine (sEight_known _ _ _ _ _ G r1 _ hS0 E1).mono ?_; rintro e w2 ⟨rfl, ⟨at1, hS1, d1⟩, hK1⟩))
    obtain ⟨c0, c1, c2, c3, K⟩ := ret4 hR4 (.bool false) (.int .i64 0) (.int .i64 0) (.int .i64 0)
    exact bodyPost_ret (v := noH.val) (by simp [results, Try.results114, go_sem, c0, c1, c2, c3]) rfl ⟨rfl, hB5.trans (K.below (B := w.heap.size) hB5.size (fun k hk e => by omega))⟩
  · by_cases t2 : (4096 : Int) < (L : Int)
    · rw [hno False id (Or.inr (Or.inl t2))]
      go_upto_region 99 with (first
            | (go_at_call 109; refine (l3read_own d l m _ hf (ha.grow hA) hm).mono ?_; rw [show readN d.blocks d.waiting (m : Int) d.waiting.length = bs from hbs.out.symm]; rintro e w1 ⟨oa, c, rfl, hO, hb1⟩; have hlc : bs.length ≤ c := owns_capH hO; have hS0 := SR.new (owns_bytes hO) hlc (by have := hbl.out; omega) hbb 4 (by have := hbl.out; omega) 4 rfl; have hAt := owns_bytes hO; have hRl := (hR0.grow hb1).box.lt; have hb2 := gal hb1 (.cells #[.slice oa bs.length c, .int .i64 4, .bool false] 111))
            | (go_at_call 144; refine (sEight_known _ _ _ _ _ S r3 _ hS2 (by show _ = _; rw [d2.out]; exact E3.out)).mono ?_; rintro e w4 ⟨rfl, ⟨at3, hS3, d3⟩, hK3⟩; have hR4 := (((hR0.grow hb2).kept hK1 (by omega)).kept hK2 (by omega)).kept hK3 (by omega); obtain ⟨⟨_, z0, z1, z2, z3⟩, zf⟩ := id hR4; have hB2 := gca hA hb2; have hB3 := hB2.trans (hK1.below (B := w.heap.size) hB2.size (fun k hk e => by omega)); have hB4 := hB3.trans (hK2.below (B := w.heap.size) hB3.size (fun k hk e => by omega)); have hB5 := hB4.trans (hK3.below (B := w.heap.size) hB4.size (fun k hk e => by omega)); have hK := (hK1.trans hK2 (fun _ _ h => h)).trans hK3 (fun _ _ h => h))
            | (go_at_call 144; refine (sEight_known _ _ _ _ _ L r2 _ hS1 (by show _ = _; rw [d1.out]; exact E2.out)).mono ?_; rintro e w3 ⟨rfl, ⟨at2, hS2, d2⟩, hK2⟩)
            | (go_at_call 144; refine (sEight_known _ _ _ _ _ G r1 _ hS0 E1).mono ?_; rintro e w2 ⟨rfl, ⟨at1, hS1, d1⟩, hK1⟩))
      obtain ⟨c0, c1, c2, c3, K⟩ := ret4 hR4 (.bool false) (.int .i64 0) (.int .i64 0) (.int .i64 0)
      exact bodyPost_ret (v := noH.val) (by simp [results, Try.results114, go_sem, c0, c1, c2, c3]) rfl ⟨rfl, hB5.trans (K.below (B := w.heap.size) hB5.size (fun k hk e => by omega))⟩
    · have hgw : wrap64 (G : Int) = (G : Int) := by unfold wrap64; omega
      have hlw : wrap64 (L : Int) = (L : Int) := by unfold wrap64; omega
      cases t3 : headOkB true (G : Int) (L : Int) with
      | false =>
        have t3' : Hid _ := t3
        rw [hno False id (Or.inr (Or.inr (Or.inl t3)))]
        clear t3
        go_upto_region 99 with (first
              | (go_at_call 116; refine (l4headok_any true (G : Int) (L : Int) (wrap64 (S : Int)) _).mono ?_; rintro e w6 ⟨rfl, hb6⟩; rw [t3'.out]; have hR6 := hR5.grow hb6; have hH6 := hHw.grow hb6; obtain ⟨⟨_, z0, z1, z2, z3⟩, zf⟩ := id hR6; obtain ⟨⟨_, y0, y1, y2, y3⟩, yf⟩ := id hH6)
              | (go_at_call 109; refine (l3read_own d l m _ hf (ha.grow hA) hm).mono ?_; rw [show readN d.blocks d.waiting (m : Int) d.waiting.length = bs from hbs.out.symm]; rintro e w1 ⟨oa, c, rfl, hO, hb1⟩; have hlc : bs.length ≤ c := owns_capH hO; have hS0 := SR.new (owns_bytes hO) hlc (by have := hbl.out; omega) hbb 4 (by have := hbl.out; omega) 4 rfl; have hAt := owns_bytes hO; have hRl := (hR0.grow hb1).box.lt; have hb2 := gal hb1 (.cells #[.slice oa bs.length c, .int .i64 4, .bool false] 111))
              | (go_at_call 144; refine (sEight_known _ _ _ _ _ S r3 _ hS2 (by show _ = _; rw [d2.out]; exact E3.out)).mono ?_; rintro e w4 ⟨rfl, ⟨at3, hS3, d3⟩, hK3⟩; have hR4 := (((hR0.grow hb2).kept hK1 (by omega)).kept hK2 (by omega)).kept hK3 (by omega); obtain ⟨⟨_, z0, z1, z2, z3⟩, zf⟩ := id hR4; have hB2 := gca hA hb2; have hB3 := hB2.trans (hK1.below (B := w.heap.size) hB2.size (fun k hk e => by omega)); have hB4 := hB3.trans (hK2.below (B := w.heap.size) hB3.size (fun k hk e => by omega)); have hB5 := hB4.trans (hK3.below (B := w.heap.size) hB4.size (fun k hk e => by omega)); have hK := (hK1.trans hK2 (fun _ _ h => h)).trans hK3 (fun _ _ h => h); have hHw := HV.new_at w4 ⟨true, (G : Int), (L : Int), wrap64 (S : Int)⟩ 74 w4.heap.size rfl; have hb5 := gal (gre w4) (.cells #[.bool true, .int .i64 (G : Int), .int .i64 (L : Int), .int .i64 (wrap64 (S : Int))] 74); have hR5 := hR4.grow hb5; have hAt5 : BytesAt _ oa bs := hS3.low.at_.grow hb5)
              | (go_at_call 144; refine (sEight_known _ _ _ _ _ L r2 _ hS1 (by show _ = _; rw [d1.out]; exact E2.out)).mono ?_; rintro e w3 ⟨rfl, ⟨at2, hS2, d2⟩, hK2⟩)
              | (go_at_call 144; refine (sEight_known _ _ _ _ _ G r1 _ hS0 E1).mono ?_; rintro e w2 ⟨rfl, ⟨at1, hS1, d1⟩, hK1⟩))
        obtain ⟨c0, c1, c2, c3, K⟩ := ret4 hR6 (.bool false) (.int .i64 0) (.int .i64 0) (.int .i64 0)
        exact bodyPost_ret (v := noH.val) (by simp [results, Try.results114, go_sem, c0, c1, c2, c3]) rfl ⟨rfl, (gca (gca hB5 hb5) hb6).trans (K.below (B := w.heap.size) (gca (gca hB5 hb5) hb6).size (fun k hk e => by omega))⟩
      | true =>
        have t3' : Hid _ := t3
        by_cases t4 : headB (G : Int) (L : Int) (wrap64 (S : Int)) = bs
        · have t4' : Hid (decide (headB (G : Int) (L : Int) (wrap64 (S : Int)) = bs) = true) := decide_eq_true t4
          rw [headOf_yes (x := ⟨true, (G : Int), (L : Int), wrap64 (S : Int)⟩) ⟨rfl, t3, by unfold I64 wrap64; simp only; omega, t4.symm⟩]
          clear t3 t4
          go_upto_region 99 with (first
                | (go_at_call 116; refine (l4headok_any true (G : Int) (L : Int) (wrap64 (S : Int)) _).mono ?_; rintro e w6 ⟨rfl, hb6⟩; rw [t3'.out]; have hR6 := hR5.grow hb6; have hH6 := hHw.grow hb6; obtain ⟨⟨_, z0, z1, z2, z3⟩, zf⟩ := id hR6; obtain ⟨⟨_, y0, y1, y2, y3⟩, yf⟩ := id hH6)
                | (go_at_call 117; refine (l4block_any true (G : Int) (L : Int) (wrap64 (S : Int)) _).mono ?_; rintro e w7 ⟨oa7, c7, rfl, hO7, hb7⟩)
                | (go_at_call 85; refine (l2equal_any oa7 oa (headB (G : Int) (L : Int) (wrap64 (S : Int))) bs c7 c _ (by rw [headB_length]; decide) (by rw [hbl.out]; decide) (owns_atH hO7) (hAt5.grow (gca hb6 hb7))).mono ?_; rintro e w8 ⟨rfl, hb8⟩; rw [t4'.out]; have hR8 := (hR6.grow hb7).grow hb8; have hH8 := (hH6.grow hb7).grow hb8; obtain ⟨⟨_, z0, z1, z2, z3⟩, zf⟩ := id hR8; obtain ⟨⟨_, y0, y1, y2, y3⟩, yf⟩ := id hH8)
                | (go_at_call 109; refine (l3read_own d l m _ hf (ha.grow hA) hm).mono ?_; rw [show readN d.blocks d.waiting (m : Int) d.waiting.length = bs from hbs.out.symm]; rintro e w1 ⟨oa, c, rfl, hO, hb1⟩; have hlc : bs.length ≤ c := owns_capH hO; have hS0 := SR.new (owns_bytes hO) hlc (by have := hbl.out; omega) hbb 4 (by have := hbl.out; omega) 4 rfl; have hAt := owns_bytes hO; have hRl := (hR0.grow hb1).box.lt; have hb2 := gal hb1 (.cells #[.slice oa bs.length c, .int .i64 4, .bool false] 111))
                | (go_at_call 144; refine (sEight_known _ _ _ _ _ S r3 _ hS2 (by show _ = _; rw [d2.out]; exact E3.out)).mono ?_; rintro e w4 ⟨rfl, ⟨at3, hS3, d3⟩, hK3⟩; have hR4 := (((hR0.grow hb2).kept hK1 (by omega)).kept hK2 (by omega)).kept hK3 (by omega); obtain ⟨⟨_, z0, z1, z2, z3⟩, zf⟩ := id hR4; have hB2 := gca hA hb2; have hB3 := hB2.trans (hK1.below (B := w.heap.size) hB2.size (fun k hk e => by omega)); have hB4 := hB3.trans (hK2.below (B := w.heap.size) hB3.size (fun k hk e => by omega)); have hB5 := hB4.trans (hK3.below (B := w.heap.size) hB4.size (fun k hk e => by omega)); have hK := (hK1.trans hK2 (fun _ _ h => h)).trans hK3 (fun _ _ h => h); have hHw := HV.new_at w4 ⟨true, (G : Int), (L : Int), wrap64 (S : Int)⟩ 74 w4.heap.size rfl; have hb5 := gal (gre w4) (.cells #[.bool true, .int .i64 (G : Int), .int .i64 (L : Int), .int .i64 (wrap64 (S : Int))] 74); have hR5 := hR4.grow hb5; have hAt5 : BytesAt _ oa bs := hS3.low.at_.grow hb5)
                | (go_at_call 144; refine (sEight_known _ _ _ _ _ L r2 _ hS1 (by show _ = _; rw [d1.out]; exact E2.out)).mono ?_; rintro e w3 ⟨rfl, ⟨at2, hS2, d2⟩, hK2⟩)
                | (go_at_call 144; refine (sEight_known _ _ _ _ _ G r1 _ hS0 E1).mono ?_; rintro e w2 ⟨rfl, ⟨at1, hS1, d1⟩, hK1⟩))
          obtain ⟨c0, c1, c2, c3, K⟩ := ret4 hR8 (.bool true) (.int .i64 (G : Int)) (.int .i64 (L : Int)) (.int .i64 (wrap64 (S : Int)))
          have hB8 := gca (gca (gca (gca hB5 hb5) hb6) hb7) hb8
          exact bodyPost_ret (v := headV true (G : Int) (L : Int) (wrap64 (S : Int))) (by simp [results, Try.results114, go_sem, c0, c1, c2, c3]) rfl ⟨rfl, hB8.trans (K.below (B := w.heap.size) hB8.size (fun k hk e => by omega))⟩
        · have t4' : Hid (decide (headB (G : Int) (L : Int) (wrap64 (S : Int)) = bs) = false) := decide_eq_false t4
          rw [hno False id (Or.inr (Or.inr (Or.inr t4)))]
          clear t3 t4
          go_upto_region 99 with (first
                | (go_at_call 116; refine (l4headok_any true (G : Int) (L : Int) (wrap64 (S : Int)) _).mono ?_; rintro e w6 ⟨rfl, hb6⟩; rw [t3'.out]; have hR6 := hR5.grow hb6; have hH6 := hHw.grow hb6; obtain ⟨⟨_, z0, z1, z2, z3⟩, zf⟩ := id hR6; obtain ⟨⟨_, y0, y1, y2, y3⟩, yf⟩ := id hH6)
                | (go_at_call 117; refine (l4block_any true (G : Int) (L : Int) (wrap64 (S : Int)) _).mono ?_; rintro e w7 ⟨oa7, c7, rfl, hO7, hb7⟩)
                | (go_at_call 85; refine (l2equal_any oa7 oa (headB (G : Int) (L : Int) (wrap64 (S : Int))) bs c7 c _ (by rw [headB_length]; decide) (by rw [hbl.out]; decide) (owns_atH hO7) (hAt5.grow (gca hb6 hb7))).mono ?_; rintro e w8 ⟨rfl, hb8⟩; rw [t4'.out]; have hR8 := (hR6.grow hb7).grow hb8; have hH8 := (hH6.grow hb7).grow hb8; obtain ⟨⟨_, z0, z1, z2, z3⟩, zf⟩ := id hR8; obtain ⟨⟨_, y0, y1, y2, y3⟩, yf⟩ := id hH8)
                | (go_at_call 109; refine (l3read_own d l m _ hf (ha.grow hA) hm).mono ?_; rw [show readN d.blocks d.waiting (m : Int) d.waiting.length = bs from hbs.out.symm]; rintro e w1 ⟨oa, c, rfl, hO, hb1⟩; have hlc : bs.length ≤ c := owns_capH hO; have hS0 := SR.new (owns_bytes hO) hlc (by have := hbl.out; omega) hbb 4 (by have := hbl.out; omega) 4 rfl; have hAt := owns_bytes hO; have hRl := (hR0.grow hb1).box.lt; have hb2 := gal hb1 (.cells #[.slice oa bs.length c, .int .i64 4, .bool false] 111))
                | (go_at_call 144; refine (sEight_known _ _ _ _ _ S r3 _ hS2 (by show _ = _; rw [d2.out]; exact E3.out)).mono ?_; rintro e w4 ⟨rfl, ⟨at3, hS3, d3⟩, hK3⟩; have hR4 := (((hR0.grow hb2).kept hK1 (by omega)).kept hK2 (by omega)).kept hK3 (by omega); obtain ⟨⟨_, z0, z1, z2, z3⟩, zf⟩ := id hR4; have hB2 := gca hA hb2; have hB3 := hB2.trans (hK1.below (B := w.heap.size) hB2.size (fun k hk e => by omega)); have hB4 := hB3.trans (hK2.below (B := w.heap.size) hB3.size (fun k hk e => by omega)); have hB5 := hB4.trans (hK3.below (B := w.heap.size) hB4.size (fun k hk e => by omega)); have hK := (hK1.trans hK2 (fun _ _ h => h)).trans hK3 (fun _ _ h => h); have hHw := HV.new_at w4 ⟨true, (G : Int), (L : Int), wrap64 (S : Int)⟩ 74 w4.heap.size rfl; have hb5 := gal (gre w4) (.cells #[.bool true, .int .i64 (G : Int), .int .i64 (L : Int), .int .i64 (wrap64 (S : Int))] 74); have hR5 := hR4.grow hb5; have hAt5 : BytesAt _ oa bs := hS3.low.at_.grow hb5)
                | (go_at_call 144; refine (sEight_known _ _ _ _ _ L r2 _ hS1 (by show _ = _; rw [d1.out]; exact E2.out)).mono ?_; rintro e w3 ⟨rfl, ⟨at2, hS2, d2⟩, hK2⟩)
                | (go_at_call 144; refine (sEight_known _ _ _ _ _ G r1 _ hS0 E1).mono ?_; rintro e w2 ⟨rfl, ⟨at1, hS1, d1⟩, hK1⟩))
          obtain ⟨c0, c1, c2, c3, K⟩ := ret4 hR8 (.bool false) (.int .i64 0) (.int .i64 0) (.int .i64 0)
          exact bodyPost_ret (v := noH.val) (by simp [results, Try.results114, go_sem, c0, c1, c2, c3]) rfl ⟨rfl, (gca (gca (gca (gca hB5 hb5) hb6) hb7) hb8).trans (K.below (B := w.heap.size) (gca (gca (gca (gca hB5 hb5) hb6) hb7) hb8).size (fun k hk e => by omega))⟩

end Go.Proofs.Ythjddpkegooobab

/-
  SHEAD2: the specification's HeadOf. Own work.
-/
namespace Go.Proofs.Ythjddpkegooobab
open Go.RowKit

def DD.headOf (d : DD) (b : Int) : HH := if d.ok = true ∧ 0 ≤ b ∧ b < 2 then Go.Proofs.Ythjddpkegooobab.headOf (d.rd b.toNat) else noH

end Go.Proofs.Ythjddpkegooobab

/-
  SHEAD2: the specification's HeadOf. Own work.
-/
namespace Go.Proofs.Ythjddpkegooobab
open Go.RowKit

set_option maxHeartbeats 1000000 in
set_option maxRecDepth 100000 in
theorem specHeadOf_any (d : DD) (l : DL) (b : Int) (w : World) (hd : d.Ok) (ha : DAt w l d) (hb : I64 b) :
    Calls Try.prog 50 #[d.val l, .int .i64 b] w fun e w' => e = .returned (d.headOf b).val ∧ Below w.heap.size w w' := by
  unfold I64 at hb
  have hA := gal (gal (gre w) (.cells #[.slice l.ba d.blocks.length l.bc, .slice l.wa d.waiting.length l.wc] 50)) (.cells #[.bool false, .int .i64 0, .int .i64 0, .int .i64 0] 74)
  have hX0 := (DBox.new w d l 50).grow (gal (gre _) (.cells #[.bool false, .int .i64 0, .int .i64 0, .int .i64 0] 74))
  have hR0 := HV.new_at (w.alloc (.cells #[.slice l.ba d.blocks.length l.bc, .slice l.wa d.waiting.length l.wc] 50)) noH 74 (w.heap.size + 1) (by simp)
  cases hok : d.ok with
  | false =>
    have hok' : Hid _ := hok
    rw [show d.headOf b = noH from if_neg (fun h => by rw [hok] at h; cases h.1)]
    clear hok
    go_enter Try.func50, Try.ntmps50
    go_upto_region 99 with (go_at_call 36; refine (specDiskOk_any d l _ hd (ha.grow hA)).mono ?_; rintro e w2 ⟨rfl, hb2⟩; rw [hok'.out]; have hR2 := hR0.grow hb2; obtain ⟨⟨_, z0, z1, z2, z3⟩, zf⟩ := id hR2)
    obtain ⟨c0, c1, c2, c3, K⟩ := ret4 hR2 (.bool false) (.int .i64 0) (.int .i64 0) (.int .i64 0)
    exact bodyPost_ret (v := noH.val) (by simp [results, Try.results50, go_sem, c0, c1, c2, c3]) rfl ⟨rfl, (gca hA hb2).trans (K.below (B := w.heap.size) (gca hA hb2).size (fun k hk e => by omega))⟩
  | true =>
    have hok' : Hid _ := hok
    by_cases g0 : b < 0
    · rw [show d.headOf b = noH from if_neg (fun h => by omega)]
      clear hok
      go_enter Try.func50, Try.ntmps50
      go_upto_region 99 with (go_at_call 36; refine (specDiskOk_any d l _ hd (ha.grow hA)).mono ?_; rintro e w2 ⟨rfl, hb2⟩; rw [hok'.out]; have hR2 := hR0.grow hb2; obtain ⟨⟨_, z0, z1, z2, z3⟩, zf⟩ := id hR2)
      obtain ⟨c0, c1, c2, c3, K⟩ := ret4 hR2 (.bool false) (.int .i64 0) (.int .i64 0) (.int .i64 0)
      exact bodyPost_ret (v := noH.val) (by simp [results, Try.results50, go_sem, c0, c1, c2, c3]) rfl ⟨rfl, (gca hA hb2).trans (K.below (B := w.heap.size) (gca hA hb2).size (fun k hk e => by omega))⟩
    · by_cases g1 : (1 : Int) < b
      · rw [show d.headOf b = noH from if_neg (fun h => by omega)]
        clear hok
        go_enter Try.func50, Try.ntmps50
        go_upto_region 99 with (go_at_call 36; refine (specDiskOk_any d l _ hd (ha.grow hA)).mono ?_; rintro e w2 ⟨rfl, hb2⟩; rw [hok'.out]; have hR2 := hR0.grow hb2; obtain ⟨⟨_, z0, z1, z2, z3⟩, zf⟩ := id hR2)
        obtain ⟨c0, c1, c2, c3, K⟩ := ret4 hR2 (.bool false) (.int .i64 0) (.int .i64 0) (.int .i64 0)
        exact bodyPost_ret (v := noH.val) (by simp [results, Try.results50, go_sem, c0, c1, c2, c3]) rfl ⟨rfl, (gca hA hb2).trans (K.below (B := w.heap.size) (gca hA hb2).size (fun k hk e => by omega))⟩
      · obtain ⟨m, rfl⟩ : ∃ m : Nat, b = (m : Int) := ⟨b.toNat, by omega⟩
        have hm : m < 130 := by omega
        rw [show d.headOf (m : Int) = Go.Proofs.Ythjddpkegooobab.headOf (d.rd m) from (if_pos ⟨hok, by omega, by omega⟩).trans (by simp)]
        obtain ⟨h, hh⟩ := hid_ex (Go.Proofs.Ythjddpkegooobab.headOf (d.rd m))
        rw [← hh.out]
        clear hok
        go_enter Try.func50, Try.ntmps50
        go_upto_region 99 with (first
          | (go_at_call 36; refine (specDiskOk_any d l _ hd (ha.grow hA)).mono ?_; rintro e w2 ⟨rfl, hb2⟩; rw [hok'.out]; obtain ⟨_, x0, x1⟩ := hX0.grow hb2)
          | (go_at_call 114; refine (l4head_any d l m _ (DD.fit hok'.out) hd (ha.grow (gca hA hb2)) hm).mono ?_; rw [← hh.out]; rintro e w3 ⟨rfl, hb3⟩; have hR3 := (hR0.grow hb2).grow hb3; obtain ⟨⟨_, z0, z1, z2, z3⟩, zf⟩ := id hR3))
        obtain ⟨c0, c1, c2, c3, K⟩ := ret4 hR3 (.bool h.ok) (.int .i64 h.gen) (.int .i64 h.len) (.int .i64 h.sum)
        exact bodyPost_ret (v := h.val) (by simp [results, Try.results50, go_sem, c0, c1, c2, c3]) rfl ⟨rfl, (gca (gca hA hb2) hb3).trans (K.below (B := w.heap.size) (gca (gca hA hb2) hb3).size (fun k hk e => by omega))⟩

end Go.Proofs.Ythjddpkegooobab
