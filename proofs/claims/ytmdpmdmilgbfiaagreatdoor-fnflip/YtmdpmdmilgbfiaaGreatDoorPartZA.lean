import Derived.WalkKit
import Derived.LaidEql
import Derived.Stop.Asserts
import Derived.RowKitTokens
import Derived.Test.YtmdpmdmilgbfiaaGreatDoorPartK

/-
  CANONMAP: numbering nodes anew changes no form. Own work.
-/
namespace Go.Proofs.YtmdpmdmilgbfiaaGreatDoor

/-- a value, its node by another number -/
def mapV (f : Nat → Nat) (v : GV) : GV := if v.kind = 4 then { v with node := (f v.node.toNat : Nat) } else v
theorem mapV_kind (f : Nat → Nat) (v : GV) : (mapV f v).kind = v.kind := by unfold mapV; split <;> rfl
theorem mapV_node {f : Nat → Nat} {v : GV} (h : v.kind = 4) : (mapV f v).node.toNat = f v.node.toNat := by
  unfold mapV; rw [if_pos h]; exact Int.toNat_natCast _

section
variable {f : Nat → Nat} {S : Nat → Prop}

theorem mem_map_inj (hf : ∀ i j, S i → S j → f i = f j → i = j) {ord : List Nat} (ho : ∀ x, x ∈ ord → S x) {i : Nat} (hi : S i) : f i ∈ ord.map f ↔ i ∈ ord := by
  constructor
  · intro h
    obtain ⟨j, hj, e⟩ := List.mem_map.1 h
    rw [← hf j i (ho j hj) hi e]; exact hj
  · intro h
    exact List.mem_map.2 ⟨i, h, rfl⟩
theorem idxOf_mapS (hf : ∀ i j, S i → S j → f i = f j → i = j) : ∀ {ord : List Nat}, (∀ x, x ∈ ord → S x) → ∀ {i : Nat}, S i → (ord.map f).idxOf (f i) = ord.idxOf i
  | [], _, _, _ => rfl
  | y :: r, ho, i, hi => by
    rw [List.map_cons, List.idxOf_cons, List.idxOf_cons]
    by_cases e : y = i
    · subst e; simp
    · have e2 : f y ≠ f i := fun h => e (hf y i (ho y (List.mem_cons_self ..)) hi h)
      rw [show (f y == f i) = false from beq_eq_false_iff_ne.2 e2, show (y == i) = false from beq_eq_false_iff_ne.2 e, idxOf_mapS hf (fun x hx => ho x (List.mem_cons_of_mem _ hx)) hi]

theorem renOrd_map (hf : ∀ i j, S i → S j → f i = f j → i = j) {ord : List Nat} (ho : ∀ x, x ∈ ord → S x) {v : GV} (hv : v.kind = 4 → S v.node.toNat) : renOrd (ord.map f) (mapV f v) = (renOrd ord v).map f := by
  unfold renOrd
  rw [mapV_kind]
  by_cases hk : v.kind = 4
  · rw [mapV_node hk]
    by_cases hm : v.node.toNat ∈ ord
    · rw [if_neg (fun h => h.2 ((mem_map_inj hf ho (hv hk)).2 hm)), if_neg (fun h => h.2 hm)]
    · rw [if_pos ⟨hk, fun h => hm ((mem_map_inj hf ho (hv hk)).1 h)⟩, if_pos ⟨hk, hm⟩, List.map_append]
      rfl
  · rw [if_neg (fun h => hk h.1), if_neg (fun h => hk h.1)]
theorem renOrd_in {ord : List Nat} (ho : ∀ x, x ∈ ord → S x) {v : GV} (hv : v.kind = 4 → S v.node.toNat) : ∀ x, x ∈ renOrd ord v → S x := by
  intro x hx
  unfold renOrd at hx
  split at hx
  · rename_i h
    rcases List.mem_append.1 hx with h1 | h1
    · exact ho x h1
    · rw [List.mem_singleton.1 h1]; exact hv h.1
  · exact ho x hx
theorem renVal_map (hf : ∀ i j, S i → S j → f i = f j → i = j) {ord : List Nat} (ho : ∀ x, x ∈ ord → S x) {v : GV} (hv : v.kind = 4 → S v.node.toNat) : renVal (ord.map f) (mapV f v) = renVal ord v := by
  by_cases hk : v.kind = 4
  · unfold renVal
    rw [mapV_kind, if_pos hk, if_pos hk, renOrd_map hf ho hv, mapV_node hk, idxOf_mapS hf (renOrd_in ho hv) (hv hk)]
    unfold mapV
    rw [if_pos hk]
  · have e : mapV f v = v := by unfold mapV; rw [if_neg hk]
    rw [e]; unfold renVal
    rw [if_neg hk, if_neg hk]
theorem renOrds_map (hf : ∀ i j, S i → S j → f i = f j → i = j) : ∀ {l : List GV} {ord : List Nat}, (∀ x, x ∈ ord → S x) → (∀ v, v ∈ l → v.kind = 4 → S v.node.toNat) → renOrds (ord.map f) (l.map (mapV f)) = (renOrds ord l).map f ∧ renVals (ord.map f) (l.map (mapV f)) = renVals ord l ∧ ∀ x, x ∈ renOrds ord l → S x
  | [], _, ho, _ => ⟨rfl, rfl, ho⟩
  | v :: l, ord, ho, hv => by
    have h0 := hv v (List.mem_cons_self ..)
    obtain ⟨h1, h2, h3⟩ := renOrds_map hf (l := l) (ord := renOrd ord v) (renOrd_in ho h0) (fun x hx => hv x (List.mem_cons_of_mem _ hx))
    refine ⟨?_, ?_, h3⟩
    · show renOrds (renOrd (ord.map f) (mapV f v)) (l.map (mapV f)) = _
      rw [renOrd_map hf ho h0]; exact h1
    · show renVal (ord.map f) (mapV f v) :: renVals (renOrd (ord.map f) (mapV f v)) (l.map (mapV f)) = renVal ord v :: renVals (renOrd ord v) l
      rw [renOrd_map hf ho h0, renVal_map hf ho h0, h2]

/-- the one graph is the other, its nodes by other numbers -/
structure MapG (f : Nat → Nat) (S : Nat → Prop) (g h : GG) : Prop where
  inj : ∀ i j, S i → S j → f i = f j → i = j
  root : g.root.kind = 4 → S g.root.node.toNat
  rootEq : h.root = mapV f g.root
  node : ∀ i, S i → h.nodes[f i]! = ⟨g.nodes[i]!.tag, g.nodes[i]!.vals.map (mapV f)⟩
  vals : ∀ i, S i → ∀ v, v ∈ g.nodes[i]!.vals → v.kind = 4 → S v.node.toNat

theorem MapG.sim {g h : GG} (m : MapG f S g h) : ∀ k, canonO h.nodes (renOrd [] h.root) k = (canonO g.nodes (renOrd [] g.root) k).map f ∧ canonN h.nodes (renOrd [] h.root) k = canonN g.nodes (renOrd [] g.root) k ∧ ∀ x, x ∈ canonO g.nodes (renOrd [] g.root) k → S x
  | 0 => by
    have h0 : ∀ x, x ∈ ([] : List Nat) → S x := fun x hx => by cases hx
    refine ⟨?_, by unfold canonN; rfl, ?_⟩
    · unfold canonO
      rw [m.rootEq]
      exact renOrd_map (ord := []) m.inj h0 m.root
    · unfold canonO
      exact renOrd_in h0 m.root
  | k + 1 => by
    obtain ⟨h1, h2, h3⟩ := m.sim k
    rw [canonO_succ, canonN_succ, canonO_succ, canonN_succ, h1, h2, List.length_map]
    by_cases hk : k < (canonO g.nodes (renOrd [] g.root) k).length
    · have e : ((canonO g.nodes (renOrd [] g.root) k).map f)[k]! = f (canonO g.nodes (renOrd [] g.root) k)[k]! := by
        rw [getElem!_pos _ k (by rw [List.length_map]; exact hk), getElem!_pos _ k hk, List.getElem_map]
      have hS := h3 _ (mem_at hk)
      obtain ⟨r1, r2, r3⟩ := renOrds_map (l := (g.nodes[(canonO g.nodes (renOrd [] g.root) k)[k]!]!).vals) m.inj h3 (m.vals _ hS)
      rw [if_pos hk, if_pos hk, if_pos hk, if_pos hk, e, m.node _ hS]
      exact ⟨r1, by rw [r2], r3⟩
    · rw [if_neg hk, if_neg hk, if_neg hk, if_neg hk]
      exact ⟨rfl, rfl, h3⟩

theorem MapG.canon {g h : GG} (m : MapG f S g h) (hg : okG g = true) (hh : okG h = true) : canon h = canon g := by
  obtain ⟨_, gr, gn⟩ := okG_parts hg
  obtain ⟨_, hr, hn⟩ := okG_parts hh
  have ig := (canonO_inv ((InvO.nil _).ren gr) gn g.nodes.length).le
  have ih := (canonO_inv ((InvO.nil _).ren hr) hn h.nodes.length).le
  have er : renVal [] h.root = renVal [] g.root := by
    rw [m.rootEq]
    exact renVal_map (ord := []) m.inj (fun x hx => by cases hx) m.root
  unfold Go.Proofs.YtmdpmdmilgbfiaaGreatDoor.canon
  rw [er]
  congr 1
  rcases Nat.le_total g.nodes.length h.nodes.length with hl | hl
  · obtain ⟨s1, s2, _⟩ := m.sim g.nodes.length
    have h1 : (canonO h.nodes (renOrd [] h.root) g.nodes.length).length ≤ g.nodes.length := by rw [s1, List.length_map]; exact ig
    have h2 := (canon_stable h.nodes (renOrd [] h.root) g.nodes.length h1 (h.nodes.length - g.nodes.length)).2
    rw [show g.nodes.length + (h.nodes.length - g.nodes.length) = h.nodes.length by omega] at h2
    rw [h2, s2]
  · obtain ⟨s1, s2, _⟩ := m.sim h.nodes.length
    have h1 : (canonO g.nodes (renOrd [] g.root) h.nodes.length).length ≤ h.nodes.length := by
      have := congrArg List.length s1
      rw [List.length_map] at this
      omega
    have h2 := (canon_stable g.nodes (renOrd [] g.root) h.nodes.length h1 (g.nodes.length - h.nodes.length)).2
    rw [show h.nodes.length + (g.nodes.length - h.nodes.length) = g.nodes.length by omega] at h2
    rw [h2, s2]
end

/-! a form is its own form -/
theorem prefix_renOrd (ord : List Nat) (v : GV) : ord <+: renOrd ord v := by
  unfold renOrd
  split
  · exact List.prefix_append _ _
  · exact List.prefix_refl _
theorem prefix_renOrds (l : List GV) : ∀ ord : List Nat, ord <+: renOrds ord l := by
  induction l with
  | nil => intro ord; exact List.prefix_refl _
  | cons v r ih => intro ord; exact (prefix_renOrd ord v).trans (ih (renOrd ord v))
theorem prefix_canonO (nodes : List GN) (ord0 : List Nat) {k m : Nat} (h : k ≤ m) : canonO nodes ord0 k <+: canonO nodes ord0 m := by
  induction h with
  | refl => exact List.prefix_refl _
  | step _ ih =>
    refine ih.trans ?_
    rw [canonO_succ]
    split
    · exact prefix_renOrds _ _
    · exact List.prefix_refl _
theorem idxOf_prefix {a b : List Nat} (h : a <+: b) {x : Nat} (hx : x ∈ a) : b.idxOf x = a.idxOf x := by
  obtain ⟨c, rfl⟩ := h
  rw [List.idxOf_append, if_pos hx]
theorem renVal_prefix {ord o : List Nat} {v : GV} (h : renOrd ord v <+: o) : renVal ord v = mapV (fun x => o.idxOf x) v := by
  unfold renVal mapV
  by_cases hk : v.kind = 4
  · rw [if_pos hk, if_pos hk]
    dsimp only
    rw [idxOf_prefix h (mem_renOrd hk)]
  · rw [if_neg hk, if_neg hk]
theorem renVals_prefix : ∀ (l : List GV) (ord o : List Nat), renOrds ord l <+: o → renVals ord l = l.map (mapV fun x => o.idxOf x)
  | [], _, _, _ => rfl
  | v :: l, ord, o, h => by
    show renVal ord v :: renVals (renOrd ord v) l = _
    rw [List.map_cons, renVal_prefix ((prefix_renOrds l (renOrd ord v)).trans h), renVals_prefix l (renOrd ord v) o h]
theorem mem_renOrds : ∀ (l : List GV) (ord : List Nat) (v : GV), v ∈ l → v.kind = 4 → v.node.toNat ∈ renOrds ord l
  | [], _, _, h, _ => by cases h
  | x :: l, ord, v, h, hk => by
    rcases List.mem_cons.1 h with rfl | h
    · exact (prefix_renOrds l (renOrd ord v)).subset (mem_renOrd hk)
    · exact mem_renOrds l (renOrd ord x) v h hk

theorem canonN_get (nodes : List GN) (ord0 : List Nat) : ∀ (m k : Nat), k < m → k < (canonO nodes ord0 m).length → (canonN nodes ord0 m)[k]! = ⟨(nodes[(canonO nodes ord0 m)[k]!]!).tag, (nodes[(canonO nodes ord0 m)[k]!]!).vals.map (mapV fun x => (canonO nodes ord0 m).idxOf x)⟩ ∧ ∀ v, v ∈ (nodes[(canonO nodes ord0 m)[k]!]!).vals → v.kind = 4 → v.node.toNat ∈ canonO nodes ord0 m := by
  intro m k hkm hkl
  -- in round k the node was taken
  have hk0 : k < (canonO nodes ord0 k).length := by
    by_cases h : k < (canonO nodes ord0 k).length
    · exact h
    · have h1 := (canon_stable nodes ord0 k (by omega) (m - k)).1
      rw [show k + (m - k) = m by omega] at h1
      rw [h1] at hkl
      exact hkl
  have hp := prefix_canonO nodes ord0 (Nat.le_of_lt hkm)
  have hp1 := prefix_canonO nodes ord0 (show k + 1 ≤ m by omega)
  have e1 : (canonO nodes ord0 m)[k]! = (canonO nodes ord0 k)[k]! := by
    obtain ⟨c, hc⟩ := hp
    rw [← hc, getElem!_pos _ k (by rw [List.length_append]; omega), getElem!_pos _ k hk0, List.getElem_append_left hk0]
  have es : canonO nodes ord0 (k + 1) = renOrds (canonO nodes ord0 k) (nodes[(canonO nodes ord0 k)[k]!]!).vals := by rw [canonO_succ, if_pos hk0]
  refine ⟨?_, fun v hv hk4 => ?_⟩
  · have hN : ∀ j, k + 1 ≤ j → (canonN nodes ord0 j)[k]! = (canonN nodes ord0 (k + 1))[k]! := by
      intro j hj
      induction hj with
      | refl => rfl
      | step hle ih =>
        rename_i j'
        have hlen : k < (canonN nodes ord0 j').length := by
          rw [canonN_len]
          have h3 : k + 1 ≤ j' := hle
          have := canonO_mono nodes ord0 (Nat.le_of_succ_le h3)
          omega
        rw [← ih, canonN_succ]
        split
        · rw [getElem!_pos _ k (by rw [List.length_append]; omega), getElem!_pos _ k hlen, List.getElem_append_left hlen]
        · rfl
    rw [hN m (by omega), canonN_succ, if_pos hk0, e1]
    have hl : (canonN nodes ord0 k).length = k := by rw [canonN_len]; omega
    rw [getElem!_pos _ k (by rw [List.length_append, hl]; simp), List.getElem_append_right (by omega)]
    simp only [hl, Nat.sub_self, List.getElem_cons_zero]
    rw [renVals_prefix _ _ (canonO nodes ord0 m) (by rw [← es]; exact hp1)]
  · rw [e1] at hv
    refine hp1.subset ?_
    rw [es]
    exact mem_renOrds _ _ v hv hk4

theorem canon_mapG {g : GG} (hok : okG g = true) : MapG (fun x => (canonO g.nodes (renOrd [] g.root) g.nodes.length).idxOf x) (fun x => x ∈ canonO g.nodes (renOrd [] g.root) g.nodes.length) g (canon g) := by
  obtain ⟨_, gr, gn⟩ := okG_parts hok
  have hinv := canonO_inv ((InvO.nil _).ren gr) gn g.nodes.length
  have hp0 : renOrd [] g.root <+: canonO g.nodes (renOrd [] g.root) g.nodes.length := by
    have h := prefix_canonO g.nodes (renOrd [] g.root) (Nat.zero_le g.nodes.length)
    rwa [show canonO g.nodes (renOrd [] g.root) 0 = renOrd [] g.root by unfold canonO; rfl] at h
  have hat : ∀ i, i ∈ canonO g.nodes (renOrd [] g.root) g.nodes.length → ∃ k, k < (canonO g.nodes (renOrd [] g.root) g.nodes.length).length ∧ (canonO g.nodes (renOrd [] g.root) g.nodes.length).idxOf i = k ∧ (canonO g.nodes (renOrd [] g.root) g.nodes.length)[k]! = i := fun i hi => by
    have h1 := List.idxOf_lt_length_of_mem hi
    exact ⟨_, h1, rfl, (getElem!_pos (canonO g.nodes (renOrd [] g.root) g.nodes.length) _ h1).trans (List.getElem_idxOf h1)⟩
  refine ⟨fun i j hi hj e => ?_, fun hk => ?_, ?_, fun i hi => ?_, fun i hi v hv hk => ?_⟩
  · obtain ⟨k, _, e1, e2⟩ := hat i hi
    obtain ⟨k', _, e3, e4⟩ := hat j hj
    rw [← e2, ← e4, ← e1, ← e3, e]
  · exact hp0.subset (mem_renOrd hk)
  · exact renVal_prefix hp0
  · obtain ⟨k, hk, e1, e2⟩ := hat i hi
    have h1 := (canonN_get g.nodes (renOrd [] g.root) g.nodes.length k (by have := hinv.le; omega) hk).1
    rw [e1]
    rw [e2] at h1
    exact h1
  · obtain ⟨k, hk', e1, e2⟩ := hat i hi
    have h1 := (canonN_get g.nodes (renOrd [] g.root) g.nodes.length k (by have := hinv.le; omega) hk').2
    rw [e2] at h1
    exact h1 v hv hk

theorem canon_canon {g : GG} (hok : okG g = true) : canon (canon g) = canon g := (canon_mapG hok).canon hok (canon_okG hok)

end Go.Proofs.YtmdpmdmilgbfiaaGreatDoor

/-
  ROUNDP: images read back, plain. Own work.
-/
namespace Go.Proofs.YtmdpmdmilgbfiaaGreatDoor
open Go.RowKit

theorem imageB_canon {g : GG} (hok : okG g = true) : imageB (canon g) = imageB g := by unfold imageB; rw [canon_canon hok]
theorem packB_canon {g : GG} (hok : okG g = true) : packB (canon g) = packB g := by
  unfold packB
  rw [imageB_canon hok, canon_okG hok, hok]
theorem zeroG_Ok : zeroG.Ok := ⟨⟨by show I64 0; unfold I64; omega, by show I64 0; unfold I64; omega, by show (0 : Nat) ≤ maxLen; exact Nat.zero_le _, by show I64 0; unfold I64; omega⟩, by show 0 ≤ maxLen; exact Nat.zero_le _, fun x hx => by cases hx⟩
theorem unB_Ok (bs : List Nat) : (unB bs).2.Ok := by
  unfold unB
  split
  · rename_i g q h
    split
    · exact rdGraph_ok h
    · exact zeroG_Ok
  · exact zeroG_Ok
theorem unB_true {bs : List Nat} (h : (unB bs).1 = true) : packB (unB bs).2 = bs := by
  unfold unB at h ⊢
  cases h2 : rdGraph bs with
  | none => rw [h2] at h; cases h
  | some y =>
    obtain ⟨g, q⟩ := y
    rw [h2] at h
    dsimp only at h ⊢
    by_cases h3 : packB g = bs
    · rw [if_pos h3]; exact h3
    · rw [if_neg h3] at h; cases h
theorem unB_pack {g : GG} (hg : g.Ok) (hok : okG g = true) (hl : packB g ≠ []) : unB (packB g) = (true, canon g) := by
  have h1 : packB g = imageB g := by
    unfold packB at hl ⊢
    split
    · rfl
    · rename_i h; rw [if_neg h] at hl; exact absurd rfl hl
  have h2 : rdGraph (imageB g) = some (canon g, lowB 8 (sumN (graphB (canon g)))) := by
    unfold imageB formB
    exact rdGraph_back (canon_ok hg hok) (canon_okG hok) _
  have h3 : packB (canon g) = packB g := packB_canon hok
  unfold unB
  rw [h1, h2]
  show (if packB (canon g) = imageB g then (true, canon g) else (false, zeroG)) = _
  rw [h3, h1, if_pos rfl]

end Go.Proofs.YtmdpmdmilgbfiaaGreatDoor

/-
  ASERR: errors.As at a refusal. Own work, after the guide's worked example.
-/
namespace Go.Proofs.YtmdpmdmilgbfiaaGreatDoor
open Go.RowKit Go.Extern.Stop Go.Stop Go.Extern

theorem as_nilR (t : Value) (w : World) : Calls Tryz.prog 72 #[.nilIface, t] w fun e w' => e = .returned (.bool false) ∧ w' = w := by
  go_enter Tryz.func72, Tryz.ntmps72
  go_wp2
  go_ret
  exact ⟨rfl, rfl⟩

theorem asValueOfP (t : Addr) (w : World) : (ReflectliteValue.unpack (.iface 134 (.pointer (some t)))).run Tryz.prog w
    = .ok (.agg #[.pointer (some ⟨1, 134, none⟩), .pointer (some ⟨w.heap.size, 0, none⟩), .int .u64 150]) (w.alloc (.cells #[.pointer (some t)] 134)) := by kernel_rfl
theorem asTypeP (a : Addr) (w : World) : (ReflectliteValue.methodAny (ReflectliteValue.valueError "reflectlite.Value.Type" 0) (fun t _ _ _ => ReflectliteType.toType t) #[.agg #[.pointer (some ⟨1, 134, none⟩), .pointer (some a), .int .u64 150]]).run Tryz.prog w
    = .ok (.iface 211 (.agg #[.pointer (some ⟨1, 134, none⟩)])) w := by kernel_rfl
theorem asMKind (h : Value) (w : World) : (Go.method 364 211 (.agg #[h]) "Kind").run Tryz.prog w = .ok (167, h) w := by kernel_rfl
theorem asKindP (w : World) : ((ReflectliteType.abiMethod fun t => (fun a : Nat => Value.int IntKind.u8 (a : Int)) <$> Rtype.kind t) #[.pointer (some ⟨1, 134, none⟩)]).run Tryz.prog w = .ok (.int .u8 22) w := by kernel_rfl
theorem asKindR (w : World) : ((ReflectliteType.abiMethod fun t => (fun a : Nat => Value.int IntKind.u8 (a : Int)) <$> Rtype.kind t) #[.pointer (some ⟨1, 132, none⟩)]).run Tryz.prog w = .ok (.int .u8 25) w := by kernel_rfl

theorem asRlm (z : Sem Value) (f : TypeId → Addr → Nat → Nat → Sem Value) (v : Value) :
    ReflectliteValue.method z f #[v] = (do match ← ReflectliteValue.parts v with | none => z | some (t, a, fl) => f t a fl (fl % 32)) := rfl
theorem asPartsP (a : Addr) (w : World) : (ReflectliteValue.parts (.agg #[.pointer (some ⟨1, 134, none⟩), .pointer (some a), .int .u64 150])).run Tryz.prog w = .ok (some (134, a, 150)) w := by kernel_rfl
theorem asIsNilP (a p : Addr) (W : World) (ha : W.cell? a = some (.pointer (some p))) :
    (ReflectliteValue.method (ReflectliteValue.valueError "reflectlite.Value.IsNil" 0) ReflectliteValue.isNil #[.agg #[.pointer (some ⟨1, 134, none⟩), .pointer (some a), .int .u64 150]]).run Tryz.prog W = .ok (.bool false) W := by
  rw [asRlm]
  simp only [Sem.run_bind, asPartsP, Result.andThen]
  simp [ReflectliteValue.isNil, loadVar, isAgg, underlying, Tryz.underlying134, ha, Result.andThen]

theorem asMElem (h : Value) (w : World) : (Go.method 364 211 (.agg #[h]) "Elem").run Tryz.prog w = .ok (179, .agg #[h]) w := by kernel_rfl
theorem asMImpl (h : Value) (w : World) : (Go.method 364 211 (.agg #[h]) "Implements").run Tryz.prog w = .ok (180, .agg #[h]) w := by kernel_rfl
theorem asMAss (h : Value) (w : World) : (Go.method 364 211 (.agg #[h]) "AssignableTo").run Tryz.prog w = .ok (177, .agg #[h]) w := by kernel_rfl
theorem asElemP (w : World) : (ReflectliteType.method ReflectliteType.elem #[.agg #[.pointer (some ⟨1, 134, none⟩)]]).run Tryz.prog w = .ok (.iface 211 (.agg #[.pointer (some ⟨1, 132, none⟩)])) w := by kernel_rfl
theorem asImplR (w : World) : (ReflectliteType.relation "Implements" ReflectliteType.implements_ #[.agg #[.pointer (some ⟨1, 132, none⟩)], .iface 211 (.agg #[.pointer (some ⟨1, 80, none⟩)])]).run Tryz.prog w = .ok (.bool true) w := by kernel_rfl
theorem asTypeOfR (v : Value) (w : World) : (ReflectliteType.typeOf #[.iface 132 v]).run Tryz.prog w = .ok (.iface 211 (.agg #[.pointer (some ⟨1, 132, none⟩)])) w := by kernel_rfl
theorem asAssR (w : World) : (ReflectliteType.relation "AssignableTo" ReflectliteType.assignableTo #[.agg #[.pointer (some ⟨1, 132, none⟩)], .iface 211 (.agg #[.pointer (some ⟨1, 132, none⟩)])]).run Tryz.prog w = .ok (.bool true) w := by kernel_rfl
theorem asValueOfR (x y : Int) (w : World) : (ReflectliteValue.unpack (.iface 132 (.agg #[.int .i64 x, .int .i64 y]))).run Tryz.prog w
    = .ok (.agg #[.pointer (some ⟨1, 132, none⟩), .pointer (some ⟨w.heap.size, 0, none⟩), .int .u64 153]) (w.alloc (.cells #[.int .i64 x, .int .i64 y] 132)) := by kernel_rfl
theorem asElemOfP (w : World) : (Rtype.elem? 134).run Tryz.prog w = .ok (some 132) w := by kernel_rfl
theorem asMkR (p : Addr) (w : World) : (ReflectliteValue.mk 132 p ReflectliteValue.flagAddr).run Tryz.prog w = .ok (.agg #[.pointer (some ⟨1, 132, none⟩), .pointer (some p), .int .u64 409]) w := by kernel_rfl
theorem asElemVP (a p : Addr) (W : World) (ha : W.cell? a = some (.pointer (some p))) :
    (ReflectliteValue.method (ReflectliteValue.valueError "reflectlite.Value.Elem" 0) ReflectliteValue.elem #[.agg #[.pointer (some ⟨1, 134, none⟩), .pointer (some a), .int .u64 150]]).run Tryz.prog W
      = .ok (.agg #[.pointer (some ⟨1, 132, none⟩), .pointer (some p), .int .u64 409]) W := by
  rw [asRlm]
  simp only [Sem.run_bind, asPartsP, Result.andThen]
  simp [ReflectliteValue.elem, loadVar, isAgg, underlying, Tryz.underlying134, ha, Result.andThen, asElemOfP, asMkR]
theorem asRls (v x : Value) : ReflectliteValue.set #[v, x] = (do
    let (some (dst, a, fl), some (src, b, _)) := (← ReflectliteValue.parts v, ← ReflectliteValue.parts x)
      | unsupported (.noEntry "extern/(internal/reflectlite.Value).Set.zeroValue")
    if fl / ReflectliteValue.flagAddr % 2 == 0 then unsupported (.noEntry "extern/(internal/reflectlite.Value).Set.unaddressable")
    let val ← loadVar src b
    if ← Rtype.directlyAssignable dst src then storeVar dst a val
    else if ← Rtype.implements dst src then
      if (← Rtype.kind src) == 20 then
        match val with
        | .nilIface => unsupported (.noEntry "extern/reflectlite: a nil value of one interface type handed on as a value of another")
        | _ => storeVar dst a val
      else storeVar dst a (.iface src val)
    else panicString ("reflectlite.Set: value of type " ++ (← Rtype.spelt src) ++ " is not assignable to type " ++ (← Rtype.spelt dst))
    pure (.tuple #[])) := rfl
theorem asPartsRa (a : Addr) (w : World) : (ReflectliteValue.parts (.agg #[.pointer (some ⟨1, 132, none⟩), .pointer (some a), .int .u64 409])).run Tryz.prog w = .ok (some (132, a, 409)) w := by kernel_rfl
theorem asPartsR (a : Addr) (w : World) : (ReflectliteValue.parts (.agg #[.pointer (some ⟨1, 132, none⟩), .pointer (some a), .int .u64 153])).run Tryz.prog w = .ok (some (132, a, 153)) w := by kernel_rfl
theorem asDirectR (w : World) : (Rtype.directlyAssignable 132 132).run Tryz.prog w = .ok true w := by kernel_rfl
theorem asSetR (T B : Nat) (x y : Int) (o0 o1 : Value) (W : World) (hb0 : W.cell? ⟨B, 0, none⟩ = some (.int .i64 x)) (hb1 : W.cell? ⟨B, 1, none⟩ = some (.int .i64 y)) (ht0 : W.cell? ⟨T, 0, none⟩ = some o0) (ht1 : W.cell? ⟨T, 1, none⟩ = some o1) (hf : ∀ o, W.frozen? ⟨T, o, none⟩ = false) :
    (ReflectliteValue.set #[.agg #[.pointer (some ⟨1, 132, none⟩), .pointer (some ⟨T, 0, none⟩), .int .u64 409], .agg #[.pointer (some ⟨1, 132, none⟩), .pointer (some ⟨B, 0, none⟩), .int .u64 153]]).run Tryz.prog W
      = .ok (.tuple #[]) ((W.setCell ⟨T, 0, none⟩ (.int .i64 x)).setCell ⟨T, 1, none⟩ (.int .i64 y)) := by
  rw [asRls]
  simp only [Sem.run_bind, asPartsRa, asPartsR, Result.andThen]
  simp [ReflectliteValue.flagAddr, loadVar, isAgg, underlying, Tryz.underlying132, Result.andThen, asDirectR, storeVar, Value.cells, storeCells, Addr.add]
  have hL : (loadCells ⟨B, 0, none⟩ 2).run Tryz.prog W = .ok #[.int .i64 x, .int .i64 y] W := by
    simp [loadCells, loadCellsFrom, Sem.run_bind, hb0, hb1, Result.andThen, Addr.add]
  rw [hL]
  have h1 : (W.setCell ⟨T, 0, none⟩ (.int .i64 x)).cell? ⟨T, 1, none⟩ = some o1 := by rw [World.cell?_setCell_other _ _ _ _ (by simp)]; exact ht1
  simp [storeCells, Sem.run_bind, Addr.add]
  rw [run_store Tryz.prog W ⟨T, 0, none⟩ _ _ (by rfl)]
  simp [ht0, hf]
  rw [run_store Tryz.prog _ ⟨T, 1, none⟩ _ _ (by rfl)]
  simp [h1, hf]

/-- errors.As at a refusal: it is written into the target -/
def AsHit (T : Nat) (x y : Int) (w : World) (e : Ending) (w' : World) : Prop := e = .returned (.bool true) ∧ Kept (fun z => z = T) w w' ∧ w'.cell? ⟨T, 0, none⟩ = some (.int .i64 x) ∧ w'.cell? ⟨T, 1, none⟩ = some (.int .i64 y)

set_option maxHeartbeats 4000000 in
set_option maxRecDepth 100000 in
theorem as_hitR (T : Nat) (x y : Int) (o0 o1 : Value) (w : World) (hg : w.cell? ⟨0, 0, none⟩ = some (.iface 211 (.agg #[.pointer (some ⟨1, 80, none⟩)]))) (ht0 : w.cell? ⟨T, 0, none⟩ = some o0) (ht1 : w.cell? ⟨T, 1, none⟩ = some o1) (hf : ∀ o, w.frozen? ⟨T, o, none⟩ = false) :
    Calls Tryz.prog 72 #[.iface 132 (.agg #[.int .i64 x, .int .i64 y]), .iface 134 (.pointer (some ⟨T, 0, none⟩))] w (AsHit T x y w) := by
  have h6 := @run_callFunc_extern Tryz.prog 115 _ (fun args => ReflectliteValue.unpack (args.getD 0 (.tuple #[]))) Tryz.func115 (by kernel_rfl) (by kernel_rfl) (by kernel_rfl) (by kernel_rfl)
  have h7 := @run_callFunc_extern Tryz.prog 116 _ (ReflectliteValue.methodAny (ReflectliteValue.valueError "reflectlite.Value.Type" 0) (fun t _ _ _ => ReflectliteType.toType t)) Tryz.func116 (by kernel_rfl) (by kernel_rfl) (by kernel_rfl) (by kernel_rfl)
  have h8 := @run_callFunc_extern Tryz.prog 117 _ (ReflectliteValue.method (ReflectliteValue.valueError "reflectlite.Value.IsNil" 0) ReflectliteValue.isNil) Tryz.func117 (by kernel_rfl) (by kernel_rfl) (by kernel_rfl) (by kernel_rfl)
  have h27 := @run_callFunc_extern Tryz.prog 167 _ (ReflectliteType.abiMethod fun t => do pure (.int .u8 (← Rtype.kind t))) Tryz.func167 (by kernel_rfl) (by kernel_rfl) (by kernel_rfl) (by kernel_rfl)
  have h37 := @run_callFunc_extern Tryz.prog 179 _ (ReflectliteType.method ReflectliteType.elem) Tryz.func179 (by kernel_rfl) (by kernel_rfl) (by kernel_rfl) (by kernel_rfl)
  have h38 := @run_callFunc_extern Tryz.prog 180 _ (ReflectliteType.relation "Implements" ReflectliteType.implements_) Tryz.func180 (by kernel_rfl) (by kernel_rfl) (by kernel_rfl) (by kernel_rfl)
  have h10 := @run_callFunc_extern Tryz.prog 140 _ (ReflectliteType.typeOf) Tryz.func140 (by kernel_rfl) (by kernel_rfl) (by kernel_rfl) (by kernel_rfl)
  have h35 := @run_callFunc_extern Tryz.prog 177 _ (ReflectliteType.relation "AssignableTo" ReflectliteType.assignableTo) Tryz.func177 (by kernel_rfl) (by kernel_rfl) (by kernel_rfl) (by kernel_rfl)
  have h11 := @run_callFunc_extern Tryz.prog 141 _ (ReflectliteValue.method (ReflectliteValue.valueError "reflectlite.Value.Elem" 0) ReflectliteValue.elem) Tryz.func141 (by kernel_rfl) (by kernel_rfl) (by kernel_rfl) (by kernel_rfl)
  have h12 := @run_callFunc_extern Tryz.prog 142 _ (ReflectliteValue.set) Tryz.func142 (by kernel_rfl) (by kernel_rfl) (by kernel_rfl) (by kernel_rfl)
  have tO := asTypeOfR
  have mA := asMAss
  have a25 := asAssR
  have v25 := asValueOfR
  have f6 := asValueOfP
  have f7 := asTypeP
  have mK := asMKind
  have mE := asMElem
  have mI := asMImpl
  have k27 := asKindP
  have k25 := asKindR
  have e27 := asElemP
  have i25 := asImplR
  have hlt : 0 < w.heap.size := World.block_lt_of_cell? _ _ hg
  have htl : T < w.heap.size := World.block_lt_of_cell? _ _ ht0
  have n8 := asIsNilP ⟨w.heap.size, 0, none⟩ ⟨T, 0, none⟩ ((w.alloc (.cells #[.pointer (some ⟨T, 0, none⟩)] 134)).alloc (.cells #[.pointer (some ⟨1, 134, none⟩), .pointer (some ⟨w.heap.size, 0, none⟩), .int .u64 150] 181)) (by simp)
  have hg2 : ((w.alloc (.cells #[.pointer (some ⟨T, 0, none⟩)] 134)).alloc (.cells #[.pointer (some ⟨1, 134, none⟩), .pointer (some ⟨w.heap.size, 0, none⟩), .int .u64 150] 181)).cell? ⟨0, 0, none⟩ = some (.iface 211 (.agg #[.pointer (some ⟨1, 80, none⟩)])) := by
    rw [World.cell?_alloc_lt _ _ ⟨0, 0, none⟩ (by simp), World.cell?_alloc_lt _ _ ⟨0, 0, none⟩ hlt]; exact hg
  have el := asElemVP ⟨w.heap.size, 0, none⟩ ⟨T, 0, none⟩ (((w.alloc (.cells #[.pointer (some ⟨T, 0, none⟩)] 134)).alloc (.cells #[.pointer (some ⟨1, 134, none⟩), .pointer (some ⟨w.heap.size, 0, none⟩), .int .u64 150] 181)).alloc (.cells #[.pointer (some ⟨1, 134, none⟩), .pointer (some ⟨w.heap.size, 0, none⟩), .int .u64 150] 181)) (by rw [World.cell?_alloc_lt _ _ ⟨w.heap.size, 0, none⟩ (by simp; omega), World.cell?_alloc_lt _ _ ⟨w.heap.size, 0, none⟩ (by simp)]; simp)
  have hT0 : ((((w.alloc (.cells #[.pointer (some ⟨T, 0, none⟩)] 134)).alloc (.cells #[.pointer (some ⟨1, 134, none⟩), .pointer (some ⟨w.heap.size, 0, none⟩), .int .u64 150] 181)).alloc (.cells #[.pointer (some ⟨1, 134, none⟩), .pointer (some ⟨w.heap.size, 0, none⟩), .int .u64 150] 181)).alloc (.cells #[.int .i64 x, .int .i64 y] 132)).cell? ⟨T, 0, none⟩ = some o0 := by rw [World.cell?_alloc_lt _ _ ⟨T, 0, none⟩ (by simp; omega), World.cell?_alloc_lt _ _ ⟨T, 0, none⟩ (by simp; omega), World.cell?_alloc_lt _ _ ⟨T, 0, none⟩ (by simp; omega), World.cell?_alloc_lt _ _ ⟨T, 0, none⟩ htl]; exact ht0
  have hT1 : ((((w.alloc (.cells #[.pointer (some ⟨T, 0, none⟩)] 134)).alloc (.cells #[.pointer (some ⟨1, 134, none⟩), .pointer (some ⟨w.heap.size, 0, none⟩), .int .u64 150] 181)).alloc (.cells #[.pointer (some ⟨1, 134, none⟩), .pointer (some ⟨w.heap.size, 0, none⟩), .int .u64 150] 181)).alloc (.cells #[.int .i64 x, .int .i64 y] 132)).cell? ⟨T, 1, none⟩ = some o1 := by rw [World.cell?_alloc_lt _ _ ⟨T, 1, none⟩ (by simp; omega), World.cell?_alloc_lt _ _ ⟨T, 1, none⟩ (by simp; omega), World.cell?_alloc_lt _ _ ⟨T, 1, none⟩ (by simp; omega), World.cell?_alloc_lt _ _ ⟨T, 1, none⟩ htl]; exact ht1
  have st := asSetR T (w.heap.size + 1 + 1 + 1) x y o0 o1 ((((w.alloc (.cells #[.pointer (some ⟨T, 0, none⟩)] 134)).alloc (.cells #[.pointer (some ⟨1, 134, none⟩), .pointer (some ⟨w.heap.size, 0, none⟩), .int .u64 150] 181)).alloc (.cells #[.pointer (some ⟨1, 134, none⟩), .pointer (some ⟨w.heap.size, 0, none⟩), .int .u64 150] 181)).alloc (.cells #[.int .i64 x, .int .i64 y] 132))
    (by rw [World.cell?_alloc_at _ _ _ _ (by simp)]; rfl)
    (by rw [World.cell?_alloc_at _ _ _ _ (by simp)]; rfl)
    hT0
    hT1
    (fun o => by rw [World.frozen?_alloc_old _ _ ⟨T, o, none⟩ (by simp; omega), World.frozen?_alloc_old _ _ ⟨T, o, none⟩ (by simp; omega), World.frozen?_alloc_old _ _ ⟨T, o, none⟩ (by simp; omega), World.frozen?_alloc_old _ _ ⟨T, o, none⟩ (Nat.ne_of_lt htl)]; exact hf o)
  go_enter Tryz.func72, Tryz.ntmps72
  go_wp2
  refine wp_loop_rounds 1 ?_
  rw [rounds_succ]
  go_wp2
  go_ret
  exact ⟨rfl, ((((((Kept.refl (fun z => z = T) w).alloc _).alloc _).alloc _).alloc _).set (a := ⟨T, 0, none⟩) (fun _ => rfl) _).set (a := ⟨T, 1, none⟩) (fun _ => rfl) _, by rw [World.cell?_setCell_other _ _ _ _ (by simp)]; exact World.cell?_setCell_same _ _ _ hT0, World.cell?_setCell_same (u := o1) _ _ _ (by rw [World.cell?_setCell_other _ _ _ _ (by simp)]; exact hT1)⟩

end Go.Proofs.YtmdpmdmilgbfiaaGreatDoor

/-
  RD: the program's reader. Own work.
-/
namespace Go.Proofs.YtmdpmdmilgbfiaaGreatDoor
open Go.RowKit

set_option maxRecDepth 100000 in
theorem readText_any (b : Nat) (sa : Option Addr) (cap : Nat) (bs r : List Nat) (n : Nat) (z : Int) (w : World) (hR : Rd w b sa cap bs r) (hz : z = (n : Int)) (hn : n ≤ 1048576) :
    Calls Tryz.prog 145 #[.pointer (some ⟨b, 0, none⟩), .int .i64 z] w (RPost (rdText n r) (fun x => .string x) b sa cap bs w) := by
  subst hz
  obtain ⟨⟨k, hC, hk, hr⟩, hlow, hcap, hlen, hbyte⟩ := hR
  have hrl : r.length = bs.length - k := by rw [hr, List.length_drop]
  by_cases hlt : k + n ≤ bs.length
  · have e1 : Hid (rdText n r = some (strB (r.take n), r.drop n)) := if_pos (by omega)
    go_enter Tryz.func145, Tryz.ntmps145
    go_wp2_with (go_at_call 124; refine (next_fits b _ bs.length cap k n _ hC hcap (by unfold maxLen; omega) hlt).mono ?_; rintro e w1 ⟨p, c, rfl, hp, hC1, hK1⟩; have hlow1 := hlow.below (hK1.below (show b ≤ w.heap.size by have := hC.lt; omega) (fun k hk e => by omega)); have hbt := take_bytes (n := n) hlow1 hlt hp; rw [← hr] at hbt; have hcv := conv_text (n := n) (c := c) hbt (by rw [List.length_take]; omega))
    go_ret
    exact ⟨hK1, Or.inl ⟨_, _, e1, by rw [hr]; rfl, ⟨⟨k + n, hC1, hlt, by rw [hr, List.drop_drop]⟩, hlow1, hcap, hlen, hbyte⟩⟩⟩
  · have e1 : Hid (rdText n r = none) := if_neg (by omega)
    go_enter Tryz.func145, Tryz.ntmps145
    go_wp2_with (go_at_call 124; refine (next_not b _ bs.length cap k n _ hC (by unfold maxLen; omega) hk (by omega)).mono ?_; rintro e w1 ⟨rfl, hb⟩)
    exact ⟨rfl, Kept.of_below hb _, Or.inr ⟨e1, rfl⟩⟩

set_option maxRecDepth 100000 in
theorem readNumber_any (b : Nat) (sa : Option Addr) (cap : Nat) (bs r : List Nat) (w : World) (hR : Rd w b sa cap bs r) :
    Calls Tryz.prog 151 #[.pointer (some ⟨b, 0, none⟩)] w (RPost (rdNum 0 0 r) (fun x => .int .u64 (x : Int)) b sa cap bs w) := by
  go_enter Tryz.func151, Tryz.ntmps151
  go_wp2
  go_loopw [3, 4] (fun a c ws => ∃ (n s : Nat) (q : List Nat), a = .int .u64 n ∧ c = .int .i64 s ∧ n < 18446744073709551616 ∧ s + 7 * q.length ≤ 7 * bs.length ∧ Hid (rdNum 0 0 r = rdNum n s q) ∧ Rd ws b sa cap bs q ∧ Kept (fun k => k = b) w ws) (fun _ c _ => 7 * bs.length + 7 - (intOf c).toNat)
  case atStart =>
    refine ⟨0, 0, r, rfl, rfl, by omega, ?_, rfl, hR, Kept.refl _ _⟩
    obtain ⟨k, _, _, hr⟩ := hR.ex
    rw [hr, List.length_drop]; omega
  case round =>
    obtain ⟨n, s, q, rfl, rfl, hn, hs, hq, hRq, hK⟩ := hrel
    have hlen := hRq.len
    go_wp2_with (go_at_call 138; refine (readByte_any b sa cap bs q _ hRq).mono ?_; rintro e w1 ⟨hK1, ⟨x, r', hx, rfl, hR1⟩ | ⟨hno, rfl⟩⟩)
    · rename_i hlt
      obtain ⟨hx256, hqx⟩ := hRq.head hx.out
      have e5 : Hid (rdNum 0 0 r = some (orU n (x % 128) s, r')) := by show _ = _; rw [hq.out, hqx, rdNum, if_pos (by omega)]
      go_ret
      exact ⟨hK.trans hK1 (fun _ _ h => h), Or.inl ⟨_, r', e5, ret_int (or_form hn hx256), hR1⟩⟩
    · rename_i hlt
      obtain ⟨hx256, hqx⟩ := hRq.head hx.out
      have e5 : Hid (rdNum 0 0 r = rdNum (orU n (x % 128) s) (s + 7) r') := by show _ = _; rw [hq.out, hqx, rdNum, if_neg (by omega)]
      have hl2 : q.length = r'.length + 1 := by rw [hqx]; rfl
      refine ⟨⟨orU n (x % 128) s, s + 7, r', congrArg (Value.int .u64) (or_form hn hx256), by go_num, orU_lt hn, by omega, e5, hR1, hK.trans hK1 (fun _ _ h => h)⟩, ?_⟩
      simp [intOf]; omega
    · have e5 : Hid (rdNum 0 0 r = none) := by
        show _ = _
        rw [hq.out]
        cases q with
        | nil => rfl
        | cons y t => cases hno.out
      exact ⟨rfl, hK.trans hK1 (fun _ _ h => h), Or.inr ⟨e5, rfl⟩⟩

set_option maxRecDepth 100000 in
theorem readCount_any (b : Nat) (sa : Option Addr) (cap : Nat) (bs r : List Nat) (most : Nat) (z : Int) (w : World) (hR : Rd w b sa cap bs r) (hz : z = (most : Int)) (hm : most ≤ 1048576) :
    Calls Tryz.prog 146 #[.pointer (some ⟨b, 0, none⟩), .int .i64 z] w (RPost (rdCount most r) (fun x => .int .i64 (x : Int)) b sa cap bs w) := by
  subst hz
  have e6 : IntKind.u64.wrap (most : Int) = (most : Int) := by rw [IntKind.wrap_u64]; omega
  go_enter Tryz.func146, Tryz.ntmps146
  go_wp2_with (go_at_call 151; refine (readNumber_any b sa cap bs r _ hR).mono ?_; rintro e w1 ⟨hK1, ⟨x, r', hx, rfl, hR1⟩ | ⟨hno, rfl⟩⟩)
  · rename_i hgt
    have e5 : Hid (rdCount most r = none) := by show _ = _; unfold rdCount; rw [hx.out]; exact if_neg (by omega)
    exact ⟨rfl, hK1, Or.inr ⟨e5, rfl⟩⟩
  · rename_i hle
    have e5 : Hid (rdCount most r = some (x, r')) := by show _ = _; unfold rdCount; rw [hx.out]; exact if_pos (by omega)
    go_ret
    exact ⟨hK1, Or.inl ⟨x, r', e5, rfl, hR1⟩⟩
  · have e5 : Hid (rdCount most r = none) := by show _ = _; unfold rdCount; rw [hno.out]
    exact ⟨rfl, hK1, Or.inr ⟨e5, rfl⟩⟩

end Go.Proofs.YtmdpmdmilgbfiaaGreatDoor

/-
  RD2: the program's reader: words, values. Own work.
-/
namespace Go.Proofs.YtmdpmdmilgbfiaaGreatDoor
open Go.RowKit

set_option maxRecDepth 100000 in
theorem signed_any (n : Nat) (w : World) (hn : n < 18446744073709551616) :
    Calls Tryz.prog 152 #[.int .u64 (n : Int)] w fun e w' => e = .returned (.int .i64 (zag n)) ∧ Below w.heap.size w w' := by
  go_enter Tryz.func152, Tryz.ntmps152
  go_wp2
  go_ret
  exact ⟨ret_int (zag_form hn), gre _⟩

end Go.Proofs.YtmdpmdmilgbfiaaGreatDoor

/-
  RDV1: the program's reader: values. Own work.
-/
namespace Go.Proofs.YtmdpmdmilgbfiaaGreatDoor
open Go.RowKit

set_option maxHeartbeats 1000000 in
set_option maxRecDepth 100000 in
theorem readVal_nil (b : Nat) (sa : Option Addr) (cap : Nat) (bs t : List Nat)  (w : World) (hR : Rd w b sa cap bs (0 :: t))  :
    Calls Tryz.prog 147 #[.pointer (some ⟨b, 0, none⟩)] w (RVPost b sa cap bs (0 :: t) w) := by
  have hlt := hR.lt
  have hF0 := Four.new w ⟨0, 0, ⟨#[]⟩, 0⟩ 29
  go_enter Tryz.func147, Tryz.ntmps147
  go_wp2_with (go_at_call 138; refine (readByte_any b sa cap bs (0 :: t) _ (hR.grow (gal (gre _) _))).mono ?_; rintro e w1 h1; obtain ⟨rfl, hR1, hK1⟩ := RPost.ok h1; have hF1 := hF0.kept hK1 (by omega); obtain ⟨az, a0, a1, a2, a3, af⟩ := id hF1; have hG := Four.new w1 ⟨0, 0, ⟨#[]⟩, 0⟩ 29; have hs1 := hK1.size; simp only [World.size_alloc] at hs1)
  obtain ⟨_, f0, f1, f2, f3, _⟩ := (hF1.set4 ⟨0, 0, ⟨#[]⟩, 0⟩).alloc (.cells #[.int .i64 0, .int .i64 0, .string ⟨#[]⟩, .int .i64 0] 29)
  obtain ⟨hKF, hRF⟩ := fin4 hlt (kk ((Kept.refl _ w).alloc _) hK1) hR1 (.int .i64 0) (.int .i64 0) (.string ⟨#[]⟩) (.int .i64 0)
  refine bodyPost_ret (v := (GV.mk 0 0 ⟨#[]⟩ 0).val) (by simp [results, Tryz.results147, go_sem, f0, f1, f2, f3]) rfl ?_
  exact ⟨hKF.alloc _, Or.inl ⟨_, _, rfl, rfl, hRF.grow (gal (gre _) _)⟩⟩

set_option maxHeartbeats 1000000 in
set_option maxRecDepth 100000 in
theorem readVal_num (b : Nat) (sa : Option Addr) (cap : Nat) (bs t : List Nat) (n : Nat) (q : List Nat) (w : World) (hR : Rd w b sa cap bs (1 :: t)) (hq : Hid (rdNum 0 0 t = some (n, q))) :
    Calls Tryz.prog 147 #[.pointer (some ⟨b, 0, none⟩)] w (RVPost b sa cap bs (1 :: t) w) := by
  have hlt := hR.lt
  have hF0 := Four.new w ⟨0, 0, ⟨#[]⟩, 0⟩ 29
  have hn := rdNum_lt 0 0 t n q (by omega) hq.out
  go_enter Tryz.func147, Tryz.ntmps147
  go_wp2_with (first
    | (go_at_call 138; refine (readByte_any b sa cap bs (1 :: t) _ (hR.grow (gal (gre _) _))).mono ?_; rintro e w1 h1; obtain ⟨rfl, hR1, hK1⟩ := RPost.ok h1; have hF1 := hF0.kept hK1 (by omega); obtain ⟨az, a0, a1, a2, a3, af⟩ := id hF1; have hG := Four.new w1 ⟨1, 0, ⟨#[]⟩, 0⟩ 29; have hs1 := hK1.size; simp only [World.size_alloc] at hs1)
    | (go_at_call 151; refine (readNumber_any b sa cap bs t _ (hR1.grow (gal (gre _) _))).mono ?_; rintro e w2 h2; rw [hq.out] at h2; obtain ⟨rfl, hR2, hK2⟩ := RPost.ok h2; have hF2 := (hF1.alloc (.cells #[.int .i64 1, .int .i64 0, .string ⟨#[]⟩, .int .i64 0] 29)).kept hK2 (by omega); obtain ⟨bz, b0, b1, b2, b3, bf⟩ := id hF2; have hG2 := hG.kept hK2 (by omega); obtain ⟨gz, g0, g1, g2, g3, gf⟩ := id hG2; have hs2 := hK2.size; simp only [World.size_alloc] at hs2)
    | (go_at_call 152; refine (signed_any n _ hn).mono ?_; rintro e w3 ⟨rfl, hb3⟩; obtain ⟨iz, i0, i1, i2, i3, if_⟩ := hG2.kept (Kept.of_below hb3 (fun _ => False)) (fun e => e); obtain ⟨cz, c0, c1, c2, c3, cf⟩ := hF2.kept (Kept.of_below hb3 (fun _ => False)) (fun e => e)))
  have hKX := kk (kk ((kk ((Kept.refl _ w).alloc _) hK1).alloc (.cells #[.int .i64 1, .int .i64 0, .string ⟨#[]⟩, .int .i64 0] 29)) hK2) (Kept.of_below hb3 _)
  have hRX := (hR2.grow hb3).kept ((Kept.refl (fun k => k = w1.heap.size) w3).set (a := ⟨w1.heap.size, 1, none⟩) (fun _ => rfl) (.int .i64 (zag n))) (fun k hk e => by omega)
  obtain ⟨hKF, hRF⟩ := fin4 hlt (hKX.set (a := ⟨w1.heap.size, 1, none⟩) (fun h => absurd h (by show ¬ w1.heap.size < _; omega)) (.int .i64 (zag n))) hRX (.int .i64 1) (.int .i64 (zag n)) (.string ⟨#[]⟩) (.int .i64 0)
  refine bodyPost_ret (v := (GV.mk 1 (zag n) ⟨#[]⟩ 0).val) (by simp [results, Tryz.results147, go_sem, c0, c1, c2, c3]) rfl ?_
  exact ⟨hKF, Or.inl ⟨⟨1, (zag n), ⟨#[]⟩, 0⟩, q, by show rdVal (1 :: t) = _; simp [rdVal, hq.out], rfl, hRF⟩⟩

set_option maxHeartbeats 1000000 in
set_option maxRecDepth 100000 in
theorem readVal_num_no (b : Nat) (sa : Option Addr) (cap : Nat) (bs t : List Nat)  (w : World) (hR : Rd w b sa cap bs (1 :: t)) (hq : Hid (rdNum 0 0 t = none)) :
    Calls Tryz.prog 147 #[.pointer (some ⟨b, 0, none⟩)] w (RVPost b sa cap bs (1 :: t) w) := by
  have hlt := hR.lt
  have hF0 := Four.new w ⟨0, 0, ⟨#[]⟩, 0⟩ 29
  go_enter Tryz.func147, Tryz.ntmps147
  go_wp2_with (first
    | (go_at_call 138; refine (readByte_any b sa cap bs (1 :: t) _ (hR.grow (gal (gre _) _))).mono ?_; rintro e w1 h1; obtain ⟨rfl, hR1, hK1⟩ := RPost.ok h1; have hF1 := hF0.kept hK1 (by omega); obtain ⟨az, a0, a1, a2, a3, af⟩ := id hF1; have hG := Four.new w1 ⟨1, 0, ⟨#[]⟩, 0⟩ 29; have hs1 := hK1.size; simp only [World.size_alloc] at hs1)
    | (go_at_call 151; refine (readNumber_any b sa cap bs t _ (hR1.grow (gal (gre _) _))).mono ?_; rintro e w2 h2; rw [hq.out] at h2; obtain ⟨rfl, hK2⟩ := RPost.no h2))
  exact ⟨rfl, kk ((kk ((Kept.refl _ w).alloc _) hK1).alloc (.cells #[.int .i64 1, .int .i64 0, .string ⟨#[]⟩, .int .i64 0] 29)) hK2, Or.inr ⟨by show rdVal (1 :: t) = _; simp [rdVal, hq.out], rfl⟩⟩

end Go.Proofs.YtmdpmdmilgbfiaaGreatDoor
