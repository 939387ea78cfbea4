import Derived.ChangeArms
import Derived.Test.YthjddpkegooobacGreatDoorCards
import Derived.Test.YthjddpkegooobacGreatDoorTie
import Derived.ShutString
import Derived.ChangeOld
import Derived.ChangeSame
import Derived.ChangeVars
import Derived.JoinedOf
import Derived.RowKit
import Derived.RowKitTokens
import Derived.LaidLaws
import Derived.LaidHandle
import Derived.Stop.Joined
import Derived.SevenTiedAt
import Derived.Test.YthjddpkegooobacGreatDoorPartZA
namespace Go.Proofs.YthjddpkegooobacGreatDoor
open Go.RowKit
set_option maxRecDepth 100000
set_option maxHeartbeats 8000000
theorem kcell {p : Nat → Prop} {w w' : World} (k : Kept p w w') {N : Nat} (hN : N < w.heap.size) (hn : ¬ p N) : (∀ o, w'.cell? ⟨N, o, none⟩ = w.cell? ⟨N, o, none⟩) ∧ (∀ o, w'.frozen? ⟨N, o, none⟩ = w.frozen? ⟨N, o, none⟩) :=
 ⟨fun _o => World.cell?_of_block (w := w) (k.block N hN hn), fun _o => World.frozen?_of_block (w := w) (k.block N hN hn)⟩
theorem markActS_any (N cap k H : Nat) (b : Nat → Nat) (bs : Nat → Nat → Nat) (kb : Nat → Nat) (ls : List AC) (w : World) (hk0 : 0 < k) (hk : (k : Int) + 10 * ls.length + 4 * szAs ls ≤ 1099511627776) (hl : ls.length ≤ 1048576) (h : OwnActs w N b bs kb ls) (hkl : ∀ x, x ∈ ls → x.kept.length ≤ 1048576) (hN : N < H) (hH : ∀ i, i < ls.length → kb i < H) :
  Calls Tryz.prog 20 #[.slice (some ⟨N, 0, none⟩) ls.length cap, .int .i64 k] w fun e w' => ∃ q : Nat, e = .returned (.int .i64 q) ∧ Kept (fun z => N ≤ z ∧ z < H) w w' := by
 obtain ⟨f0, hr0, hin0⟩ := h
 go_enter Tryz.func20, Tryz.ntmps20
 go_wp2
 go_loopw [1, 5] (fun c i wr => ∃ (m q : Nat) (f : Nat → Value), m ≤ ls.length ∧ 0 < q ∧ (q : Int) ≤ k + 10 * m + 4 * szAs (ls.take m) ∧ c = .int .i64 q ∧ i = .int .i64 m ∧ wr.rowIs N 87 (ls.length * 11) f ∧ (∀ i, m ≤ i → i < ls.length → f (i * 11 + 5) = .slice (some ⟨b i, 0, none⟩) ls[i]!.graph.nodes.length ls[i]!.graph.nodes.length ∧ f (i * 11 + 7) = .slice (some ⟨kb i, 0, none⟩) ls[i]!.kept.length ls[i]!.kept.length ∧ OwnNodes wr (b i) (bs i) ls[i]!.graph.nodes ∧ KRow wr (kb i) ls[i]!.kept) ∧ Kept (fun z => N ≤ z ∧ z < H) w wr) (fun _ i _ => ls.length - (intOf i).toNat)
 case atStart => exact ⟨0, k, f0, Nat.zero_le _, hk0, by simp [szAs], rfl, rfl, hr0, fun i _ hi => ⟨(hin0 i hi).1.f5, (hin0 i hi).1.f7, (hin0 i hi).2.2.2.2.1, (hin0 i hi).2.2.2.2.2.1⟩, Kept.refl _ _⟩
 case round =>
  obtain ⟨m, q, f, hm, hq0, hq, rfl, rfl, hrow, hF, hK⟩ := hrel
  by_cases hlt : m < ls.length
  ·
   obtain ⟨s5, s7, hon, hkr⟩ := hF m (Nat.le_refl _) hlt
   obtain ⟨_, hNb, hbk, hbsk, _, _, _⟩ := hin0 m hlt
   have hkm := hkl _ (mem_at hlt)
   have hstep := szAs_take_succ ls m hlt
   have hle := szAs_take_le ls (m + 1)
   obtain ⟨x, hx⟩ := hid_ex ls[m]!
   rw [← hx.out] at s5 s7 hon hkr hbsk hkm hstep
   have hxz : x.sz = x.graph.root.sz + x.graph.nodes.length + szNodes x.graph.nodes + x.kept.length := rfl
   have hz0 := x.graph.root.sz_nonneg
   have hz1 := szNodes_nonneg x.graph.nodes
   have hms := mEnd_sz x.graph.nodes (q + 5)
   have hml := mEnd_le x.graph.nodes (q + 5)
   obtain ⟨r, hr⟩ := hid_ex (mEnd (q + 5) x.graph.nodes)
   have hr1 : (r : Int) ≤ q + 5 + 4 * (x.graph.nodes.length + szNodes x.graph.nodes) := by rw [hr.out]; omega
   have hr2 : q + 5 ≤ r := by rw [hr.out]; exact hml
   have hq1 : (q : Int) ≤ 1099511627776 := by omega
   have hlm : x.graph.nodes.length ≤ maxLen := by unfold maxLen; omega
   have hme : mEnd (q + 5) x.graph.nodes ≤ 1099511627776 := by rw [← hr.out]; omega
   clear hms hml
   have hNl := hrow.lt
   have fz := hrow.frozen
   have d0 := hrow.cell (i := m * 11) (by omega)
   have d1 := hrow.cell (i := m * 11 + 1) (by omega)
   have d2 := hrow.cell (i := m * 11 + 2) (by omega)
   have d3 := hrow.cell (i := m * 11 + 3) (by omega)
   have d4 := hrow.cell (i := m * 11 + 4) (by omega)
   have d5 := hrow.cell (i := m * 11 + 5) (by omega)
   have d6 := hrow.cell (i := m * 11 + 6) (by omega)
   have d7 := hrow.cell (i := m * 11 + 7) (by omega)
   have d8 := hrow.cell (i := m * 11 + 8) (by omega)
   have d9 := hrow.cell (i := m * 11 + 9) (by omega)
   have d10 := hrow.cell (i := m * 11 + 10) (by omega)
   rw [s5] at d5
   rw [s7] at d7
   go_wp2_with (go_at_call 46; rw [show ((q : Int) + 1 + 1 + 1) = ((q + 3 : Nat) : Int) by omega]; refine (markText_any (q + 3) _ (by omega) (by omega)).mono ?_; rintro e w1 ⟨rfl, hb1⟩; obtain ⟨hc, hf⟩ := bcell hb1)
   have hs1 : N < w1.heap.size := by have := hb1.size; simp at this; omega
   rw [show ((q : Int) + 3 + 1 + 1) = ((q + 5 : Nat) : Int) by omega]
   have hon1 : OwnNodes w1 (b m) (bs m) x.graph.nodes := by
    refine OwnNodes.below ?_ hb1
    repeat refine OwnNodes.set ?_ (by simp <;> omega) _
    exact hon
   have hkr1 : KRow w1 (kb m) x.kept := by
    refine KRow.grow ?_ hb1
    repeat refine KRow.set ?_ (by simp <;> omega) _
    exact hkr
   have a1 : Kept (fun z => z = N ∨ (b m ≤ z ∧ z ≤ kb m)) wr w1 := Kept.trans ((((Kept.refl (fun z => z = N ∨ (b m ≤ z ∧ z ≤ kb m)) wr).set (a := ⟨N, _, none⟩) (fun _ => Or.inl rfl) _).set (a := ⟨N, _, none⟩) (fun _ => Or.inl rfl) _).set (a := ⟨N, _, none⟩) (fun _ => Or.inl rfl) _) (Kept.of_below hb1 (fun _ => False)) (fun _ _ e => e.elim)
   have r1 := (((hrow.set _ _).set _ _).set _ _).of_block (hb1.block N (by simp; omega))
   refine (markNodeS_any _ _ x.graph.nodes _ _ (q + 5) _ (by omega) hme hlm (OwnNodes.mg (N := b m) (bs := bs m) ?_)).mono ?_
   ·
    repeat refine OwnNodes.set ?_ (by simp <;> omega) _
    exact hon1
   rintro e w2 ⟨rfl, hN2⟩
   rw [← hr.out]
   have hK2 := hN2.kept
   have hnN : ¬ (some (⟨b m, 0, none⟩ : Addr) = some ⟨N, 0, none⟩ ∨ ∃ i, i < x.graph.nodes.length ∧ some (⟨bs m i, 0, none⟩ : Addr) = some ⟨N, 0, none⟩) := by
    rintro (e | ⟨i, hi, e⟩)
    · have := some_addr e; omega
    · have := some_addr e; have := hon.gt hi; omega
   have hnK : ¬ (some (⟨b m, 0, none⟩ : Addr) = some ⟨kb m, 0, none⟩ ∨ ∃ i, i < x.graph.nodes.length ∧ some (⟨bs m i, 0, none⟩ : Addr) = some ⟨kb m, 0, none⟩) := by
    rintro (e | ⟨i, hi, e⟩)
    · have := some_addr e; omega
    · have := some_addr e; have := hbsk i hi; omega
   obtain ⟨hc2, hf2⟩ := kcell hK2 (N := N) (by simp; omega) hnN
   have hs2 : N < w2.heap.size := by have := hK2.size; simp at this; omega
   have hkr2 : KRow w2 (kb m) x.kept := by
    refine KRow.kept ?_ hK2 hnK
    repeat refine KRow.set ?_ (by simp <;> omega) _
    exact hkr1
   have a2 : Kept (fun z => z = N ∨ (b m ≤ z ∧ z ≤ kb m)) wr w2 := Kept.trans ((a1.set (a := ⟨N, _, none⟩) (fun _ => Or.inl rfl) _).set (a := ⟨N, _, none⟩) (fun _ => Or.inl rfl) _) hK2 (fun z _ e => by
    rcases e with e | ⟨i, hi, e⟩
    · have := some_addr e; omega
    · have := some_addr e; have := hon.gt hi; have := hbsk i hi; omega)
   have r2 := hK2.rowIs ((r1.set _ _).set _ _) hnN
   go_wp2_with (fail)
   rw [show ((r : Int) + 1) = ((r + 1 : Nat) : Int) by omega]
   refine (markBoolS_any (kb m) x.kept.length _ (r + 1) x.kept _ rfl hkm (by omega) ?_).mono ?_
   ·
    repeat refine KRow.set ?_ (by simp <;> omega) _
    exact hkr2
   rintro e w3 ⟨rfl, hK3⟩
   have hnK3 : ¬ N = kb m := by omega
   obtain ⟨hc3, hf3⟩ := kcell hK3 (N := N) (by simp; omega) hnK3
   have hs3 : N < w3.heap.size := by have := hK3.size; simp at this; omega
   have a3 : Kept (fun z => z = N ∨ (b m ≤ z ∧ z ≤ kb m)) wr w3 := Kept.trans (a2.set (a := ⟨N, _, none⟩) (fun _ => Or.inl rfl) _) hK3 (fun z _ e => by subst e; omega)
   have r3 := hK3.rowIs (r2.set _ _) hnK3
   go_wp2
   go_roundw
   case rel =>
    have a4 := ((a3.set (a := ⟨N, m * 11 + 8, none⟩) (fun _ => Or.inl rfl) (.int .i64 ((r + 1 + x.kept.length : Nat) : Int))).set (a := ⟨N, m * 11 + 9, none⟩) (fun _ => Or.inl rfl) (.int .i64 ((r + 1 + x.kept.length : Nat) + 1 : Int))).set (a := ⟨N, m * 11 + 10, none⟩) (fun _ => Or.inl rfl) (.int .i64 ((r + 1 + x.kept.length : Nat) + 1 + 1 : Int))
    refine ⟨m + 1, r + 1 + x.kept.length + 3, _, by omega, by omega, by omega, by go_num, by go_num, ((r3.set _ _).set _ _).set _ _, fun i hi hi' => ?_, ?_⟩
    ·
     obtain ⟨t5, t7, hoi, hki⟩ := hF i (by omega) hi'
     obtain ⟨_, hNi, hbi, hbsi, _, _, hji⟩ := hin0 i hi'
     have hmi := hji m (by omega)
     refine ⟨?_, ?_, hoi.kept a4 (by omega) (fun j hj => by have := hoi.gt hj; omega), hki.kept a4 (by omega)⟩
     ·
      rw [← t5]
      repeat rw [if_neg (by omega)]
     ·
      rw [← t7]
      repeat rw [if_neg (by omega)]
    · exact hK.trans a4 (fun z _ e => by have := hH m hlt; omega)
   case measure => simp [intOf]; omega
  ·
   go_wp2
   go_ret
   exact ⟨q, rfl, hK⟩
def tEnd (k : Nat) : List TK → Nat
 | [] => k
 | t :: r => tEnd (mEnd (k + 6) t.g.nodes) r
def markT (k : Nat) (t : TK) : TK := ⟨(k : Int), ((k + 1 : Nat) : Int), ⟨⟨((k + 2 : Nat) : Int), ((k + 3 : Nat) : Int), mt (k + 4), ((k + 5 : Nat) : Int)⟩, markNs (k + 6) t.g.nodes⟩⟩
def markTs (k : Nat) : List TK → List TK
 | [] => []
 | t :: r => markT k t :: markTs (mEnd (k + 6) t.g.nodes) r
theorem markTs_length (l : List TK) : ∀ k, (markTs k l).length = l.length := by
 induction l with
 | nil => intro k; rfl
 | cons x r ih => intro k; simp only [markTs, List.length_cons, ih]
theorem tEnd_snoc (l : List TK) (t : TK) : ∀ k, tEnd k (l ++ [t]) = mEnd (tEnd k l + 6) t.g.nodes := by
 induction l with
 | nil => intro k; rfl
 | cons x r ih => intro k; simp only [List.cons_append, tEnd, ih]
theorem tEnd_take_succ (l : List TK) (k j : Nat) (h : j < l.length) : tEnd k (l.take (j + 1)) = mEnd (tEnd k (l.take j) + 6) l[j]!.g.nodes := by
 rw [take_snoc l j h, tEnd_snoc]
theorem markTs_at (l : List TK) : ∀ (k j : Nat), j < l.length → (markTs k l)[j]! = markT (tEnd k (l.take j)) l[j]! := by
 induction l with
 | nil => intro k j h; exact absurd h (Nat.not_lt_zero _)
 | cons x r ih =>
  intro k j h
  cases j with
  | zero => simp [markTs, tEnd]
  | succ j =>
   have h1 := ih (mEnd (k + 6) x.g.nodes) j (by simpa using h)
   simpa [markTs, tEnd] using h1
theorem tEnd_le {l : List TK} (h : ∀ t, t ∈ l → t.Fine) : ∀ k, k ≤ tEnd k l ∧ tEnd k l ≤ k + 131000 * l.length := by
 induction l with
 | nil => intro k; exact ⟨Nat.le_refl _, Nat.le_refl _⟩
 | cons x r ih =>
  intro k
  have h1 := ih (fun t ht => h t (List.mem_cons_of_mem _ ht)) (mEnd (k + 6) x.g.nodes)
  have h2 := (h x (List.mem_cons_self ..)).m (k + 6)
  have h3 := mEnd_le x.g.nodes (k + 6)
  simp only [tEnd, List.length_cons]
  omega
theorem nm_out {p : Nat → Prop} {w ws w' : World} {na : Option Addr} {ns : List GN} {va : Nat → Option Addr} {vc : Nat → Nat} {k : Nat} (h : NM w ws na ns va vc k ns.length) (K : Kept p ws w') (hp : ∀ b, Touch na ns.length va b → ¬ p b) : NodesAt w'.heap.size w' na (markNs k ns) :=
 NM.at_ (w := w') (va := va) (vc := vc) ⟨Kept.refl _ _, h.mg.kept K (fun b e => hp b (Or.inl e)) (fun i hi b e => hp b (Or.inr ⟨i, hi, e⟩)), fun g hg i hi => K.cell (h.tags g hg i hi) (hp g (Or.inl hg)), fun i hi => by
  by_cases hl : 0 < ns[i]!.vals.length
  ·
   obtain ⟨b, hb, _⟩ := h.mg.vals i hi hl
   exact (h.vals i hi).kept K (Nat.le_refl _) K.size (fun b2 off e2 => by
    rw [hb] at e2
    simp at e2
    obtain ⟨rfl, _⟩ := e2
    exact hp b (Or.inr ⟨i, hi, hb⟩))
  ·
   intro x hx
   rw [markVs_length] at hx
   omega⟩
structure MkF (f : Nat → Value) (o : Nat) (t : TK) (ga : Option Addr) (gc : Nat) : Prop where
 c0 : f o = .int .i64 t.code
 c1 : f (o + 1) = .int .i64 t.gen
 c2 : f (o + 2) = .int .i64 t.g.root.kind
 c3 : f (o + 3) = .int .i64 t.g.root.num
 c4 : f (o + 4) = .string t.g.root.text
 c5 : f (o + 5) = .int .i64 t.g.root.node
 c6 : f (o + 6) = .slice ga t.g.nodes.length gc
theorem markTakenS_any (base : Nat) (oa : Option Addr) (oc : Nat) (lt : List LT) (k : Nat) (w : World) (hk0 : 0 < k) (hk : k + 131000 * lt.length ≤ 1099511627776) (hf : ∀ y, y ∈ lt → y.t.Fine) (h : IT base w oa oc lt) :
  Calls Tryz.prog 21 #[.slice oa lt.length oc, .int .i64 k] w fun e w' => e = .returned (.int .i64 (tEnd k (lt.map LT.t) : Nat)) ∧ Kept (fun z => base ≤ z) w w' ∧ TksAt w' oa (markTs k (lt.map LT.t)) := by
 have hlm : (lt.map LT.t).length = lt.length := List.length_map _
 have het : ∀ i, i < lt.length → (lt.map LT.t)[i]! = lt[i]!.t := fun i hi => by rw [getElem!_pos _ i (by rw [hlm]; exact hi), getElem!_pos lt i hi]; simp
 have hff : ∀ t, t ∈ lt.map LT.t → t.Fine := fun t ht => by obtain ⟨y, hy, rfl⟩ := List.mem_map.1 ht; exact hf y hy
 rcases Nat.eq_zero_or_pos lt.length with h0 | h0
 ·
  have hn : lt = [] := List.eq_nil_of_length_eq_zero h0
  subst hn
  go_enter Tryz.func21, Tryz.ntmps21
  go_wp2
  go_loopw [1, 5] (fun c i wr => c = .int .i64 (k : Int) ∧ i = .int .i64 0 ∧ wr = w) (fun _ _ _ => 0)
  case atStart => exact ⟨rfl, rfl, rfl⟩
  case round =>
   obtain ⟨rfl, rfl, rfl⟩ := hrel
   go_wp2
   go_ret
   exact ⟨rfl, Kept.refl _ _, fun i hi => absurd hi (Nat.not_lt_zero _)⟩
 ·
  obtain ⟨g, f0, hoa, hgb, hgl, hr0, hnc, hf0⟩ := owns_row h.own h0
  subst hoa
  have hrg : ∀ y, y ∈ lt → g < y.lo ∨ y.hi ≤ g := fun y hy => h.row y hy g rfl
  have hfar : ∀ i j, i < j → j < lt.length → lt[i]!.hi ≤ lt[j]!.lo := fun i j hij hj => by
   have := List.pairwise_iff_getElem.1 h.far i j (by omega) hj hij
   rwa [← getElem!_pos lt i (by omega), ← getElem!_pos lt j hj] at this
  have h6 : ∀ i, i < lt.length → f0 (i * 7 + 6) = .slice lt[i]!.a lt[i]!.t.g.nodes.length lt[i]!.c := fun i hi => hf0 _ _ ((tCells_get lt i 6 hi (by omega)).trans rfl)
  go_enter Tryz.func21, Tryz.ntmps21
  go_wp2
  go_loopw [1, 5] (fun c i wr => ∃ (m : Nat) (f : Nat → Value), m ≤ lt.length ∧ c = .int .i64 (tEnd k ((lt.map LT.t).take m) : Nat) ∧ i = .int .i64 m ∧ wr.rowIs g 33 (oc * 7) f ∧ (∀ i, m ≤ i → i < lt.length → f (i * 7 + 6) = .slice lt[i]!.a lt[i]!.t.g.nodes.length lt[i]!.c ∧ OwnG wr lt[i]!.lo lt[i]!.a lt[i]!.c lt[i]!.nl) ∧ (∀ i, i < m → MkF f (i * 7) (markT (tEnd k ((lt.map LT.t).take i)) lt[i]!.t) lt[i]!.a lt[i]!.c ∧ ∀ w', Kept (fun z => z < lt[i]!.lo ∨ lt[i]!.hi ≤ z) wr w' → NodesAt w'.heap.size w' lt[i]!.a (markNs (tEnd k ((lt.map LT.t).take i) + 6) lt[i]!.t.g.nodes)) ∧ Kept (fun z => base ≤ z) w wr) (fun _ i _ => lt.length - (intOf i).toNat)
  case atStart => exact ⟨0, f0, Nat.zero_le _, rfl, rfl, hr0, fun i _ hi => ⟨h6 i hi, (h.nod _ (mem_at hi)).2.1⟩, fun i hi => absurd hi (Nat.not_lt_zero _), Kept.refl _ _⟩
  case round =>
   obtain ⟨m, f, hm, rfl, rfl, hrow, hF, hD, hK⟩ := hrel
   by_cases hlt : m < lt.length
   ·
    obtain ⟨s6, hO⟩ := hF m (Nat.le_refl _) hlt
    have hmem : lt[m]! ∈ lt := mem_at hlt
    obtain ⟨hnl, _, htc⟩ := h.nod _ hmem
    have hrn := h.rng _ hmem
    have hfn := hf _ hmem
    have hts := tEnd_take_succ (lt.map LT.t) k m (by rw [hlm]; exact hlt)
    rw [het m hlt] at hts
    have htl := tEnd_le (l := (lt.map LT.t).take m) (fun t ht => hff t (List.mem_of_mem_take ht)) k
    have hlt2 : ((lt.map LT.t).take m).length = m := by rw [List.length_take, hlm]; omega
    obtain ⟨q, hq⟩ := hid_ex (tEnd k ((lt.map LT.t).take m))
    rw [← hq.out] at hts htl ⊢
    rw [hlt2] at htl
    obtain ⟨y, hy⟩ := hid_ex lt[m]!
    rw [← hy.out] at s6 hO hnl htc hrn hfn hts hmem
    have hm1 := hfn.m (q + 6)
    have hq1 : q + 6 ≤ 1099511500000 := by omega
    have hme : mEnd (q + 6) y.t.g.nodes ≤ 1099511627776 := by omega
    have hll : y.t.g.nodes.length ≤ maxLen := by have := hfn.l; unfold maxLen; omega
    obtain ⟨r, hr⟩ := hid_ex (mEnd (q + 6) y.t.g.nodes)
    have hts' : Hid _ := hts
    clear hts
    have hgy := hrg y hmem
    have hNl := hrow.lt
    have fz := hrow.frozen
    have hmo : m * 7 + 7 ≤ oc * 7 := by have := Nat.mul_le_mul_right 7 (Nat.le_trans (Nat.succ_le_of_lt hlt) hnc); omega
    have i0 : (0 : Int) ≤ (m : Int) := by omega
    have i1 : (m : Int) < (lt.length : Int) := by omega
    have d0 := hrow.cell (i := m * 7) (by omega)
    have d1 := hrow.cell (i := m * 7 + 1) (by omega)
    have d2 := hrow.cell (i := m * 7 + 2) (by omega)
    have d3 := hrow.cell (i := m * 7 + 3) (by omega)
    have d4 := hrow.cell (i := m * 7 + 4) (by omega)
    have d5 := hrow.cell (i := m * 7 + 5) (by omega)
    have d6 := hrow.cell (i := m * 7 + 6) (by omega)
    rw [s6] at d6
    go_wp2_with (go_at_call 46; rw [show ((q : Int) + 1 + 1 + 1 + 1) = ((q + 4 : Nat) : Int) by omega]; refine (markText_any (q + 4) _ (by omega) (by omega)).mono ?_; rintro e w1 ⟨rfl, hb1⟩; obtain ⟨hc, hfz⟩ := bcell hb1)
    have hs1 : g < w1.heap.size := by have := hb1.size; simp at this; omega
    rw [show ((q : Int) + 4 + 1 + 1) = ((q + 6 : Nat) : Int) by omega]
    have a1 : Kept (fun z => z = g) wr w1 := Kept.trans (((((Kept.refl (fun z => z = g) wr).set (a := ⟨g, _, none⟩) (fun _ => rfl) _).set (a := ⟨g, _, none⟩) (fun _ => rfl) _).set (a := ⟨g, _, none⟩) (fun _ => rfl) _).set (a := ⟨g, _, none⟩) (fun _ => rfl) _) (Kept.of_below hb1 (fun _ => False)) (fun _ _ e => e.elim)
    have r1 := ((((hrow.set _ _).set _ _).set _ _).set _ _).of_block (hb1.block g (by simp; omega))
    have r2 := (r1.set (m * 7 + 2 + 2) (.string (mt (q + 4)))).set (m * 7 + 2 + 3) (.int .i64 ((q : Int) + 4 + 1))
    have a2 := (a1.set (a := ⟨g, m * 7 + 2 + 2, none⟩) (fun _ => rfl) (.string (mt (q + 4)))).set (a := ⟨g, m * 7 + 2 + 3, none⟩) (fun _ => rfl) (.int .i64 ((q : Int) + 4 + 1))
    have hO2 := own_keptI hO htc a2 (fun z h1 h2 e => by omega)
    have hmg := hO2.mg
    rw [hnl] at hmg
    have hnll : y.nl.length = y.t.g.nodes.length := by rw [← hnl, List.length_map]
    generalize (w1.setCell ⟨g, m * 7 + 2 + 2, none⟩ (.string (mt (q + 4)))).setCell ⟨g, m * 7 + 2 + 3, none⟩ (.int .i64 ((q : Int) + 4 + 1)) = w2 at r2 a2 hO2 hmg ⊢
    refine (markNodeS_any _ _ y.t.g.nodes _ _ (q + 6) _ (by omega) hme hll hmg).mono ?_
    rintro e w3 ⟨rfl, hN3⟩
    rw [← hr.out]
    have hK3 := hN3.kept
    have htch : ∀ z, (y.a = some ⟨z, 0, none⟩ ∨ ∃ i, i < y.t.g.nodes.length ∧ y.nl[i]!.a = some ⟨z, 0, none⟩) → y.lo ≤ z ∧ z < y.hi := fun z hz => by
     have hT : Touch y.a y.nl.length (fun i => y.nl[i]!.a) z := by rw [hnll]; exact hz
     exact ⟨(hO2.touch hT).1, htc z hT⟩
    have r3 := hK3.rowIs r2 (fun e => by have := htch g e; omega)
    have a3 : Kept (fun z => z = g ∨ (y.lo ≤ z ∧ z < y.hi)) wr w3 := (a2.mono (fun _ _ e => Or.inl e)).trans hK3 (fun z _ e => Or.inr (htch z e))
    have hsame : ∀ i, i < lt.length → i ≠ m → ∀ z, lt[i]!.lo ≤ z → z < lt[i]!.hi → ¬ (z = g ∨ (y.lo ≤ z ∧ z < y.hi)) := fun i hi hne z h1 h2 e => by
     have h3 := hrg _ (mem_at hi)
     have h4 : lt[i]!.hi ≤ y.lo ∨ y.hi ≤ lt[i]!.lo := by
      rw [hy.out]
      rcases Nat.lt_or_gt_of_ne hne with h5 | h5
      · exact Or.inl (hfar i m h5 hlt)
      · exact Or.inr (hfar m i h5 hi)
     omega
    go_wp2
    go_roundw
    case rel =>
     refine ⟨m + 1, _, by omega, by rw [hts'.out, ← hr.out], by go_num, r3, fun i hi hi' => ?_, fun i hi => ?_, ?_⟩
     ·
      obtain ⟨t6, hOi⟩ := hF i (by omega) hi'
      refine ⟨?_, own_keptI hOi (h.nod _ (mem_at hi')).2.2 a3 (hsame i hi' (by omega))⟩
      rw [← t6]
      repeat rw [if_neg (by omega)]
     ·
      by_cases e : i = m
      ·
       subst e
       rw [← hq.out, ← hy.out]
       refine ⟨⟨?_, ?_, ?_, ?_, ?_, ?_, ?_⟩, fun w' K => nm_out hN3 K (fun z hz e => by have := htch z hz; omega)⟩
       · (repeat rw [if_neg (by omega)]); rw [if_pos (by omega)]; rfl
       · (repeat rw [if_neg (by omega)]); rw [if_pos (by omega)]; simp [markT]
       · (repeat rw [if_neg (by omega)]); rw [if_pos (by omega)]; simp [markT]; omega
       · (repeat rw [if_neg (by omega)]); rw [if_pos (by omega)]; simp [markT]; omega
       · (repeat rw [if_neg (by omega)]); rw [if_pos (by omega)]; rfl
       · (repeat rw [if_neg (by omega)]); rw [if_pos (by omega)]; simp [markT]; omega
       · (repeat rw [if_neg (by omega)]); rw [s6]; simp [markT, markNs_length]
      ·
       obtain ⟨hM, hW⟩ := hD i (by omega)
       refine ⟨⟨?_, ?_, ?_, ?_, ?_, ?_, ?_⟩, fun w' K => hW w' ((a3.mono (fun z hz e2 => by by_cases h1 : lt[i]!.lo ≤ z ∧ z < lt[i]!.hi; exact absurd e2 (hsame i (by omega) e z h1.1 h1.2); omega)).trans K (fun _ _ e => e))⟩
       · rw [← hM.c0]; repeat rw [if_neg (by omega)]
       · rw [← hM.c1]; repeat rw [if_neg (by omega)]
       · rw [← hM.c2]; repeat rw [if_neg (by omega)]
       · rw [← hM.c3]; repeat rw [if_neg (by omega)]
       · rw [← hM.c4]; repeat rw [if_neg (by omega)]
       · rw [← hM.c5]; repeat rw [if_neg (by omega)]
       · rw [← hM.c6]; repeat rw [if_neg (by omega)]
     · exact hK.trans a3 (fun z _ e => by omega)
    case measure => simp [intOf]; omega
   ·
    obtain rfl : m = lt.length := by omega
    go_wp2
    go_ret
    refine ⟨by show Ending.returned (Value.int .i64 ((tEnd k ((lt.map LT.t).take lt.length) : Nat) : Int)) = _; rw [show (lt.map LT.t).take lt.length = lt.map LT.t by rw [← hlm, List.take_length]], hK, fun i hi => ?_⟩
    rw [markTs_length, hlm] at hi
    obtain ⟨hM, hW⟩ := hD i hi
    rw [markTs_at _ k i (by rw [hlm]; exact hi), het i hi]
    have hcell : ∀ j, j < 7 → wr.cell? ⟨g, 0 + i * 7 + j, none⟩ = some (f (i * 7 + j)) := fun j hj => by
     rw [Nat.zero_add]
     exact hrow.cell (by have := Nat.mul_le_mul_right 7 (Nat.le_trans (Nat.succ_le_of_lt hi) hnc); omega)
    exact ⟨g, 0, lt[i]!.a, lt[i]!.c, rfl, ⟨(hcell 0 (by omega)).trans (by rw [← hM.c0]; rfl), (hcell 1 (by omega)).trans (by rw [← hM.c1]), (hcell 2 (by omega)).trans (by rw [← hM.c2]), (hcell 3 (by omega)).trans (by rw [← hM.c3]), (hcell 4 (by omega)).trans (by rw [← hM.c4]), (hcell 5 (by omega)).trans (by rw [← hM.c5]), (hcell 6 (by omega)).trans (by rw [← hM.c6])⟩, hW wr (Kept.refl _ _)⟩
theorem heldTakenS_any (oa : Option Addr) (oc : Nat) (ts : List TK) (k : Nat) (w : World) (hk0 : 0 < k) (hk : k + 131000 * ts.length ≤ 1099511627776) (hff : ∀ t, t ∈ ts → t.Fine) (h : TksAt w oa (markTs k ts)) :
  Calls Tryz.prog 22 #[.slice oa ts.length oc, .int .i64 k] w fun e w' => e = .returned (.int .i64 (tEnd k ts : Nat)) ∧ Below w.heap.size w w' := by
 go_enter Tryz.func22, Tryz.ntmps22
 go_wp2
 go_loopw [1, 5] (fun c i wr => ∃ (m : Nat), m ≤ ts.length ∧ c = .int .i64 (tEnd k (ts.take m) : Nat) ∧ i = .int .i64 m ∧ Below w.heap.size w wr) (fun _ i _ => ts.length - (intOf i).toNat)
 case atStart => exact ⟨0, Nat.zero_le _, rfl, rfl, gre _⟩
 case round =>
  obtain ⟨m, hm, rfl, rfl, hb⟩ := hrel
  by_cases hlt : m < ts.length
  ·
   have hts := tEnd_take_succ ts k m hlt
   have htl := tEnd_le (l := ts.take m) (fun t ht => hff t (List.mem_of_mem_take ht)) k
   have hlt2 : (ts.take m).length = m := by rw [List.length_take]; omega
   have hfn := hff _ (mem_at hlt)
   obtain ⟨t, b, off, ga, gc, hvk, _, rfl, hc, hn⟩ := (h.grow hb).get (k := m) (by rw [markTs_length]; exact hlt)
   rw [markTs_at ts k m hlt] at hvk
   obtain ⟨q, hq⟩ := hid_ex (tEnd k (ts.take m))
   rw [← hq.out] at hts htl hvk ⊢
   rw [hlt2] at htl
   obtain ⟨y, hy⟩ := hid_ex ts[m]!
   rw [← hy.out] at hfn hts hvk
   obtain rfl := hvk.out
   have hm1 := hfn.m (q + 6)
   have hme : mEnd (q + 6) y.g.nodes ≤ 1099511627776 := by omega
   have hll : y.g.nodes.length ≤ maxLen := by have := hfn.l; unfold maxLen; omega
   obtain ⟨r, hr⟩ := hid_ex (mEnd (q + 6) y.g.nodes)
   have hts' : Hid _ := hts
   have hrn : ¬ ((r : Int) < 0) := by omega
   clear hts hvk
   obtain ⟨p0, p1, p2, p3, p4, p5, p6⟩ := hc
   have hln : (markT q y).g.nodes.length = y.g.nodes.length := markNs_length _ _
   rw [hln] at p6
   have i0 : (0 : Int) ≤ (m : Int) := by omega
   have i1 : (m : Int) < (ts.length : Int) := by omega
   simp only [markT] at p0 p1 p2 p3 p4 p5 hn
   rw [show ((q + 1 : Nat) : Int) = (q : Int) + 1 by omega] at p1
   rw [show ((q + 2 : Nat) : Int) = (q : Int) + 1 + 1 by omega] at p2
   rw [show ((q + 3 : Nat) : Int) = (q : Int) + 1 + 1 + 1 by omega] at p3
   rw [show ((q + 5 : Nat) : Int) = (q : Int) + 1 + 1 + 1 + 1 + 1 by omega] at p5
   clear hln
   go_wp2_with (fail)
   refine wp_regionU (fun u => u.cell? ⟨b, off + m * 7 + 4, none⟩ = some (.string (mt (q + 4)))) 99 (by kernel_rfl) p4 (fun hS0 => ?_)
   refine anyU_tk (i := 0) rfl hS0 (fun u hSu => by (try dsimp only at hSu); go_simp <;> with_reducible rfl) ?_
   refine anyU_tk (i := 1) rfl hS0 (fun u hSu => by (try dsimp only at hSu); go_simp <;> with_reducible rfl) ?_
   refine anyU_tk (i := 2) rfl hS0 (fun u hSu => by (try dsimp only at hSu); go_simp <;> with_reducible rfl) ?_
   refine anyU_tk (i := 3) rfl hS0 (fun u hSu => by (try dsimp only at hSu); go_simp <;> with_reducible rfl) ?_
   refine anyU_tk (i := 4) rfl hS0 (fun u hSu => by (try dsimp only at hSu); go_simp <;> with_reducible rfl) ?_
   refine anyU_tk (i := 5) rfl hS0 (fun u hSu => by (try dsimp only at hSu); go_simp <;> with_reducible rfl) ?_
   refine anyU_tk (i := 6) rfl hS0 (fun u hSu => by (try dsimp only at hSu); go_simp <;> with_reducible rfl) ?_
   refine anyU_tk (i := 7) rfl hS0 (fun u hSu => by (try dsimp only at hSu); go_simp <;> with_reducible rfl) ?_
   simp only [Act.put, List.getElem_toArray, List.getElem_cons_zero, List.getElem_cons_succ, List.setIfInBounds_toArray, List.set_cons_zero, List.set_cons_succ]
   refine anyU_one (i := 8) (by kernel_rfl) rfl (fun K hK => ?_)
   go_simp
   rw [show ((q : Int) + 1 + 1 + 1 + 1) = ((q + 4 : Nat) : Int) by omega]
   refine (markText_any (q + 4) _ (by omega) (by omega)).mono ?_
   rintro e w1 ⟨rfl, hb1⟩
   rw [← show ((q : Int) + 1 + 1 + 1 + 1) = ((q + 4 : Nat) : Int) by omega]
   have hb1d : Below wr.heap.size wr w1 := gca (gdr (gre wr)) hb1
   have p5' := cell_later hb1d p5
   have p6' := cell_later hb1d p6
   have hS1 := cell_later hb1 hS0
   refine hK.out _ _ hS1 ?_
   clear hK
   refine anyU_one (i := 9) (by kernel_rfl) rfl (fun K hK => ?_)
   go_simp
   refine hK.out _ _ hS1 ?_
   clear hK
   refine anyU_done (by kernel_rfl) ?_
   clear p0 p1 p2 p3 p4 p5 p6 hS0
   go_wp2_with (go_at_call 49; rw [show ((q : Int) + 1 + 1 + 1 + 1 + 1 + 1) = ((q + 6 : Nat) : Int) by omega]; refine (heldNodeS_any ga gc y.g.nodes (q + 6) _ (by omega) hme hll (hn.grow hb1d)).mono ?_; rintro e w2 ⟨rfl, hb2⟩; rw [← hr.out])
   go_roundw
   case rel => exact ⟨m + 1, by omega, by rw [hts'.out, ← hr.out], by go_num, gca (gca hb hb1d) hb2⟩
   case measure => simp [intOf]; omega
  ·
   obtain rfl : m = ts.length := by omega
   go_wp2
   go_ret
   exact ⟨by show Ending.returned (Value.int .i64 ((tEnd k (ts.take ts.length) : Nat) : Int)) = _; rw [List.take_length], hb⟩
theorem OwnActs.grow {w w' : World} {N : Nat} {b : Nat → Nat} {bs : Nat → Nat → Nat} {kb : Nat → Nat} {ls : List AC} (h : OwnActs w N b bs kb ls) (hb : Below w.heap.size w w') : OwnActs w' N b bs kb ls := by
 obtain ⟨f, hr, hn⟩ := h
 refine ⟨f, hr.of_block (hb.block N hr.lt), fun i hi => ?_⟩
 obtain ⟨h0, h1, h2, h3, h4, h5, h6⟩ := hn i hi
 exact ⟨h0, h1, h2, h3, h4.below hb, h5.grow hb, h6⟩
theorem OwnActs.lt {w : World} {N : Nat} {b : Nat → Nat} {bs : Nat → Nat → Nat} {kb : Nat → Nat} {ls : List AC} (h : OwnActs w N b bs kb ls) : N < w.heap.size ∧ ∀ i, i < ls.length → kb i < w.heap.size := by
 obtain ⟨f, hr, hn⟩ := h
 exact ⟨hr.lt, fun i hi => (hn i hi).2.2.2.2.2.1.lt⟩
theorem lawPlay (ls : List AC) (a : Option Addr) (cap : Nat) (w : World) (hl : ls.length ≤ maxLen) (hv : ∀ v, v ∈ ls → v.Ok) (ha : ActsAt w a ls) (hg : w.cell? ⟨0, 0, none⟩ = some (.iface 204 (.agg #[.pointer (some ⟨1, 69, none⟩)]))) :
  Calls Tryz.prog 4 #[.slice a ls.length cap] w fun e w' => e = .returned (.bool true) ∧ Below w.heap.size w w' := by
 have hzn := szAs_nonneg ls
 by_cases hs1 : (ls.length : Int) + szAs ls ≤ 1048576
 ·
  have hd1 : ¬ (1048576 - ((ls.length : Int) + szAs ls) < 0) := by omega
  have hle1 : Hid (leftBy 1048576 ((ls.length : Int) + szAs ls) = 1048576 - ((ls.length : Int) + szAs ls)) := leftBy_pos (by omega)
  have hl1 : ls.length ≤ 1048576 := by omega
  have hbd : ∀ x, x ∈ ls → x.graph.nodes.length ≤ 1048576 ∧ (∀ n, n ∈ x.graph.nodes → n.vals.length ≤ 1048576) ∧ x.kept.length ≤ 1048576 := fun x hx => by
   have h1 := szAs_mem hx
   have h2 : x.sz = x.graph.sz + x.kept.length := rfl
   have h3 := x.graph.sz_nonneg'
   obtain ⟨h4, h5⟩ := GG.small (g := x.graph) (by omega)
   exact ⟨h4, h5, by omega⟩
  have hk10 : ((1 : Nat) : Int) + 10 * ls.length + 4 * szAs ls ≤ 1099511627776 := by omega
  have hkp : ∀ x, x ∈ ls → x.kept.length ≤ 1048576 := fun x hx => (hbd x hx).2.2
  have hpl := playA_length ls
  have hpf := playA_fine ls
  have hsp := fun (N : Nat) (u : World) (h : ActsAt u (some ⟨N, 0, none⟩) ls) => specPlay_any (some ⟨N, 0, none⟩) ls.length ls u hl hv h
  have him := fun (N : Nat) (u : World) (h : ActsAt u (some ⟨N, 0, none⟩) ls) (hgu : u.cell? ⟨0, 0, none⟩ = some (.iface 204 (.agg #[.pointer (some ⟨1, 69, none⟩)]))) => implPlay_any (some ⟨N, 0, none⟩) ls.length ls u hl hv h hgu
  obtain ⟨ts, hts⟩ := hid_ex (playA ls)
  rw [← hts.out] at hpl hpf hsp him
  have htO : ∀ t, t ∈ ts → t.g.Ok := fun t ht => (hpf t ht).o
  have htl : ts.length ≤ maxLen := by unfold maxLen; omega
  have hg' : Hid _ := hg
  clear hg
  obtain ⟨mm, hmm⟩ := hid_ex (tEnd 1 ts)
  have hmn : ¬ ((mm : Int) < 0) := by omega
  have hme : ((mm : Int) != (mm : Int)) = false := by simp
  go_enter Tryz.func4, Tryz.ntmps4
  go_upto_region 6 with (first
   | (go_at_call 14; refine (szActS_any a cap ls _ _ hl hv (by decide) (by decide) ha).mono ?_; rintro e w1 ⟨rfl, hb1⟩; rw [hle1.out])
   | (go_at_call 16; refine (toActS_any a cap ls _ hl1 hbd (ha.grow hb1)).mono ?_; rintro e w2 ⟨N2, b2, bs2, kb2, rfl, hN2, hown2, hb2⟩)
   | (go_at_call 15; refine (hsp N2 _ hown2.at_).mono ?_; rintro e w3 ⟨oaS, ocS, ltS, rfl, hmS, hSTS, hb3⟩))
  have hA3 := gca (gca hb1 hb2) hb3
  have hlS : ltS.length = ts.length := by rw [← hmS, List.length_map]
  have hrS : ∀ z, (Value.slice oaS ltS.length ocS).ownBlock = some z → z < w3.heap.size := fun z hz => by
   obtain ⟨⟨c, hc⟩, _⟩ := owns_isTk hSTS.own hz
   exact (Array.getElem?_eq_some_iff.1 hc).1
  have hyS : ∀ y, y ∈ ltS → y.hi ≤ w3.heap.size := fun y hy => (hSTS.rng y hy).2.2
  clear hb1 hb2 hb3 hown2
  go_upto_region 7 with (go_at_call 16; refine (toActS_any a cap ls _ hl1 hbd (ha.grow hA3)).mono ?_; rintro e w4 ⟨N4, b4, bs4, kb4, rfl, hN4, hown4, hb4⟩)
  have hA4 := gca hA3 hb4
  obtain ⟨hNlt, hkblt⟩ := hown4.lt
  go_upto_region 8 with (go_at_call 17; refine (him N4 _ hown4.at_ (cell_later hA4 hg'.out)).mono ?_; rintro e w5 ⟨oaG, ocG, ltG, rfl, hmG, hITG, hb5⟩)
  have hA5 := gca hA4 hb5
  have hlG : ltG.length = ts.length := by rw [← hmG, List.length_map]
  have hST5 := hSTS.grow (gca hb4 hb5)
  have hTG5 : TksAt w5 oaG ts := by rw [← hmG]; exact hITG.st.at_
  have hTS5 : TksAt w5 oaS ts := by rw [← hmS]; exact hST5.at_
  have hs34 := hb4.size
  have hs45 := hb5.size
  go_upto_region 10 with (go_at_call 18; refine (eqTakenS_same oaG oaS ocG ocS ts _ htl htO hTG5 hTS5).mono ?_; rintro e w6 ⟨rfl, hb6⟩)
  have hA6 := gca hA5 hb6
  go_upto_region 12 with (first
   | (go_at_call 19; refine (eqActS_same (some ⟨N4, 0, none⟩) (some ⟨N7, 0, none⟩) ls.length ls.length ls _ hl hv (hown4.at_.grow (gca (gca hb5 hb6) hb7)) hown7.at_).mono ?_; rintro e w8 ⟨rfl, hb8⟩)
   | (go_at_call 16; refine (toActS_any a cap ls _ hl1 hbd (ha.grow hA6)).mono ?_; rintro e w7 ⟨N7, b7, bs7, kb7, rfl, hN7, hown7, hb7⟩))
  have hA8 := gca (gca hA6 hb7) hb8
  have hb58 := gca (gca hb6 hb7) hb8
  have hown8 := hown4.grow (gca hb5 hb58)
  have hIT8 := hITG.grow hb58
  have hST8 := hST5.grow hb58
  clear hown7 hb6 hb7 hb8 hTG5 hTS5
  go_upto_region 14 with (go_at_call 20; rw [show (1 : Int) = ((1 : Nat) : Int) by rfl]; refine (markActS_any N4 ls.length 1 w4.heap.size b4 bs4 kb4 ls _ (by omega) hk10 hl1 hown8 hkp hNlt hkblt).mono ?_; rintro e w9 ⟨q9, rfl, hK9⟩)
  have hq9 : ¬ ((q9 : Int) < 0) := by omega
  have hA9 : Below w.heap.size w w9 := hA8.trans (hK9.below hA8.size (fun z hz e => by have := hA3.size; omega))
  have hIT9 := hIT8.kept hK9 (fun z hz e => by have := (owns_isTk hIT8.own hz).2; omega) (fun y hy z h1 h2 e => by have := hIT8.rng y hy; omega)
  have hST9 := hST8.kept hK9 (fun z hz e => by have := hrS z hz; omega) (fun y hy z e _ => by have := hyS y hy; omega)
  have hTG9 : TksAt w9 oaG ts := by rw [← hmG]; exact hIT9.st.at_
  have hTS9 : TksAt w9 oaS ts := by rw [← hmS]; exact hST9.at_
  clear hIT8 hST8 hown8 hK9
  go_upto_region 16 with (go_at_call 18; refine (eqTakenS_same oaG oaS ocG ocS ts _ htl htO hTG9 hTS9).mono ?_; rintro e w10 ⟨rfl, hb10⟩)
  have hA10 := gca hA9 hb10
  have hIT10 := hIT9.grow hb10
  have hST10 := hST9.grow hb10
  have hmk := markTakenS_any _ oaG ocG ltG 1 w10 (by omega) (by rw [hlG]; omega) (fun y hy => hpf _ (by rw [← hmG]; exact List.mem_map_of_mem hy)) hIT10
  rw [hmG, hlG, ← hmm.out] at hmk
  clear hTG9 hTS9
  go_upto_region 18 with (go_at_call 21; rw [show (1 : Int) = ((1 : Nat) : Int) by rfl]; refine hmk.mono ?_; rintro e w11 ⟨rfl, hK11, hT11⟩)
  have hA11 : Below w.heap.size w w11 := hA10.trans (hK11.below hA10.size (fun z hz e => by have := hA4.size; omega))
  have hST11 := hST10.kept hK11 (fun z hz e => by have := hrS z hz; omega) (fun y hy z e _ => by have := hyS y hy; omega)
  have hhe := fun (u : World) (h : TksAt u oaG (markTs 1 ts)) => heldTakenS_any oaG ocG ts 1 u (by omega) (by omega) hpf h
  simp only [← hmm.out] at hhe
  clear hmk hK11 hIT10 hST10
  go_upto_region 24 with (go_at_call 22; rw [show (1 : Int) = ((1 : Nat) : Int) by rfl]; refine (hhe _ hT11).mono ?_; rintro e w12 ⟨rfl, hb12⟩)
  have hA12 := gca hA11 hb12
  go_upto_region 25 with (first
   | (go_at_call 17; refine (him N13 _ hown13.at_ (cell_later (gca hA12 hb13) hg'.out)).mono ?_; rintro e w14 ⟨oaH, ocH, ltH, rfl, hmH, hITH, hb14⟩)
   | (go_at_call 16; refine (toActS_any a cap ls _ hl1 hbd (ha.grow hA12)).mono ?_; rintro e w13 ⟨N13, b13, bs13, kb13, rfl, hN13, hown13, hb13⟩))
  have hb11 := gca (gca hb12 hb13) hb14
  have hA14 := gca hA11 hb11
  have hTH14 : TksAt w14 oaH ts := by rw [← hmH]; exact hITH.st.at_
  have hTS14 : TksAt w14 oaS ts := by rw [← hmS]; exact (hST11.grow hb11).at_
  go_upto_region 27 with (go_at_call 18; refine (eqTakenS_same oaH oaS ocH ocS ts _ htl htO hTH14 hTS14).mono ?_; rintro e w15 ⟨rfl, hb15⟩)
  have hA15 := gca hA14 hb15
  go_wp2_with (go_at_call 22; rw [show (1 : Int) = ((1 : Nat) : Int) by rfl]; refine (hhe _ (hT11.grow (gca hb11 hb15))).mono ?_; rintro e w16 ⟨rfl, hb16⟩)
  go_ret
  exact ⟨rfl, gca hA15 hb16⟩
 ·
  have hle1 : Hid (leftBy 1048576 ((ls.length : Int) + szAs ls) = -1) := leftBy_neg (by omega)
  go_enter Tryz.func4, Tryz.ntmps4
  go_wp2_with (go_at_call 14; refine (szActS_any a cap ls _ _ hl hv (by decide) (by decide) ha).mono ?_; rintro e w1 ⟨rfl, hb1⟩; rw [hle1.out])
  go_ret
  exact ⟨rfl, hb1⟩
open Go.RowKit Go.ChangeShapes Go.WideShapes Go.Deep
theorem acellsBool : Tryz.prog.cellsOf 4 = 1 := by kernel_rfl
theorem acellsBools : Tryz.prog.cellsOf 82 = 1 := by kernel_rfl
theorem acellsAct : Tryz.prog.cellsOf 84 = 11 := by kernel_rfl
section
variable {H : Type} {enc : TypeId × Value → H} {w : World} {base : Nat} {spare : Nat → Bool} {held : Bool}
theorem openBoolsA {fuel : Nat} {cs : List Value} {x : DataW H × List MemPlace} (h : DataW.trod enc Tryz.prog w base spare held fuel 82 cs = some x) :
  ∃ (ks : List Bool) (a : Option Addr) (cap : Nat), cs = [.slice a ks.length cap] ∧ ks.length ≤ maxLen ∧ BoolsAt w a ks := by
 rcases open_slice Tryz.underlying82 h with ⟨rfl, _⟩ | ⟨a, len, cap, m, n, D, Pl, rfl, hb, hl, hm, hmm, _, hx⟩
 · exact ⟨[], none, 0, rfl, Nat.zero_le _, fun i hi => absurd hi (Nat.not_lt_zero _)⟩
 ·
  rw [acellsBool] at hx
  have hle : len ≤ m := by rw [hmm]; split <;> omega
  obtain ⟨ks, hvl, hvs⟩ := list_of (α := Bool) (n := len) (p := fun i v => w.cells? base (a.add (i * 1)) 1 = some [.bool v]) (fun i hi => by
   obtain ⟨cs', h1, h2⟩ := hx i (by omega)
   obtain ⟨z, e, _⟩ := DataW.trod_bool Tryz.underlying4 h2
   exact ⟨z, by rw [h1, e]⟩)
  subst hvl
  refine ⟨ks, some a, cap, rfl, by omega, fun i hi => ?_⟩
  have hp := plain_addr (by decide) (hvs 0 (by omega))
  have h1 := hvs i hi
  rw [hp, add_plain] at h1
  obtain ⟨_, h2⟩ := cells_plain h1
  have h3 := h2 0 (by decide)
  simp only [Nat.add_zero, Nat.mul_one] at h3
  exact ⟨a.block, a.off, by rw [← hp], h3⟩
theorem openGraphA {fuel : Nat} {cs : List Value} {x : DataW H × List MemPlace} (h : DataW.trod enc Tryz.prog w base spare held fuel 81 cs = some x) :
  ∃ (g : GG) (a : Option Addr) (cap : Nat), g.Ok ∧ cs = [.int .i64 g.root.kind, .int .i64 g.root.num, .string g.root.text, .int .i64 g.root.node, .slice a g.nodes.length cap] ∧ NodesAt w.heap.size w a g.nodes := by
 obtain ⟨xs, n, _, rfl, hl, hlen, hf⟩ := DataW.trod_struct Tryz.underlying81 h
 rw [cellsGraph] at hl
 match xs, hlen, cs, hl with
 | [y0, y1], _, [c0, c1, c2, c3, c4], _ =>
  have h0 := hf 0 _ rfl
  have h1 := hf 1 _ rfl
  simp [cellsVal, cellsNodes] at h0 h1
  obtain ⟨rv, hrv, e0, _⟩ := openVal h0
  obtain ⟨a, cap, ns, e1, hl1, hn1, ha1⟩ := openNodes h1
  simp at e0 e1
  obtain ⟨rfl, rfl, rfl, rfl⟩ := e0
  subst e1
  exact ⟨⟨rv, ns⟩, a, cap, ⟨hrv, hl1, hn1⟩, rfl, ha1⟩
theorem openAct {fuel : Nat} {cs : List Value} {x : DataW H × List MemPlace} (h : DataW.trod enc Tryz.prog w base spare held fuel 84 cs = some x) :
  ∃ (n : AC) (ga : Option Addr) (gc : Nat) (ka : Option Addr) (kc : Nat), n.Ok ∧ cs = [.int .i64 n.op, .int .i64 n.graph.root.kind, .int .i64 n.graph.root.num, .string n.graph.root.text, .int .i64 n.graph.root.node, .slice ga n.graph.nodes.length gc, .int .i64 n.steps, .slice ka n.kept.length kc, .int .i64 n.block, .int .i64 n.byte, .int .i64 n.xor] ∧ NodesAt w.heap.size w ga n.graph.nodes ∧ BoolsAt w ka n.kept := by
 obtain ⟨xs, n, _, rfl, hl, hlen, hf⟩ := DataW.trod_struct Tryz.underlying84 h
 rw [acellsAct] at hl
 match xs, hlen, cs, hl with
 | [y0, y1, y2, y3, y4, y5, y6], _, [c0, c1, c2, c3, c4, c5, c6, c7, c8, c9, c10], _ =>
  have h0 := hf 0 _ rfl
  have h1 := hf 1 _ rfl
  have h2 := hf 2 _ rfl
  have h3 := hf 3 _ rfl
  have h4 := hf 4 _ rfl
  have h5 := hf 5 _ rfl
  have h6 := hf 6 _ rfl
  simp [cellsInt, cellsGraph, acellsBools] at h0 h1 h2 h3 h4 h5 h6
  obtain ⟨k0, e0, rfl, w0⟩ := DataW.trod_int Tryz.underlying3 h0
  obtain ⟨g, ga, gc, hg, e1, hga⟩ := openGraphA h1
  obtain ⟨k2, e2, rfl, w2⟩ := DataW.trod_int Tryz.underlying3 h2
  obtain ⟨ks, ka, kc, e3, hkl, hka⟩ := openBoolsA h3
  obtain ⟨k4, e4, rfl, w4⟩ := DataW.trod_int Tryz.underlying3 h4
  obtain ⟨k5, e5, rfl, w5⟩ := DataW.trod_int Tryz.underlying3 h5
  obtain ⟨k6, e6, rfl, w6⟩ := DataW.trod_int Tryz.underlying3 h6
  simp at e0 e1 e2 e3 e4 e5 e6
  obtain ⟨rfl, rfl, rfl, rfl, rfl⟩ := e1
  subst e0 e2 e3 e4 e5 e6
  exact ⟨⟨k0, g, k2, ks, k4, k5, k6⟩, ga, gc, ka, kc, ⟨i64_of_wf w0, hg, i64_of_wf w2, hkl, i64_of_wf w4, i64_of_wf w5, i64_of_wf w6⟩, rfl, hga, hka⟩
theorem openActs {v : Value} {d : DataW H} {ps : List MemPlace} {r : Reach} {bd : Nat} (hv : Value.okWide Tryz.prog w r bd 44 v) (h : DataW.Trod enc Tryz.prog w base spare held 44 v d ps) :
  ∃ (ls : List AC) (a : Option Addr) (cap : Nat), v = .slice a ls.length cap ∧ ls.length ≤ maxLen ∧ (∀ x, x ∈ ls → x.Ok) ∧ ActsAt w a ls := by
 obtain ⟨fuel, h⟩ := h
 have hcs : v.cells.toList = [v] := by
  cases v <;> first | rfl | (exfalso; simp [Value.okWide, Cell.okWide, Cell.ok, Tryz.underlying44] at hv)
 rw [hcs] at h
 rcases open_slice Tryz.underlying44 h with ⟨e, _⟩ | ⟨a, len, cap, m, n, D, Pl, e, hb, hl, hm, hmm, _, hx⟩
 ·
  simp at e
  exact ⟨[], none, 0, e, Nat.zero_le _, fun x hx => (by cases hx), fun i hi => absurd hi (Nat.not_lt_zero _)⟩
 ·
  simp at e
  rw [acellsAct] at hx
  have hle : len ≤ m := by rw [hmm]; split <;> omega
  obtain ⟨ls, hvl, hvs⟩ := list_of (α := AC) (n := len) (p := fun i b => b.Ok ∧ ∃ ga gc ka kc, w.cells? base (a.add (i * 11)) 11 = some [.int .i64 b.op, .int .i64 b.graph.root.kind, .int .i64 b.graph.root.num, .string b.graph.root.text, .int .i64 b.graph.root.node, .slice ga b.graph.nodes.length gc, .int .i64 b.steps, .slice ka b.kept.length kc, .int .i64 b.block, .int .i64 b.byte, .int .i64 b.xor] ∧ NodesAt w.heap.size w ga b.graph.nodes ∧ BoolsAt w ka b.kept) (fun i hi => by
   obtain ⟨cs', h1, h2⟩ := hx i (by omega)
   obtain ⟨b, ga, gc, ka, kc, hok, e, hn, hk⟩ := openAct h2
   exact ⟨b, hok, ga, gc, ka, kc, by rw [h1, e], hn, hk⟩)
  subst hvl
  refine ⟨ls, some a, cap, e, by omega, all_of_at fun i hi => (hvs i hi).1, fun i hi => ?_⟩
  obtain ⟨_, _, _, _, _, hp0, _⟩ := hvs 0 (by omega)
  have hp := plain_addr (by decide) hp0
  obtain ⟨_, ga, gc, ka, kc, h1, hn, hk⟩ := hvs i hi
  rw [hp, add_plain] at h1
  obtain ⟨_, h2⟩ := cells_plain h1
  exact ⟨a.block, a.off, ga, gc, ka, kc, by rw [← hp], ⟨h2 0 (by decide), h2 1 (by decide), h2 2 (by decide), h2 3 (by decide), h2 4 (by decide), h2 5 (by decide), h2 6 (by decide), h2 7 (by decide), h2 8 (by decide), h2 9 (by decide), h2 10 (by decide)⟩, hn, hk⟩
end
open Go.ChangeShapes Go.WideShapes Go.ChangeAt Go.RowKit
theorem ownPlay : ownKnob Tryz.prog.godebug = none := by kernel_rfl
theorem laidOutPlay : laidOutB Tryz.prog = true := by kernel_rfl
theorem asEt : Tryz.prog.globalNamed "errors.errorType" = some 0 := by kernel_rfl
theorem asRt : (Tryz.prog.cutTypes.find? (·.1 == "internal/reflectlite.rtype")).map (·.2) = some 204 := by kernel_rfl
theorem asOneRow : ((List.range 313).filter fun t => Tryz.prog.rowNamed t [101, 114, 114, 111, 114]) = [69] := by kernel_rfl
theorem asSize : Tryz.prog.types.size = 313 := by kernel_rfl
abbrev laidL : List (String × DataW Unit) := [("errors.errorType", Rows.laid_errors_errorType)]
theorem handle_of_laid {W : World} (h : laidMetH Tryz.prog laidL W) : W.cell? ⟨0, 0, none⟩ = some (.iface 204 (.agg #[.pointer (some ⟨1, 69, none⟩)])) := by
 have h' : laidMet Tryz.prog [] W ∧ handlesMet Tryz.prog laidL W := h
 obtain ⟨name, u, ty, e1, e2, e3, e4, e5⟩ := h'.2 _ (List.mem_singleton.2 rfl)
 have en : name = [101, 114, 114, 111, 114] := (Option.some.inj e1).symm
 subst en
 obtain rfl := Option.some.inj (asRt.symm.trans e2)
 have hm : ty ∈ (List.range 313).filter fun t => Tryz.prog.rowNamed t [101, 114, 114, 111, 114] := List.mem_filter.2 ⟨List.mem_range.2 (by rw [← asSize]; exact e3), e4⟩
 rw [asOneRow] at hm
 obtain rfl := List.mem_singleton.1 hm
 have hh : typeHandle Tryz.prog 69 = .pointer (some ⟨1, 69, none⟩) := by kernel_rfl
 rw [hh] at e5
 simpa using World.var?_cell asEt e5 0
noncomputable def laidWorld (os : Os) : World :=
 let w0 := World.holding Tryz.prog os ⟨#[], #[], []⟩
 { w0 with heap := w0.heap.modify 0 fun
   | .cells _ t frozen => .cells #[.iface 204 (.agg #[.pointer (some ⟨1, 69, none⟩)])] t frozen
   | o => o }
theorem laidWorld_met (os : Os) (args : Array Value) : laidMetH Tryz.prog laidL ((laidWorld os).forCall (fun _ _ => 0) ⟨#[], args, []⟩).memory :=
 laidMetH_of_parts (laidMet_nil _ _) (by kernel_rfl)
theorem liftedPlay (os : Os) (started : os.Started) (H : Type) (enc : TypeId × Value → H) :
  ReturnsInHanded {} Tryz.checked os 4 .any (fun w args => (Rows.fnExactPlaySpec.pre enc Tryz.prog Tryz.f4 [] false w args ∧ laidMetH Tryz.prog laidL w) ∧ sizedMet enc Tryz.prog Tryz.f4 (OpenSpec.ofChange Rows.fnExactPlaySpec) false w args)
   (Rows.fnExactPlaySpec.post enc Tryz.prog Tryz.f4 false true false false) := by
 refine returnsInHanded_of_change_and (C := Tryz.checked) (X := fun w _ => laidMetH Tryz.prog laidL w) (fun _ _ _ hh h => h.of_heap hh) ownPlay started (by kernel_rfl) Tryz.func4
  (ChangeSpec.witness_at (enc := enc) (C := Tryz.checked) (os := os) (X := fun w _ => laidMetH Tryz.prog laidL w) false (laidWorld os) #[.slice none 0 0] 8 rfl (by kernel_rfl) (by kernel_rfl) (by kernel_rfl) (by kernel_rfl) (by kernel_rfl) (laidWorld_met os _)) ?_
 intro W base args ds gs before hval0 hW _ _ hL _
 have hval : ∀ (j : Nat) t v, Tryz.f4.params[j]? = some t → args[j]? = some v → Value.okWide Tryz.prog W .any base t v := hval0
 have hW' := hW
 obtain ⟨p, q, hA0, hV, rfl, hfz, hnd⟩ := hW
 have hA : DataW.TrodAll enc Tryz.prog W 0 (fun _ => true) true Tryz.f4.params.toList args.toList ds p := hA0
 rw [Tryz.params4] at hA hval
 obtain ⟨v0, vs0, d0, ds0, p0, q0, hargs, rfl, rfl, h0, r0⟩ := trodAll_cons hA
 obtain ⟨rfl, rfl, rfl⟩ := trodAll_nil r0
 obtain rfl : args = #[v0] := by cases args; simp_all
 obtain ⟨rfl, rfl⟩ := trodVars_none hV
 have k0 := h0
 have lt0 : ∀ x ∈ p0, x.block < W.heap.size := by obtain ⟨m, hm⟩ := k0; exact DataW.trod_lt m _ _ _ hm
 obtain ⟨ls, a, cap, rfl, hll, hls, ha⟩ := openActs (hval 0 44 v0 rfl rfl) h0
 have hgl := handle_of_laid hL
 clear hA0 hval0
 refine (lawPlay ls a cap W hll hls ha hgl).mono fun e W' ⟨he, bel⟩ => ?_
 subst he
 exact ⟨_, rfl, _, _, _, [], _, [], hW', trodAll_mk1 (shut_bool Tryz.underlying4 _), (trodAll_cons_mk (Below.trod laidOutPlay (by kernel_rfl) (of_decide_eq_true (by kernel_rfl)) k0 bel lt0) trodAll_mk0), rfl, bel.frame _, fun h => by cases h⟩
theorem play_row_holds : Rows.FnExactPlaySaid :=
 OpenClaim.holds_of_wide 4 Tryz.f4 rfl rfl rfl rfl rfl rfl rfl ⟨rfl, rfl, rfl, rfl, rfl⟩ rfl rfl rfl rfl rfl (by kernel_rfl) Tryz.func4 (by kernel_rfl)
  (of_decide_eq_true (by kernel_rfl)) (by unfold Func.isWrapper; first | (rw [if_pos (by decide +kernel)]; kernel_rfl) | (rw [if_neg (by decide +kernel)]; exact ⟨rfl, rfl⟩))
  (fun os started H enc _ => liftedPlay os started H enc)
theorem play_card_holds : Rows.FnExactPlayCardSaid :=
 Claim7.holds_tied_plain_at .later [] [.handle] true (true, "79f80a209d3db358829380292b781817fe38d943028dc76762a4740bab2bf752") true
  play_row_holds (fun _ h => by cases h) (by kernel_rfl) (fun _ h => by cases h) fnExactPlay_row_tie rfl ⟨rfl, rfl⟩ (by kernel_rfl) rfl
  (fun f fn hf hfn => by
   obtain rfl : f = 4 := Option.some.inj ((show Tryz.prog.funcNamed "loop.example/chest/laws.FnExactPlay" = some 4 by kernel_rfl).symm.trans hf) |>.symm
   obtain rfl : fn = Tryz.f4 := (Option.some.inj (Tryz.func4.symm.trans hfn)).symm
   exact ⟨by kernel_rfl, fun j t ht => by
    rw [Tryz.params4] at ht
    have h3 : t = 44 := by
     rcases j with _ | j
     · simpa using ht.symm
     · simp at ht
    subst h3
    exact (show Tryz.prog.wantsStandIn 44 = false by kernel_rfl)⟩)
  (by kernel_rfl)
end Go.Proofs.YthjddpkegooobacGreatDoor
