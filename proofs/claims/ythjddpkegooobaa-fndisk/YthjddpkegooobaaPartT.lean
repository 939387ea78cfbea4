import Derived.WalkLawsBesides
import Derived.Deep.QuietTactic
import Derived.Test.YthjddpkegooobaaPartS

/-
  APPLAIN: laying down, plain: the ops of a laying-down can all be done. Own work.
-/
namespace Go.Proofs.Ythjddpkegooobaa
open Go.RowKit

/-- an op that can be done on a disk that has room -/
def OP.Good (o : OP) : Prop := o.sync = true ∨ wrOk ⟨o.block, o.bytes⟩ = true
theorem fit_okP {d : DD} (h : d.Fit) : d.ok = true := by
  unfold DD.ok
  simp only [Bool.and_eq_true, decide_eq_true_eq, List.all_eq_true]
  refine ⟨⟨⟨h.bl, h.wl⟩, fun b hb => by simpa [blOk] using h.bb b hb⟩, fun x hx => ?_⟩
  have := h.wb x hx
  simp only [wrOk, Bool.and_eq_true, decide_eq_true_eq]
  exact ⟨⟨this.1, this.2.1⟩, this.2.2⟩
theorem settle_okP {d : DD} (hok : d.ok = true) (keep : Nat → Bool) : (d.settle keep).ok = true ∧ (d.settle keep).waiting = [] := by
  have hf := DD.fit hok
  rw [settle_yes hok]
  exact ⟨fit_okP ⟨by show (settleN _ _ _ _).length = 130; rw [settleN_length]; exact hf.bl, Nat.zero_le _, settleN_all hf.bb (fun x hx => (hf.wb x hx).2.2) _ (Nat.le_refl _), fun x hx => (by cases hx)⟩, rfl⟩
theorem step_good {d : DD} {o : OP} (hok : d.ok = true) (hg : o.Good) (hw : d.waiting.length < 200) : (d.step o).ok = true ∧ (d.step o).waiting.length ≤ d.waiting.length + 1 ∧ (o.sync = true → (d.step o).waiting = []) := by
  unfold DD.step
  by_cases hs : o.sync = true
  · rw [if_pos hs]
    obtain ⟨h1, h2⟩ := settle_okP hok keepAll
    exact ⟨h1, by rw [h2]; exact Nat.zero_le _, fun _ => h2⟩
  · rw [if_neg hs]
    have hw2 := hg.resolve_left hs
    have hf := DD.fit hok
    rw [put_yes hok hw2 (by omega)]
    have hwr : 0 ≤ o.block ∧ o.block < 130 ∧ o.bytes.length = 64 := by
      simp only [wrOk, Bool.and_eq_true, decide_eq_true_eq] at hw2
      exact ⟨hw2.1.1, hw2.1.2, hw2.2⟩
    have hl : (d.waiting ++ [(⟨o.block, o.bytes⟩ : DW)]).length = d.waiting.length + 1 := by simp
    refine ⟨fit_okP ⟨hf.bl, by show (d.waiting ++ [(⟨o.block, o.bytes⟩ : DW)]).length ≤ 200; rw [hl]; omega, hf.bb, fun x hx => ?_⟩, by show (d.waiting ++ [(⟨o.block, o.bytes⟩ : DW)]).length ≤ _; rw [hl]; omega, fun e => absurd e hs⟩
    rcases List.mem_append.1 hx with e | e
    · exact hf.wb x e
    · rw [List.mem_singleton.1 e]; exact hwr
theorem applyN_good {d : DD} {ops : List OP} (hok : d.ok = true) (hg : ∀ o, o ∈ ops → o.Good) : ∀ j, j ≤ ops.length → d.waiting.length + j ≤ 200 → ∃ f, applyN d ops j = some f ∧ f.ok = true ∧ f.waiting.length ≤ d.waiting.length + j
  | 0, _, _ => ⟨d, rfl, hok, Nat.le_refl _⟩
  | j + 1, hj, hw => by
    obtain ⟨f, h1, h2, h3⟩ := applyN_good hok hg j (by omega) (by omega)
    obtain ⟨s1, s2, _⟩ := step_good h2 (hg ops[j]! (mem_at (by omega))) (by omega)
    exact ⟨_, applyN_yes h1 s1, s1, by omega⟩
theorem lay_good (d : DD) {im : List Nat} (hil : im.length ≤ 4096) : ∀ o, o ∈ d.lay im → o.Good := fun o ho => by
  have hs2 := d.newestOf.other_lt
  unfold DD.lay at ho
  split at ho
  · cases ho
  · rcases List.mem_append.1 ho with e | e
    · obtain ⟨i, hi, rfl⟩ := List.mem_map.1 e
      have hi2 := List.mem_range.1 hi
      have hn := nBlk_le hil
      refine Or.inr ?_
      simp only [wrOk, Bool.and_eq_true, decide_eq_true_eq, blkOf_len]
      unfold firstOf
      refine ⟨⟨by omega, by omega⟩, trivial⟩
    · simp only [List.mem_cons, List.not_mem_nil, or_false] at e
      rcases e with rfl | rfl | rfl
      · exact Or.inl rfl
      · refine Or.inr ?_
        have h1 : (0 : Int) ≤ (d.newestOf.other : Int) := by omega
        have h2 : (d.newestOf.other : Int) < 130 := by omega
        unfold headO wrOk
        rw [headB_length]
        simp only [decide_eq_true h1, decide_eq_true h2]
        rfl
      · exact Or.inl rfl
theorem lay_len (d : DD) {im : List Nat} (hil : im.length ≤ 4096) : (d.lay im).length ≤ 67 := by
  unfold DD.lay
  split
  · exact Nat.zero_le _
  · have := nBlk_le hil
    rw [List.length_append, imgOps_len]
    simp
    omega
theorem lay_last (d : DD) {im : List Nat} (hne : d.lay im ≠ []) : ∃ r, d.lay im = r ++ [syncO] := by
  unfold DD.lay at hne ⊢
  split
  · rename_i h; rw [if_pos h] at hne; exact absurd rfl hne
  · exact ⟨imgOps d.newestOf.other im (nBlk im) ++ [syncO, headO d.newestOf im], by simp⟩
/-- behind all ops of a laying-down nothing waits -/
theorem lay_done {d f : DD} {im : List Nat} (hw : d.waiting = []) (hok : d.ok = true) (hil : im.length ≤ 4096) (h : applyN d (d.lay im) (d.lay im).length = some f) : f.waiting = [] := by
  by_cases hne : d.lay im = []
  · rw [hne] at h
    obtain rfl : d = f := Option.some.inj h
    exact hw
  · obtain ⟨r, hr⟩ := lay_last d hne
    have hg := lay_good d hil
    have hll := lay_len d hil
    have hl : (d.lay im).length = r.length + 1 := by rw [hr, List.length_append]; rfl
    obtain ⟨e, h1, h2, h3⟩ := applyN_good hok hg r.length (by omega) (by rw [hw]; simp; omega)
    have hlast : (d.lay im)[r.length]! = syncO := by rw [hr, getElem!_pos _ _ (by simp)]; simp
    have hw0 : e.waiting.length < 200 := by rw [hw] at h3; simp at h3; omega
    obtain ⟨s1, _, s3⟩ := step_good (o := (d.lay im)[r.length]!) h2 (by rw [hlast]; exact Or.inl rfl) hw0
    rw [hl] at h
    have := applyN_yes h1 s1
    rw [this] at h
    obtain rfl := Option.some.inj h
    exact s3 (by rw [hlast]; rfl)
theorem lay_opsOk (d : DD) {im : List Nat} (_hf : d.newestOf.gen ≤ 1000000000000 ∧ 0 ≤ d.newestOf.gen) (hib : ∀ x, x ∈ im → x < 256) (hil : im.length ≤ 4096) : OpsOk (d.lay im) := by
  have hs2 := d.newestOf.other_lt
  have hll := lay_len d hil
  refine ⟨by unfold maxLen; omega, fun o ho => ?_, fun o ho => ?_⟩
  · rcases lay_good d hil o ho with h | h
    · unfold DD.lay at ho
      split at ho
      · cases ho
      · rcases List.mem_append.1 ho with e | e
        · obtain ⟨i, _, rfl⟩ := List.mem_map.1 e
          cases h
        · simp only [List.mem_cons, List.not_mem_nil, or_false] at e
          rcases e with rfl | rfl | rfl
          · unfold I64; show -9223372036854775808 ≤ (0 : Int) ∧ (0 : Int) < 9223372036854775808; omega
          · cases h
          · unfold I64; show -9223372036854775808 ≤ (0 : Int) ∧ (0 : Int) < 9223372036854775808; omega
    · simp only [wrOk, Bool.and_eq_true, decide_eq_true_eq] at h
      unfold I64
      omega
  · unfold DD.lay at ho
    split at ho
    · cases ho
    · rcases List.mem_append.1 ho with e | e
      · obtain ⟨i, _, rfl⟩ := List.mem_map.1 e
        exact ⟨by show (blkOf im i).length ≤ maxLen; rw [blkOf_len]; decide, blkOf_byte hib i⟩
      · simp only [List.mem_cons, List.not_mem_nil, or_false] at e
        rcases e with rfl | rfl | rfl
        · exact ⟨Nat.zero_le _, fun x hx => by cases hx⟩
        · refine ⟨by show (headB _ _ _).length ≤ maxLen; rw [headB_length]; decide, fun x hx => ?_⟩
          have hx : x ∈ headB (d.newestOf.gen + 1) (im.length : Int) (wrap64 (sumN im : Int)) := hx
          unfold headB at hx
          rcases List.mem_append.1 hx with e | e
          · rcases List.mem_append.1 e with e | e
            · exact headN_byte _ _ _ x e
            · exact lowB_byte _ _ _ e
          · rw [List.eq_of_mem_replicate e]; decide
        · exact ⟨Nat.zero_le _, fun x hx => by cases hx⟩

end Go.Proofs.Ythjddpkegooobaa

/-
  L6: drawing from bytes. Own work.
-/
namespace Go.Proofs.Ythjddpkegooobaa
open Go.RowKit

/-- a drawing cursor's three cells, and the bytes that it draws from -/
structure DC (w : World) (b : Nat) (sa : Option Addr) (bs : List Nat) (cap at_ : Nat) : Prop where
  lt : b < w.heap.size
  c0 : w.cell? ⟨b, 0, none⟩ = some (.slice sa bs.length cap)
  c1 : w.cell? ⟨b, 1, none⟩ = some (.int .i64 (at_ : Int))
  c2 : ∃ s : Nat, s < 18446744073709551616 ∧ w.cell? ⟨b, 2, none⟩ = some (.int .u64 (s : Int))
  f : ∀ o, w.frozen? ⟨b, o, none⟩ = false
  at8 : BytesAt w sa bs
  ne : ∀ g off, sa = some ⟨g, off, none⟩ → g ≠ b
  u8 : ∀ x, x ∈ bs → x < 256
  len : bs.length ≤ maxLen
  sl : ∀ g off, sa = some ⟨g, off, none⟩ → g < w.heap.size

/-- what a draw leaves -/
structure DK (w w' : World) (b : Nat) (sa : Option Addr) (bs : List Nat) (cap at_ : Nat) : Prop where
  dc : DC w' b sa bs cap at_
  kept : Kept (fun k => k = b) w w'

theorem BytesAt.kept {p : Nat → Prop} {w w' : World} {a : Option Addr} {bs : List Nat} (h : BytesAt w a bs) (k : Kept p w w') (hn : ∀ g off, a = some ⟨g, off, none⟩ → ¬ p g) : BytesAt w' a bs := fun i hi => by
  obtain ⟨b, off, ha, hc⟩ := h i hi
  exact ⟨b, off, ha, k.cell hc (hn b off ha)⟩
theorem DC.kept {p : Nat → Prop} {w w' : World} {b : Nat} {sa : Option Addr} {bs : List Nat} {cap at_ : Nat} (h : DC w b sa bs cap at_) (k : Kept p w w') (hn : ¬ p b) (hs : ∀ g off, sa = some ⟨g, off, none⟩ → ¬ p g) : DC w' b sa bs cap at_ := by
  have e := k.block b h.lt hn
  obtain ⟨s, hs2, hc2⟩ := h.c2
  exact ⟨Nat.lt_of_lt_of_le h.lt k.size, (World.cell?_of_block (w := w) e).trans h.c0, (World.cell?_of_block (w := w) e).trans h.c1, ⟨s, hs2, (World.cell?_of_block (w := w) e).trans hc2⟩, fun o => (World.frozen?_of_block (w := w) e).trans (h.f o), h.at8.kept k hs, h.ne, h.u8, h.len, fun g off e => Nat.lt_of_lt_of_le (h.sl g off e) k.size⟩
theorem DC.drewN {w : World} {b : Nat} {sa : Option Addr} {bs : List Nat} {cap at_ : Nat} (h : DC w b sa bs cap at_) (k : Nat) : DC (w.drewN k) b sa bs cap at_ := ⟨h.lt, h.c0, h.c1, h.c2, h.f, h.at8, h.ne, h.u8, h.len, h.sl⟩
theorem DC.setAt {w : World} {b : Nat} {sa : Option Addr} {bs : List Nat} {cap at_ : Nat} (h : DC w b sa bs cap at_) {z : Int} {n : Nat} (hz : z = (n : Int)) : DC (w.setCell ⟨b, 1, none⟩ (.int .i64 z)) b sa bs cap n := by
  subst hz
  obtain ⟨s, hs2, hc2⟩ := h.c2
  refine ⟨by have := h.lt; simpa [World.setCell] using this, ?_, World.cell?_setCell_same _ _ _ h.c1, ⟨s, hs2, ?_⟩, fun o => ?_, ?_, h.ne, h.u8, h.len, fun g off e => by have := h.sl g off e; simpa [World.setCell] using this⟩
  · rw [World.cell?_setCell_other _ _ _ _ (by simp)]; exact h.c0
  · rw [World.cell?_setCell_other _ _ _ _ (by simp)]; exact hc2
  · rw [World.frozen?_setCell]; exact h.f o
  · exact h.at8.kept ((Kept.refl (fun k => k = b) w).set (fun _ => rfl) _) h.ne
theorem DC.setSeed {w : World} {b : Nat} {sa : Option Addr} {bs : List Nat} {cap at_ : Nat} (h : DC w b sa bs cap at_) (z : Int) : DC (w.setCell ⟨b, 2, none⟩ (.int .u64 (IntKind.u64.wrap z))) b sa bs cap at_ := by
  obtain ⟨s, hs2, hc2⟩ := h.c2
  refine ⟨by have := h.lt; simpa [World.setCell] using this, ?_, ?_, ⟨(z % 18446744073709551616).toNat, by omega, ?_⟩, fun o => ?_, ?_, h.ne, h.u8, h.len, fun g off e => by have := h.sl g off e; simpa [World.setCell] using this⟩
  · rw [World.cell?_setCell_other _ _ _ _ (by simp)]; exact h.c0
  · rw [World.cell?_setCell_other _ _ _ _ (by simp)]; exact h.c1
  · rw [World.cell?_setCell_same _ _ _ hc2, IntKind.wrap_u64, Int.toNat_of_nonneg (by omega)]
  · rw [World.frozen?_setCell]; exact h.f o
  · exact h.at8.kept ((Kept.refl (fun k => k = b) w).set (fun _ => rfl) _) h.ne
theorem DK.trans {w w' w'' : World} {b : Nat} {sa : Option Addr} {bs : List Nat} {cap at_ at' : Nat} (h : DK w w' b sa bs cap at_) (k : DK w' w'' b sa bs cap at') : DK w w'' b sa bs cap at' := ⟨k.dc, h.kept.trans k.kept (fun _ _ e => e)⟩
theorem KeptD.drewN {p : Nat → Prop} {w w' : World} (h : Kept p w w') (k : Nat) : Kept p w (w'.drewN k) := ⟨h.os, h.tape, h.output, h.size, h.block⟩

theorem low8 (z : Int) : ∃ x : Nat, x < 256 ∧ wrap64 (bits .and .u64 (IntKind.u64.wrap z / 1099511627776) 255) = (x : Int) := by
  rw [IntKind.wrap_u64]
  generalize hy : z % 18446744073709551616 / 1099511627776 = y
  obtain ⟨n, rfl⟩ : ∃ n : Nat, y = (n : Int) := ⟨y.toNat, by omega⟩
  have h := u64_and_nat n 255 (by omega) (by omega)
  have h2 : n &&& 255 ≤ 255 := Nat.and_le_right
  refine ⟨n &&& 255, by omega, ?_⟩
  have h3 : bits .and .u64 (n : Int) 255 = ((n &&& 255 : Nat) : Int) := h
  rw [h3]
  generalize n &&& 255 = m at h2
  unfold wrap64
  omega

def NextD (w : World) (b : Nat) (sa : Option Addr) (bs : List Nat) (cap at_ : Nat) (e : Ending) (w' : World) : Prop :=
  ∃ x : Nat, x < 256 ∧ e = .returned (.int .i64 (x : Int)) ∧ DK w w' b sa bs cap (at_ + 1)

set_option maxRecDepth 100000 in
theorem l6next_any (b : Nat) (sa : Option Addr) (bs : List Nat) (cap at_ : Nat) (w : World) (hc : DC w b sa bs cap at_) (hat : at_ < 4611686018427387904) :
    Calls Try.prog 109 #[.pointer (some ⟨b, 0, none⟩)] w (NextD w b sa bs cap at_) := by
  obtain ⟨hlt, c0, c1, ⟨s, hs, c2⟩, hf, hb, hne, hx, hlm, _⟩ := id hc
  unfold maxLen at hlm
  by_cases hl : at_ < bs.length
  · obtain ⟨x, g, off, hxk, hxm, rfl, hcx⟩ := hb.get hl
    have hx0 := hx x hxm
    have hgb := hne g off rfl
    have e0 : IntKind.u64.wrap (x : Int) = (x : Int) := by rw [IntKind.wrap_u64]; omega
    go_enter Try.func109, Try.ntmps109
    go_wp2_with (go_quiet (fail))
    go_ret
    refine ⟨x, hx0, rfl, ?_, ?_⟩
    · exact ((hc.drewN _).setAt (n := at_ + 1) (by omega)).setSeed _
    · exact ((KeptD.drewN (Kept.refl (fun k => k = b) w) _).set (fun _ => rfl) _).set (fun _ => rfl) _
  · obtain ⟨x, hx0, e1⟩ := low8 (IntKind.u64.wrap ((s : Int) * 6364136223846793005) + 1442695040888963407)
    go_enter Try.func109, Try.ntmps109
    go_wp2_with (go_quiet (fail))
    go_ret
    refine ⟨x, hx0, by rw [e1]; rfl, ?_, ?_⟩
    · exact ((hc.drewN _).setSeed _).setAt (n := at_ + 1) (by omega)
    · exact ((KeptD.drewN (Kept.refl (fun k => k = b) w) _).set (fun _ => rfl) _).set (fun _ => rfl) _

/-- a choice among n -/
def PickD (w : World) (b : Nat) (sa : Option Addr) (bs : List Nat) (cap at_ n : Nat) (e : Ending) (w' : World) : Prop :=
  ∃ x at' : Nat, x < n ∧ at' ≤ at_ + 2 ∧ e = .returned (.int .i64 (x : Int)) ∧ DK w w' b sa bs cap at'

set_option maxRecDepth 100000 in
theorem l6pick_any (b : Nat) (sa : Option Addr) (bs : List Nat) (cap at_ n : Nat) (w : World) (hc : DC w b sa bs cap at_) (hat : at_ + 2 < 4611686018427387904) (hn : 1 ≤ n) (hn2 : n < 4611686018427387904) :
    Calls Try.prog 52 #[.pointer (some ⟨b, 0, none⟩), .int .i64 (n : Int)] w (PickD w b sa bs cap at_ n) := by
  by_cases h1 : n ≤ 1
  · go_enter Try.func52, Try.ntmps52
    go_wp2
    go_ret
    exact ⟨0, at_, by omega, by omega, rfl, hc, Kept.refl _ w⟩
  · have h1' : ¬ ((n : Int) ≤ 1) := by omega
    by_cases h2 : 200 < n
    · have h2' : (200 : Int) < (n : Int) := by omega
      go_enter Try.func52, Try.ntmps52
      go_wp2_with (go_at_call 109; refine (l6next_any b sa bs cap at_ w hc (by omega)).mono ?_; rintro e w1 ⟨x, hx, rfl, hk⟩)
      go_wp2_with (go_at_call 109; refine (l6next_any b sa bs cap (at_ + 1) w1 hk.dc (by omega)).mono ?_; rintro e w2 ⟨y, hy, rfl, hk2⟩)
      go_wp2
      go_ret
      have e : (((x * 256 + y) % n : Nat) : Int) = ((x : Int) * 256 + (y : Int)) % (n : Int) := by simp
      exact ⟨(x * 256 + y) % n, at_ + 1 + 1, Nat.mod_lt _ (by omega), by omega, by rw [e]; rfl, hk.trans hk2⟩
    · have h2' : ¬ (200 : Int) < (n : Int) := by omega
      go_enter Try.func52, Try.ntmps52
      go_wp2_with (go_at_call 109; refine (l6next_any b sa bs cap at_ w hc (by omega)).mono ?_; rintro e w1 ⟨x, hx, rfl, hk⟩)
      go_wp2
      go_ret
      have e : ((x % n : Nat) : Int) = (x : Int) % (n : Int) := by simp
      exact ⟨x % n, at_ + 1, Nat.mod_lt _ (by omega), by omega, by rw [e]; rfl, hk⟩

theorem l6pick_of (b : Nat) (sa : Option Addr) (bs : List Nat) (cap at_ n : Nat) (m : Int) (w : World) (hm : m = (n : Int)) (hc : DC w b sa bs cap at_) (hat : at_ + 2 < 4611686018427387904) (hn : 1 ≤ n) (hn2 : n < 4611686018427387904) :
    Calls Try.prog 52 #[.pointer (some ⟨b, 0, none⟩), .int .i64 m] w (PickD w b sa bs cap at_ n) := by
  subst hm; exact l6pick_any b sa bs cap at_ n w hc hat hn hn2

end Go.Proofs.Ythjddpkegooobaa

/-
  L6B: numbers and texts, drawn. Own work.
-/
namespace Go.Proofs.Ythjddpkegooobaa
open Go.RowKit

/-- a drawn number -/
def WholeD (w : World) (b : Nat) (sa : Option Addr) (bs : List Nat) (cap at_ : Nat) (e : Ending) (w' : World) : Prop :=
  ∃ (z : Int) (at' : Nat), I64 z ∧ at' ≤ at_ + 4 ∧ e = .returned (.int .i64 z) ∧ DK w w' b sa bs cap at'

set_option maxRecDepth 100000 in
theorem l6whole_any (b : Nat) (sa : Option Addr) (bs : List Nat) (cap at_ : Nat) (w : World) (hc : DC w b sa bs cap at_) (hat : at_ + 4 < 4611686018427387904) :
    Calls Try.prog 136 #[.pointer (some ⟨b, 0, none⟩)] w (WholeD w b sa bs cap at_) := by
  go_enter Try.func136, Try.ntmps136
  go_wp2_with (go_at_call_of 52 ((6 : Int)); refine (l6pick_of b sa bs cap at_ 6 6 w rfl hc (by omega) (by omega) (by omega)).mono ?_; rintro e w1 ⟨x, at1, hx, ha1, rfl, hk⟩; obtain rfl | rfl | rfl | h3 : x = 0 ∨ x = 1 ∨ x = 2 ∨ 3 ≤ x := by omega)
  · refine (l6pick_of b sa bs cap at1 3 3 w1 rfl hk.dc (by omega) (by omega) (by omega)).mono ?_
    rintro e w2 ⟨y, at2, hy, ha2, rfl, hk2⟩
    have ey : wrap64 (y : Int) = (y : Int) := by unfold wrap64; omega
    go_wp2
    go_ret
    exact ⟨9223372036854775807 - (y : Int), at2, by unfold I64; omega, by omega, rfl, hk.trans hk2⟩
  · refine (l6pick_of b sa bs cap at1 3 3 w1 rfl hk.dc (by omega) (by omega) (by omega)).mono ?_
    rintro e w2 ⟨y, at2, hy, ha2, rfl, hk2⟩
    have ey : wrap64 (y : Int) = (y : Int) := by unfold wrap64; omega
    go_wp2
    go_ret
    exact ⟨-9223372036854775808 + (y : Int), at2, by unfold I64; omega, by omega, rfl, hk.trans hk2⟩
  · refine (l6pick_of b sa bs cap at1 70000 70000 w1 rfl hk.dc (by omega) (by omega) (by omega)).mono ?_
    rintro e w2 ⟨y, at2, hy, ha2, rfl, hk2⟩
    have ey : wrap64 (y : Int) = (y : Int) := by unfold wrap64; omega
    go_wp2
    go_ret
    exact ⟨(y : Int) - 35000, at2, by unfold I64; omega, by omega, rfl, hk.trans hk2⟩
  · refine (l6pick_of b sa bs cap at1 12 12 w1 rfl hk.dc (by omega) (by omega) (by omega)).mono ?_
    rintro e w2 ⟨y, at2, hy, ha2, rfl, hk2⟩
    have ey : wrap64 (y : Int) = (y : Int) := by unfold wrap64; omega
    go_wp2
    go_ret
    exact ⟨(y : Int) - 3, at2, by unfold I64; omega, by omega, rfl, hk.trans hk2⟩

end Go.Proofs.Ythjddpkegooobaa

/-
  RD: the program's reader. Own work.
-/
namespace Go.Proofs.Ythjddpkegooobaa
open Go.RowKit

set_option maxRecDepth 100000 in
theorem readText_any (b : Nat) (sa : Option Addr) (cap : Nat) (bs r : List Nat) (n : Nat) (z : Int) (w : World) (hR : Rd w b sa cap bs r) (hz : z = (n : Int)) (hn : n ≤ 1048576) :
    Calls Try.prog 119 #[.pointer (some ⟨b, 0, none⟩), .int .i64 z] w (RPost (rdText n r) (fun x => .string x) b sa cap bs w) := by
  subst hz
  obtain ⟨⟨k, hC, hk, hr⟩, hlow, hcap, hlen, hbyte⟩ := hR
  have hrl : r.length = bs.length - k := by rw [hr, List.length_drop]
  by_cases hlt : k + n ≤ bs.length
  · have e1 : Hid (rdText n r = some (strB (r.take n), r.drop n)) := if_pos (by omega)
    go_enter Try.func119, Try.ntmps119
    go_wp2_with (go_at_call 137; refine (next_fits b _ bs.length cap k n _ hC hcap (by unfold maxLen; omega) hlt).mono ?_; rintro e w1 ⟨p, c, rfl, hp, hC1, hK1⟩; have hlow1 := hlow.below (hK1.below (show b ≤ w.heap.size by have := hC.lt; omega) (fun k hk e => by omega)); have hbt := take_bytes (n := n) hlow1 hlt hp; rw [← hr] at hbt; have hcv := conv_text (n := n) (c := c) hbt (by rw [List.length_take]; omega))
    go_ret
    exact ⟨hK1, Or.inl ⟨_, _, e1, by rw [hr]; rfl, ⟨⟨k + n, hC1, hlt, by rw [hr, List.drop_drop]⟩, hlow1, hcap, hlen, hbyte⟩⟩⟩
  · have e1 : Hid (rdText n r = none) := if_neg (by omega)
    go_enter Try.func119, Try.ntmps119
    go_wp2_with (go_at_call 137; refine (next_not b _ bs.length cap k n _ hC (by unfold maxLen; omega) hk (by omega)).mono ?_; rintro e w1 ⟨rfl, hb⟩)
    exact ⟨rfl, Kept.of_below hb _, Or.inr ⟨e1, rfl⟩⟩

set_option maxRecDepth 100000 in
theorem readNumber_any (b : Nat) (sa : Option Addr) (cap : Nat) (bs r : List Nat) (w : World) (hR : Rd w b sa cap bs r) :
    Calls Try.prog 148 #[.pointer (some ⟨b, 0, none⟩)] w (RPost (rdNum 0 0 r) (fun x => .int .u64 (x : Int)) b sa cap bs w) := by
  go_enter Try.func148, Try.ntmps148
  go_wp2
  go_loopw [3, 4] (fun a c ws => ∃ (n s : Nat) (q : List Nat), a = .int .u64 n ∧ c = .int .i64 s ∧ n < 18446744073709551616 ∧ s + 7 * q.length ≤ 7 * bs.length ∧ Hid (rdNum 0 0 r = rdNum n s q) ∧ Rd ws b sa cap bs q ∧ Kept (fun k => k = b) w ws) (fun _ c _ => 7 * bs.length + 7 - (intOf c).toNat)
  case atStart =>
    refine ⟨0, 0, r, rfl, rfl, by omega, ?_, rfl, hR, Kept.refl _ _⟩
    obtain ⟨k, _, _, hr⟩ := hR.ex
    rw [hr, List.length_drop]; omega
  case round =>
    obtain ⟨n, s, q, rfl, rfl, hn, hs, hq, hRq, hK⟩ := hrel
    have hlen := hRq.len
    go_wp2_with (go_at_call 149; refine (readByte_any b sa cap bs q _ hRq).mono ?_; rintro e w1 ⟨hK1, ⟨x, r', hx, rfl, hR1⟩ | ⟨hno, rfl⟩⟩)
    · rename_i hlt
      obtain ⟨hx256, hqx⟩ := hRq.head hx.out
      have e5 : Hid (rdNum 0 0 r = some (orU n (x % 128) s, r')) := by show _ = _; rw [hq.out, hqx, rdNum, if_pos (by omega)]
      go_ret
      exact ⟨hK.trans hK1 (fun _ _ h => h), Or.inl ⟨_, r', e5, ret_int (or_form hn hx256), hR1⟩⟩
    · rename_i hlt
      obtain ⟨hx256, hqx⟩ := hRq.head hx.out
      have e5 : Hid (rdNum 0 0 r = rdNum (orU n (x % 128) s) (s + 7) r') := by show _ = _; rw [hq.out, hqx, rdNum, if_neg (by omega)]
      have hl2 : q.length = r'.length + 1 := by rw [hqx]; rfl
      refine ⟨⟨orU n (x % 128) s, s + 7, r', congrArg (Value.int .u64) (or_form hn hx256), by go_num, orU_lt hn, by omega, e5, hR1, hK.trans hK1 (fun _ _ h => h)⟩, ?_⟩
      simp [intOf]; omega
    · have e5 : Hid (rdNum 0 0 r = none) := by
        show _ = _
        rw [hq.out]
        cases q with
        | nil => rfl
        | cons y t => cases hno.out
      exact ⟨rfl, hK.trans hK1 (fun _ _ h => h), Or.inr ⟨e5, rfl⟩⟩

set_option maxRecDepth 100000 in
theorem readCount_any (b : Nat) (sa : Option Addr) (cap : Nat) (bs r : List Nat) (most : Nat) (z : Int) (w : World) (hR : Rd w b sa cap bs r) (hz : z = (most : Int)) (hm : most ≤ 1048576) :
    Calls Try.prog 120 #[.pointer (some ⟨b, 0, none⟩), .int .i64 z] w (RPost (rdCount most r) (fun x => .int .i64 (x : Int)) b sa cap bs w) := by
  subst hz
  have e6 : IntKind.u64.wrap (most : Int) = (most : Int) := by rw [IntKind.wrap_u64]; omega
  go_enter Try.func120, Try.ntmps120
  go_wp2_with (go_at_call 148; refine (readNumber_any b sa cap bs r _ hR).mono ?_; rintro e w1 ⟨hK1, ⟨x, r', hx, rfl, hR1⟩ | ⟨hno, rfl⟩⟩)
  · rename_i hgt
    have e5 : Hid (rdCount most r = none) := by show _ = _; unfold rdCount; rw [hx.out]; exact if_neg (by omega)
    exact ⟨rfl, hK1, Or.inr ⟨e5, rfl⟩⟩
  · rename_i hle
    have e5 : Hid (rdCount most r = some (x, r')) := by show _ = _; unfold rdCount; rw [hx.out]; exact if_pos (by omega)
    go_ret
    exact ⟨hK1, Or.inl ⟨x, r', e5, rfl, hR1⟩⟩
  · have e5 : Hid (rdCount most r = none) := by show _ = _; unfold rdCount; rw [hno.out]
    exact ⟨rfl, hK1, Or.inr ⟨e5, rfl⟩⟩

end Go.Proofs.Ythjddpkegooobaa

/-
  L6T: texts, drawn. Own work.
-/
namespace Go.Proofs.Ythjddpkegooobaa
open Go.RowKit

theorem strB_size (ys : List Nat) : (strB ys).size = ys.length := by
  unfold strB strOfNums
  simp [ByteArray.size]

theorem owns_bytesD {w : World} {base n c : Nat} {a : Option Addr} {zs : List Nat} (h : w.ownsRow base 5 1 (.slice a n c) zs.length (bcells zs)) : BytesAt w a zs := fun i hi => by
  obtain ⟨g, rfl, _, _, hc⟩ := owns_cell h (bcells_get hi)
  exact ⟨g, 0, rfl, by simpa using hc⟩

/-- a drawn text -/
def TextD (w : World) (b : Nat) (sa : Option Addr) (bs : List Nat) (cap at_ : Nat) (e : Ending) (w' : World) : Prop :=
  ∃ (t : ByteArray) (at' : Nat), t.size ≤ 1000 ∧ at' ≤ at_ + 10 ∧ e = .returned (.string t) ∧ DK w w' b sa bs cap at'

def strSize : Value → Nat
  | .string t => t.size
  | _ => 0

set_option maxRecDepth 100000 in
theorem l6text_any (b : Nat) (sa : Option Addr) (bs : List Nat) (cap at_ : Nat) (w : World) (hc : DC w b sa bs cap at_) (hat : at_ + 10 < 4611686018427387904) :
    Calls Try.prog 144 #[.pointer (some ⟨b, 0, none⟩)] w (TextD w b sa bs cap at_) := by
  obtain ⟨i0, hi, hz0, hz1, hz2⟩ := info_parts info_u8
  go_enter Try.func144, Try.ntmps144
  go_wp2_with (go_at_call_of 52 ((30 : Int)); refine (l6pick_of b sa bs cap at_ 30 30 w rfl hc (by omega) (by omega) (by omega)).mono ?_; rintro e w1 ⟨x, at1, hx, ha1, rfl, hk⟩; obtain rfl | h3 : x = 0 ∨ 1 ≤ x := by omega)
  · go_loopw [3] (fun s ws => ∃ t : ByteArray, s = .string t ∧ 10 ≤ t.size ∧ t.size ≤ 1999 ∧ DK w ws b sa bs cap at1) (fun s _ => 2000 - strSize s)
    case atStart => exact ⟨_, rfl, by decide, by decide, hk⟩
    case round =>
      obtain ⟨t, rfl, h10, h20, hk0⟩ := hrel
      by_cases hlt : t.size < 1000
      · have hd : (t.size : Int) < 1000 := by omega
        go_wp2
        go_roundw
        case rel => exact ⟨_, rfl, by simp [ByteArray.size_append]; omega, by simp [ByteArray.size_append]; omega, hk0⟩
        case measure => simp [strSize, ByteArray.size_append]; omega
      · have hd : ¬ (t.size : Int) < 1000 := by omega
        go_wp2_with (go_at_call_of 52 ((2 : Int)); refine (l6pick_of b sa bs cap at1 2 2 _ rfl hk0.dc (by omega) (by omega) (by omega)).mono ?_; rintro e w2 ⟨y, at2, hy, ha2, rfl, hk2⟩)
        go_ret
        exact ⟨t.extract 0 (1000 - y), at2, by simp [ByteArray.size_extract]; omega, by omega, rfl, hk0.trans hk2⟩
  · refine (l6pick_of b sa bs cap at1 6 6 w1 rfl hk.dc (by omega) (by omega) (by omega)).mono ?_
    rintro e w2 ⟨y, at2, hy, ha2, rfl, hk2⟩
    have hbw := hc.lt
    have hkk := hk.trans hk2
    go_wp2
    go_loopw [4, 5] (fun o i ws => ∃ (n at3 : Nat) (zs : List Nat) (oa1 : Option Addr) (cap1 : Nat), o = .slice oa1 zs.length cap1 ∧ i = .int .i64 n ∧ n + zs.length ≤ 5 ∧ at3 + n ≤ at_ + 10 ∧ ws.ownsRow w.heap.size 5 1 (.slice oa1 zs.length cap1) zs.length (bcells zs) ∧ DK w ws b sa bs cap at3) (fun _ i _ => (intOf i).toNat)
    case atStart => exact ⟨y, at2, [], none, 0, rfl, rfl, by simp; omega, by omega, World.ownsRow_nil _ _ _ _, hkk⟩
    case round =>
      obtain ⟨n, at3, zs, oa1, cap1, rfl, rfl, hnz, hn3, hO, hD⟩ := hrel
      by_cases hlt : 0 < n
      · have hd : (0 : Int) < (n : Int) := by omega
        go_wp2_with (first
          | (go_at_call 109; refine (l6next_any b sa bs cap at3 wr hD.dc (by omega)).mono ?_; rintro e w3 ⟨z, hz, rfl, hk3⟩)
          | (have hO3 := hk3.kept.owns hO (fun k hk e => by have := (hO.lt k hk).1; omega); have hs3 := hk3.kept.size; have hsD := hD.kept.size; at_builtin; refine wpList_append_lies _ rfl (.tmp 26) (.tmp 30) 22 rfl w.heap.size 5 i0 (.int .u8 0) 1 1 Try.underlying22 hi hz0 hz1 hz2 rfl (by decide) _ _ _ rfl (hO3.alloc _) ⟨w3.heap.size, 0, none⟩ 1 1 [.int .u8 (z : Int)] rfl rfl (World.news_of_block (cs := #[.int .u8 (z : Int)]) (t := 5) (fr := (0, 0)) (blk_new_at _ _ _ (by simp))) (by simp [Value.oneCell']) (by decide) (by unfold maxLen; omega) (by omega) (by simp; omega) (w3.heap.size + 1) (by simp) ?_; intro g cap2 w4 hown1 hgrow hat4 hlt2))
        have hG := Kept.of_grown hgrow
        have hA : Kept (fun _ => False) w3 (w3.alloc (.cells #[.int .u8 (z : Int)] 5)) := (Kept.refl _ w3).alloc _
        have hob : ∀ k, (Value.slice oa1 zs.length cap1).ownBlock = some k → w.heap.size ≤ k := fun k hk => (hO.lt k hk).1
        go_roundw
        case rel =>
          refine ⟨n - 1, at3 + 1, zs ++ [z], some ⟨g, 0, none⟩, cap2, by simp, congrArg (Value.int .i64) (by omega), by simp; omega, by omega, ?_, ?_⟩
          · simpa [bcells_snoc] using hown1
          · refine ⟨((hk3.dc.kept hA (fun e => e) (fun _ _ _ e => e)).kept hG (fun e => by have := hob _ e; omega) (fun g off e h => ?_)), ((hD.kept.trans hk3.kept (fun _ _ e => e)).trans hA (fun _ _ e => e.elim)).trans hG (fun k hk e => by have := hob _ e; omega)⟩
            have := hob _ h
            have h9 := hc.sl g off e
            omega
        case measure => simp [intOf]; omega
      · obtain rfl : n = 0 := by omega
        have hcv := conv_text (c := cap1) (owns_bytesD hO) rfl
        go_wp2
        go_ret
        exact ⟨strB zs, at3, by rw [strB_size]; omega, by omega, rfl, hD⟩

end Go.Proofs.Ythjddpkegooobaa

/-
  RD2: the program's reader: words, values. Own work.
-/
namespace Go.Proofs.Ythjddpkegooobaa
open Go.RowKit

set_option maxRecDepth 100000 in
theorem signed_any (n : Nat) (w : World) (hn : n < 18446744073709551616) :
    Calls Try.prog 150 #[.int .u64 (n : Int)] w fun e w' => e = .returned (.int .i64 (zag n)) ∧ Below w.heap.size w w' := by
  go_enter Try.func150, Try.ntmps150
  go_wp2
  go_ret
  exact ⟨ret_int (zag_form hn), gre _⟩

end Go.Proofs.Ythjddpkegooobaa

/-
  L6V: values, drawn. Own work.
-/
namespace Go.Proofs.Ythjddpkegooobaa
open Go.RowKit

/-- a drawn value -/
def ValD (w : World) (b : Nat) (sa : Option Addr) (bs : List Nat) (cap at_ n : Nat) (e : Ending) (w' : World) : Prop :=
  ∃ (v : GV) (at' : Nat), v.Ok ∧ okV n v = true ∧ at' ≤ at_ + 12 ∧ e = .returned v.val ∧ DK w w' b sa bs cap at'

/-- the answer's cells are written -/
theorem DK.puts {w wk : World} {b : Nat} {sa : Option Addr} {bs : List Nat} {cap at_ : Nat} (h : DK w wk b sa bs cap at_) {B : Nat} (hB : w.heap.size ≤ B) (hb : b < w.heap.size) (hs : ∀ g off, sa = some ⟨g, off, none⟩ → g < w.heap.size) (x0 x1 x2 x3 : Value) : DK w ((((wk.setCell ⟨B, 0, none⟩ x0).setCell ⟨B, 1, none⟩ x1).setCell ⟨B, 2, none⟩ x2).setCell ⟨B, 3, none⟩ x3) b sa bs cap at_ := by
  have hK := ((((Kept.refl (fun k => k = B) wk).set (a := ⟨B, 0, none⟩) (fun _ => rfl) x0).set (a := ⟨B, 1, none⟩) (fun _ => rfl) x1).set (a := ⟨B, 2, none⟩) (fun _ => rfl) x2).set (a := ⟨B, 3, none⟩) (fun _ => rfl) x3
  exact ⟨h.dc.kept hK (by omega) (fun g off e => by have := hs g off e; omega), h.kept.trans hK (fun k hk e => by omega)⟩

set_option maxRecDepth 100000 in
theorem l6val_any (b : Nat) (sa : Option Addr) (bs : List Nat) (cap at_ n : Nat) (w : World) (hc : DC w b sa bs cap at_) (hat : at_ + 12 < 4611686018427387904) (hn : n ≤ 300) :
    Calls Try.prog 110 #[.pointer (some ⟨b, 0, none⟩), .int .i64 (n : Int)] w (ValD w b sa bs cap at_ n) := by
  have hs0 := hc.lt
  obtain ⟨wA, hwA⟩ : ∃ wA, Hid (wA = w.alloc (.cells #[.int .i64 0, .int .i64 0, .string ⟨#[]⟩, .int .i64 0] 24)) := ⟨_, rfl⟩
  have hFA : Four wA w.heap.size ⟨0, 0, ⟨#[]⟩, 0⟩ := by rw [hwA.out]; exact Four.new w ⟨0, 0, ⟨#[]⟩, 0⟩ 24
  have hKA : Kept (fun _ => False) w wA := by rw [hwA.out]; exact (Kept.refl _ w).alloc _
  have hcA : DC wA b sa bs cap at_ := hc.kept hKA (fun e => e) (fun _ _ _ e => e)
  have hKw : DK w wA b sa bs cap at_ := ⟨hcA, hKA.mono (fun _ _ e => e.elim)⟩
  go_enter Try.func110, Try.ntmps110
  go_wp2_with (go_at_call_of 52 ((8 : Int)); rw [← hwA.out]; refine (l6pick_of b sa bs cap at_ 8 8 wA rfl hcA (by omega) (by omega) (by omega)).mono ?_; rintro e w1 ⟨x, at1, hx, ha1, rfl, hk⟩; have hF1 := hFA.kept hk.kept (by omega); obtain ⟨fz, f0, f1, f2, f3, ff⟩ := id hF1; obtain rfl | rfl | rfl | rfl | rfl | h3 : x = 0 ∨ x = 1 ∨ x = 2 ∨ x = 3 ∨ x = 4 ∨ 5 ≤ x := by omega)
  · have hF9 := hF1.set4 (GV.mk 0 0 ⟨#[]⟩ 0)
    have hK9 := (hKw.trans hk).puts (B := w.heap.size) (Nat.le_refl _) hs0 hc.sl (.int .i64 (GV.mk 0 0 ⟨#[]⟩ 0).kind) (.int .i64 (GV.mk 0 0 ⟨#[]⟩ 0).num) (.string (GV.mk 0 0 ⟨#[]⟩ 0).text) (.int .i64 (GV.mk 0 0 ⟨#[]⟩ 0).node)
    dsimp only at hF9 hK9
    generalize World.setCell _ ⟨w.heap.size, 3, none⟩ _ = w9 at hF9 hK9 ⊢
    obtain ⟨_, r0, r1, r2, r3, _⟩ := hF9
    exact bodyPost_ret (v := (GV.mk 0 0 ⟨#[]⟩ 0).val) (by simp [results, Try.results110, go_sem, r0, r1, r2, r3]) rfl ⟨GV.mk 0 0 ⟨#[]⟩ 0, at1, ⟨by unfold I64; dsimp only; omega, by unfold I64; dsimp only; omega, by unfold maxLen; dsimp only; (first | omega | decide), by unfold I64; dsimp only; omega⟩, by simp [okV], by omega, rfl, hK9⟩
  · refine (l6whole_any b sa bs cap at1 w1 hk.dc (by omega)).mono ?_
    rintro e w2 ⟨z, at2, hz, ha2, rfl, hk2⟩
    have hF2 := hF1.kept hk2.kept (by omega)
    obtain ⟨gz, g0, g1, g2, g3, gf⟩ := id hF2
    unfold I64 at hz
    go_wp2
    have hF9 := hF2.set4 (GV.mk 1 z ⟨#[]⟩ 0)
    have hK9 := (hKw.trans (hk.trans hk2)).puts (B := w.heap.size) (Nat.le_refl _) hs0 hc.sl (.int .i64 (GV.mk 1 z ⟨#[]⟩ 0).kind) (.int .i64 (GV.mk 1 z ⟨#[]⟩ 0).num) (.string (GV.mk 1 z ⟨#[]⟩ 0).text) (.int .i64 (GV.mk 1 z ⟨#[]⟩ 0).node)
    dsimp only at hF9 hK9
    generalize World.setCell _ ⟨w.heap.size, 3, none⟩ _ = w9 at hF9 hK9 ⊢
    obtain ⟨_, r0, r1, r2, r3, _⟩ := hF9
    exact bodyPost_ret (v := (GV.mk 1 z ⟨#[]⟩ 0).val) (by simp [results, Try.results110, go_sem, r0, r1, r2, r3]) rfl ⟨GV.mk 1 z ⟨#[]⟩ 0, at2, ⟨by unfold I64; dsimp only; omega, by unfold I64; dsimp only; omega, by unfold maxLen; dsimp only; (first | omega | decide), by unfold I64; dsimp only; omega⟩, by simp [okV], by omega, rfl, hK9⟩
  · refine (l6whole_any b sa bs cap at1 w1 hk.dc (by omega)).mono ?_
    rintro e w2 ⟨z, at2, hz, ha2, rfl, hk2⟩
    have hF2 := hF1.kept hk2.kept (by omega)
    obtain ⟨gz, g0, g1, g2, g3, gf⟩ := id hF2
    unfold I64 at hz
    go_wp2
    have hF9 := hF2.set4 (GV.mk 1 z ⟨#[]⟩ 0)
    have hK9 := (hKw.trans (hk.trans hk2)).puts (B := w.heap.size) (Nat.le_refl _) hs0 hc.sl (.int .i64 (GV.mk 1 z ⟨#[]⟩ 0).kind) (.int .i64 (GV.mk 1 z ⟨#[]⟩ 0).num) (.string (GV.mk 1 z ⟨#[]⟩ 0).text) (.int .i64 (GV.mk 1 z ⟨#[]⟩ 0).node)
    dsimp only at hF9 hK9
    generalize World.setCell _ ⟨w.heap.size, 3, none⟩ _ = w9 at hF9 hK9 ⊢
    obtain ⟨_, r0, r1, r2, r3, _⟩ := hF9
    exact bodyPost_ret (v := (GV.mk 1 z ⟨#[]⟩ 0).val) (by simp [results, Try.results110, go_sem, r0, r1, r2, r3]) rfl ⟨GV.mk 1 z ⟨#[]⟩ 0, at2, ⟨by unfold I64; dsimp only; omega, by unfold I64; dsimp only; omega, by unfold maxLen; dsimp only; (first | omega | decide), by unfold I64; dsimp only; omega⟩, by simp [okV], by omega, rfl, hK9⟩
  · refine (l6whole_any b sa bs cap at1 w1 hk.dc (by omega)).mono ?_
    rintro e w2 ⟨z, at2, hz, ha2, rfl, hk2⟩
    have hF2 := hF1.kept hk2.kept (by omega)
    obtain ⟨gz, g0, g1, g2, g3, gf⟩ := id hF2
    unfold I64 at hz
    go_wp2
    have hF9 := hF2.set4 (GV.mk 2 z ⟨#[]⟩ 0)
    have hK9 := (hKw.trans (hk.trans hk2)).puts (B := w.heap.size) (Nat.le_refl _) hs0 hc.sl (.int .i64 (GV.mk 2 z ⟨#[]⟩ 0).kind) (.int .i64 (GV.mk 2 z ⟨#[]⟩ 0).num) (.string (GV.mk 2 z ⟨#[]⟩ 0).text) (.int .i64 (GV.mk 2 z ⟨#[]⟩ 0).node)
    dsimp only at hF9 hK9
    generalize World.setCell _ ⟨w.heap.size, 3, none⟩ _ = w9 at hF9 hK9 ⊢
    obtain ⟨_, r0, r1, r2, r3, _⟩ := hF9
    exact bodyPost_ret (v := (GV.mk 2 z ⟨#[]⟩ 0).val) (by simp [results, Try.results110, go_sem, r0, r1, r2, r3]) rfl ⟨GV.mk 2 z ⟨#[]⟩ 0, at2, ⟨by unfold I64; dsimp only; omega, by unfold I64; dsimp only; omega, by unfold maxLen; dsimp only; (first | omega | decide), by unfold I64; dsimp only; omega⟩, by simp [okV], by omega, rfl, hK9⟩
  · refine (l6text_any b sa bs cap at1 w1 hk.dc (by omega)).mono ?_
    rintro e w2 ⟨t, at2, ht, ha2, rfl, hk2⟩
    have hF2 := hF1.kept hk2.kept (by omega)
    obtain ⟨gz, g0, g1, g2, g3, gf⟩ := id hF2
    go_wp2
    have hF9 := hF2.set4 (GV.mk 3 0 t 0)
    have hK9 := (hKw.trans (hk.trans hk2)).puts (B := w.heap.size) (Nat.le_refl _) hs0 hc.sl (.int .i64 (GV.mk 3 0 t 0).kind) (.int .i64 (GV.mk 3 0 t 0).num) (.string (GV.mk 3 0 t 0).text) (.int .i64 (GV.mk 3 0 t 0).node)
    dsimp only at hF9 hK9
    generalize World.setCell _ ⟨w.heap.size, 3, none⟩ _ = w9 at hF9 hK9 ⊢
    obtain ⟨_, r0, r1, r2, r3, _⟩ := hF9
    exact bodyPost_ret (v := (GV.mk 3 0 t 0).val) (by simp [results, Try.results110, go_sem, r0, r1, r2, r3]) rfl ⟨GV.mk 3 0 t 0, at2, ⟨by unfold I64; dsimp only; omega, by unfold I64; dsimp only; omega, by unfold maxLen; dsimp only; (first | omega | decide), by unfold I64; dsimp only; omega⟩, by simp [okV, ht], by omega, rfl, hK9⟩
  · have hF9 := hF1.set4 (GV.mk 1 5 ⟨#[]⟩ 0)
    have hK9 := (hKw.trans hk).puts (B := w.heap.size) (Nat.le_refl _) hs0 hc.sl (.int .i64 (GV.mk 1 5 ⟨#[]⟩ 0).kind) (.int .i64 (GV.mk 1 5 ⟨#[]⟩ 0).num) (.string (GV.mk 1 5 ⟨#[]⟩ 0).text) (.int .i64 (GV.mk 1 5 ⟨#[]⟩ 0).node)
    dsimp only at hF9 hK9
    generalize World.setCell _ ⟨w.heap.size, 3, none⟩ _ = w9 at hF9 hK9 ⊢
    obtain ⟨_, r0, r1, r2, r3, _⟩ := hF9
    exact bodyPost_ret (v := (GV.mk 1 5 ⟨#[]⟩ 0).val) (by simp [results, Try.results110, go_sem, r0, r1, r2, r3]) rfl ⟨GV.mk 1 5 ⟨#[]⟩ 0, at1, ⟨by unfold I64; dsimp only; omega, by unfold I64; dsimp only; omega, by unfold maxLen; dsimp only; (first | omega | decide), by unfold I64; dsimp only; omega⟩, by simp [okV], by omega, rfl, hK9⟩
  · have hn1 : 1 ≤ n := by
      rcases Nat.eq_zero_or_pos n with rfl | h
      · simp_all
      · exact h
    refine (l6pick_any b sa bs cap at1 n w1 hk.dc (by omega) hn1 (by omega)).mono ?_
    rintro e w2 ⟨y, at2, hy, ha2, rfl, hk2⟩
    have hF2 := hF1.kept hk2.kept (by omega)
    obtain ⟨gz, g0, g1, g2, g3, gf⟩ := id hF2
    go_wp2
    have hF9 := hF2.set4 (GV.mk 4 0 ⟨#[]⟩ (y : Int))
    have hK9 := (hKw.trans (hk.trans hk2)).puts (B := w.heap.size) (Nat.le_refl _) hs0 hc.sl (.int .i64 (GV.mk 4 0 ⟨#[]⟩ (y : Int)).kind) (.int .i64 (GV.mk 4 0 ⟨#[]⟩ (y : Int)).num) (.string (GV.mk 4 0 ⟨#[]⟩ (y : Int)).text) (.int .i64 (GV.mk 4 0 ⟨#[]⟩ (y : Int)).node)
    dsimp only at hF9 hK9
    generalize World.setCell _ ⟨w.heap.size, 3, none⟩ _ = w9 at hF9 hK9 ⊢
    obtain ⟨_, r0, r1, r2, r3, _⟩ := hF9
    exact bodyPost_ret (v := (GV.mk 4 0 ⟨#[]⟩ (y : Int)).val) (by simp [results, Try.results110, go_sem, r0, r1, r2, r3]) rfl ⟨GV.mk 4 0 ⟨#[]⟩ (y : Int), at2, ⟨by unfold I64; dsimp only; omega, by unfold I64; dsimp only; omega, by unfold maxLen; dsimp only; (first | omega | decide), by unfold I64; dsimp only; omega⟩, by simp [okV]; omega, by omega, rfl, hK9⟩

end Go.Proofs.Ythjddpkegooobaa
