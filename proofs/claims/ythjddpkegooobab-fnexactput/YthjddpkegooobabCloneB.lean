/-
  CLONEB: the library's copy of bytes. Own work.
-/
import Derived.Test.YthjddpkegooobabBRow
import Derived.Lib.SliceRun
import Derived.Laws.AppendOwn
namespace Go.Proofs.Ythjddpkegooobab
open Go.RowKit

theorem brow_owns {w : World} {base n cap G : Nat} {bs : List Nat} (h : w.ownsRow base 5 1 (.slice (some ⟨G, 0, none⟩) n cap) n (bcells bs)) (hn : bs.length = n) (h0 : 0 < n) : BRow w G cap bs ∧ base ≤ G := by
  rcases h.2 with ⟨_, e⟩ | ⟨g, cap', cur, hv, hb, hg, h1, h2, h3, h4⟩
  · omega
  · simp only [Value.slice.injEq] at hv
    obtain ⟨e1, _, rfl⟩ := hv
    have e2 := some_addr e1
    subst e2
    refine ⟨⟨cur, hg, by simpa using h3, by omega, fun i hi => ?_⟩, hb⟩
    have hc := h.cells (g := G) rfl i _ (bcells_get hi)
    rw [show ((⟨G, 0, none⟩ : Addr).add i) = ⟨G, i, none⟩ by unfold Addr.add; split <;> simp_all] at hc
    simpa [World.cell?, hg] using hc

set_option maxHeartbeats 2000000 in
set_option maxRecDepth 100000 in
theorem bytesClone_any (b off c : Nat) (bs : List Nat) (w : World) (h0 : 0 < bs.length) (hl : bs.length ≤ 1048576) (ha : BytesAt w (some ⟨b, off, none⟩) bs) :
    Calls Try.prog 150 #[.slice (some ⟨b, off, none⟩) bs.length c] w fun e w' => ∃ G cap, e = .returned (.slice (some ⟨G, 0, none⟩) bs.length cap) ∧ w.heap.size ≤ G ∧ BRow w' G cap bs ∧ Below w.heap.size w w' := by
  obtain ⟨i0, hi, hz0, hz1, hz2⟩ := info_parts info_u8
  have q22 : ∀ (w : World) (a : Option Addr) (n c n' c' : Nat), (binOp .eql 28 (.slice a n c) (.slice none n' c')).run Try.prog w = .ok (.bool a.isNone) w := fun w a n c n' c' => Lib.run_eql_slice_nil w _ _ a n c n' c' Try.underlying28
  have A : Hid (∀ j u, (bcells bs)[j]? = some u → w.cell? ((⟨b, off, none⟩ : Addr).add j) = some u) := fun j u hj => by
    have hjl : j < bs.length := by have := (List.getElem?_eq_some_iff.1 hj).1; rwa [bcells_length] at this
    obtain ⟨b', off', e, hc⟩ := ha j hjl
    have e' : b' = b ∧ off' = off := by
      have := Option.some.inj e
      exact ⟨(congrArg Addr.block this).symm, (congrArg Addr.off this).symm⟩
    obtain ⟨rfl, rfl⟩ := e'
    rw [show ((⟨b', off', none⟩ : Addr).add j) = ⟨b', off' + j, none⟩ by unfold Addr.add; split <;> simp_all, hc, ← bcells_get hjl, hj]
  clear ha
  go_enter Try.func150, Try.ntmps150
  go_wp2_with (at_builtin; refine wpList_append_own _ rfl _ _ 28 rfl w.heap.size 5 i0 (.int .u8 0) 1 1 Try.underlying28 hi hz0 hz1 hz2 rfl (by decide) _ _ _ rfl (World.ownsRow_made w #[] 0 (Nat.le_refl _) (Nat.zero_le _) rfl) ⟨b, off, none⟩ bs.length c (bcells bs) rfl ?qc1 ?qc2 ?qc3 ?qc4 ?qc5 ?qc6 ?_)
  case qc1 => rw [bcells_length, Nat.mul_one]
  case qc2 => exact fun j u hj => Lib.cell?_alloc_some _ (A.out j u hj)
  case qc3 => intro u hu; obtain ⟨x, _, rfl⟩ := List.mem_map.1 hu; rfl
  case qc4 => unfold maxLen; omega
  case qc5 => omega
  case qc6 => simp
  intro v' w1 hown hgrow hnil
  go_wp2
  go_ret
  have hown' : w1.ownsRow w.heap.size 5 1 v' bs.length (bcells bs) := by simpa using hown
  obtain ⟨G, cap, rfl, hG, _⟩ := hown'.form h0
  have hB := brow_owns hown' rfl h0
  exact ⟨G, cap, rfl, hB.2, hB.1, ((Below.refl _ w).alloc (Nat.le_refl _) _).grown hgrow (by simp) (by intro k hk; simp [Value.ownBlock] at hk; omega)⟩

end Go.Proofs.Ythjddpkegooobab
