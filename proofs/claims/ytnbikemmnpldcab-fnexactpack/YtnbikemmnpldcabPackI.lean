/-
  PACKI: the program's Pack. Own work.
-/
import Derived.Test.YtnbikemmnpldcabWr4
import Derived.Test.YtnbikemmnpldcabSum
import Derived.Test.YtnbikemmnpldcabCanonOk2
import Derived.Test.YtnbikemmnpldcabOb4
import Derived.Recover
import Derived.Laws.Pointers
namespace Go.Proofs.Ytnbikemmnpldcab
open Go.RowKit

set_option maxRecDepth 100000 in
theorem assert_nil (w : World) : (Instr.typeAssert .nilIface 20 137 true).run Try.prog w = .ok (.tuple #[.agg #[], .bool false]) w := by kernel_rfl
theorem assert_halt (w : World) : (Instr.typeAssert (.iface 137 (.agg #[])) 20 137 true).run Try.prog w = .ok (.tuple #[.agg #[], .bool true]) w := by kernel_rfl

set_option maxRecDepth 100000 in
theorem passOn_nil (w : World) : Calls Try.prog 66 #[.nilIface] w fun e w' => e = .returned (.tuple #[]) ∧ w' = w := by
  have ht := assert_nil
  go_enter Try.func66, Try.ntmps66
  go_wp2
  first | go_end0 | refine bodyPost_ret (results_none rfl _ _ _) rfl ?_
  exact ⟨rfl, rfl⟩

set_option maxRecDepth 100000 in
theorem passOn_halt (w : World) : Calls Try.prog 66 #[.iface 137 (.agg #[])] w fun e w' => e = .returned (.tuple #[]) ∧ w' = w := by
  have ht := assert_halt
  go_enter Try.func66, Try.ntmps66
  go_wp2
  first | go_end0 | refine bodyPost_ret (results_none rfl _ _ _) rfl ?_
  exact ⟨rfl, rfl⟩

set_option maxRecDepth 100000 in
theorem packCatch_panicking (older : List PanicEntry) (w : World) :
    CallsD Try.prog 65 #[] (.panicking (haltP :: older)) w fun e u' w' =>
      e = .returned (.tuple #[]) ∧ u' = .panicking ({ v := .iface 137 (.agg #[]), recovered := true } :: older) ∧ w' = w := by
  refine callsD_of_wpS Try.func65 rfl fun c₀ cs hu => ?_
  apply wpS_region
  simp [wpOpsS, go_sem, recoverD, hu, Try.ntmps65]
  refine (passOn_halt w).mono ?_
  rintro e w' ⟨rfl, rfl⟩
  simp [bodyPostS, results, Try.results65]

set_option maxRecDepth 100000 in
theorem packCatch_idle (w : World) :
    CallsD Try.prog 65 #[] .returning w fun e u' w' => e = .returned (.tuple #[]) ∧ u' = .returning ∧ w' = w := by
  refine callsD_of_wpS Try.func65 rfl fun c₀ cs hu => ?_
  apply wpS_region
  simp [wpOpsS, go_sem, recoverD, hu, Try.ntmps65]
  refine (passOn_nil w).mono ?_
  rintro e w' ⟨rfl, rfl⟩
  cases c₀
  simp_all [bodyPostS, results, Try.results65]

/-- bytes that lie in memory of their own, and may be written -/
def MB (w : World) (lo : Nat) (oa : Option Addr) (ys : List Nat) : Prop := ys = [] ∨ ∃ G n, oa = some ⟨G, 0, none⟩ ∧ lo ≤ G ∧ BRow w G n ys

/-- what Pack leaves -/
def PackIPost (ys : List Nat) (w : World) (e : Ending) (w' : World) : Prop :=
  ∃ oa cap, e = .returned (.slice oa ys.length cap) ∧ MB w' w.heap.size oa ys ∧ Below w.heap.size w w'

set_option maxRecDepth 100000 in
theorem brow_bytes {w : World} {G n : Nat} {ys : List Nat} (h : BRow w G n ys) : BytesAt w (some ⟨G, 0, none⟩) ys := fun i hi => ⟨G, 0, rfl, by rw [Nat.zero_add]; exact h.cell hi⟩
theorem u64n_wrap {n : Nat} (h : n < 18446744073709551616) : u64n (wrap64 (n : Int)) = n := by unfold u64n wrap64; omega
theorem i64_wrap (n : Int) : I64 (wrap64 n) := by unfold I64 wrap64; omega

set_option maxRecDepth 100000 in
theorem wr_new (w : World) (M : Array Value) (hM : M.size = 4096) : Wr ((w.alloc (.cells M 5)).alloc (.cells #[.slice (some ⟨w.heap.size, 0, none⟩) 4096 4096, .int .i64 0] 94)) (w.heap.size + 1) w.heap.size [] := by
  refine ⟨⟨by simp, by simp, by simp, fun o => by simp⟩, by omega, ⟨M, ?_, hM, by simp, fun i hi => absurd hi (Nat.not_lt_zero _)⟩⟩
  rw [Below.heap_alloc _ _ _ (by simp)]
  exact blk_new_at _ _ _ rfl

set_option maxRecDepth 100000 in
theorem implPack_any (a : Option Addr) (cap : Nat) (g : GG) (w : World) (hg : g.Ok) (ha : NodesAt w.heap.size w a g.nodes) :
    Calls Try.prog 16 #[g.val a cap] w (PackIPost (packB g) w) := by
  have hX0 := GBox.new w g a cap 33
  cases hok : okG g with
  | false =>
    have hz : Hid (packB g = []) := if_neg (by rw [hok]; simp)
    have hok' : Hid _ := hok
    go_enter_defers Try.func16, Try.ntmps16
    go_wp2_with (go_at_call 67; refine (implGraphOk_any a cap g _ hg (ha.grow (gal (gre _) _))).mono ?_; rintro e w1 ⟨rfl, hb1⟩; rw [hok'.out])
    refine leaves_cons (f := 65) (args := #[]) (by simp) (by simp [go_sem]) ?_
    refine (packCatch_idle _).mono ?_
    rintro e u' w'' ⟨rfl, rfl, rfl⟩
    refine ⟨_, results_tmp rfl _ _ _, ?_⟩
    exact ⟨none, 0, by rw [hz.out]; rfl, Or.inl hz.out, gca (gal (gre _) _) hb1⟩
  | true =>
    have hok' : Hid _ := hok
    obtain ⟨i0, hi, hz0, hz1, hz2⟩ := info_parts info_u8
    obtain ⟨M, hM⟩ := hid_ex (madeCells #[Value.int .u8 0] 4096)
    have hMs : M.size = 4096 := by rw [hM.out, size_madeCells]
    have hmk : ∀ u : World, (Instr.makeSlice 28 (.int .i64 4096) (.int .i64 4096)).run Try.prog u = .ok (.slice (some ⟨u.heap.size, 0, none⟩) 4096 4096) (u.alloc (.cells M 5)) := fun u => by
      have h := run_make (P := Try.prog) u 28 5 i0 _ Try.underlying28 hi hz0 .i64 .i64 4096 4096 (by omega) (Int.le_refl _) (by rw [hz2]; omega) (by omega)
      rw [hM.out]
      simpa [hz1, Value.cells] using h
    obtain ⟨c, hc⟩ := hid_ex (canon g)
    have hcz : Hid (canonZ g = c) := by show _ = _; rw [hc.out]; exact if_pos hok
    have hcok : okG c = true := by rw [hc.out]; exact canon_okG hok
    have hcO : c.Ok := by rw [hc.out]; exact canon_ok hg hok
    have hcb := graphB_bytes hcok
    have him : Hid (imageB g = graphB c ++ lowB 8 (sumN (graphB c))) := by show _ = _; unfold imageB formB; rw [← hc.out]
    have hsl := u64n_wrap (sumN_lt (graphB c))
    have hlow := lowB_length 8 (sumN (graphB c))
    clear hM
    go_enter_defers Try.func16, Try.ntmps16
    go_wp2_with (first
      | (go_at_call 72; refine (passed_any _ _ 4096 4096 _ _ hW6.cur (by omega) (by decide) hW6.le).mono ?_; rintro e w7 ⟨rfl, hb7⟩; have hW7 := hW6.grow hb7)
      | (go_at_call 67; refine (implGraphOk_any a cap g _ hg (ha.grow (gal (gre _) _))).mono ?_; rintro e w1 ⟨rfl, hb1⟩; have hX1 := hX0.grow hb1; obtain ⟨xz, x0, x1, x2, x3, x4⟩ := id hX1; rw [hok'.out]; have hWn := wr_new w1 M hMs)
      | (go_at_call 69; refine (implCanon_any a cap g _ hg (ha.grow (gal (gal (gca (gal (gre _) _) hb1) _) _))).mono ?_; rintro e w3 ⟨na, nc, nl, rfl, hnl, hown, hb3⟩; rw [hcz.out] at hnl ⊢; have hW3 := hWn.grow hb3; simp only [World.size_alloc] at hown)
      | (go_at_call 68; refine (writeGraph_any (w1.heap.size + 1) w1.heap.size [] c na nc (w1.heap.size + 1 + 1) nl _ hW3 hcO hcok hnl (fun w' hK => hown.kept hK (fun b hb hp => by have := (hown.nodes.lt b (by rw [hb]; rfl)).1; omega) (fun x hx b hb hp => by have := ((hown.vals x hx).lt b (by rw [hb]; rfl)).1; omega))).mono ?_; rintro e w4 ⟨hK4, h4⟩; rw [List.nil_append] at h4; obtain ⟨hf4, rfl, hW4⟩ | ⟨hno4, rfl⟩ := h4)
      | (go_at_call 71; refine (implSumOf_any _ (graphB c) 4096 _ (brow_bytes hW5.row) (by have := hW5.le; unfold maxLen; omega) hcb).mono ?_; rintro e w55 ⟨rfl, hb55⟩; have hW55 := hW5.grow hb55)
      | (go_at_call 70; refine (writeWord_any _ _ (graphB c) _ _ hW55 (i64_wrap _)).mono ?_; rintro e w6 ⟨hK6, h6⟩; rw [hsl] at h6; obtain ⟨hf6, rfl, hW6⟩ | ⟨hno6, rfl⟩ := h6)
      | (go_at_call 72; refine (passed_any _ _ 4096 4096 _ _ hW4.cur (by omega) (by decide) hW4.le).mono ?_; rintro e w5 ⟨rfl, hb5⟩; have hW5 := hW4.grow hb5))
    · have hB3 : Below w.heap.size w w3 := gca (gal (gal (gca (gal (gre _) _) hb1) _) _) hb3
      have hB4 := hB3.trans (hK4.below hB3.size (fun k hk hp => by omega))
      have hB6 := (gca (gca hB4 hb5) hb55).trans (hK6.below (gca (gca hB4 hb5) hb55).size (fun k hk hp => by omega))
      have hz : packB g = graphB c ++ lowB 8 (sumN (graphB c)) := by
        rw [← him.out]
        exact if_pos ⟨hok, by rw [him.out, List.length_append]; exact hf6⟩
      refine leaves_cons (f := 65) (args := #[]) (by simp) (by simp [go_sem]) ?_
      refine (packCatch_idle _).mono ?_
      rintro e u' w'' ⟨rfl, rfl, rfl⟩
      refine ⟨_, results_tmp rfl _ _ _, ?_⟩
      exact ⟨some ⟨w1.heap.size, 0, none⟩, 4096, by rw [hz, List.length_append, hlow]; rfl, Or.inr ⟨w1.heap.size, 4096, rfl, by omega, by rw [hz]; exact hW7.row⟩, gca hB6 hb7⟩
    · have hB3 : Below w.heap.size w w3 := gca (gal (gal (gca (gal (gre _) _) hb1) _) _) hb3
      have hB4 := hB3.trans (hK4.below hB3.size (fun k hk hp => by omega))
      have hB6 := (gca (gca hB4 hb5) hb55).trans (hK6.below (gca (gca hB4 hb5) hb55).size (fun k hk hp => by omega))
      have hz : packB g = [] := if_neg (fun h => by have h2 := h.2; rw [him.out, List.length_append] at h2; omega)
      refine leaves_cons (f := 65) (args := #[]) (by simp) (by simp [go_sem]) ?_
      refine (packCatch_panicking [] _).mono ?_
      rintro e u' w'' ⟨rfl, rfl, rfl⟩
      refine ⟨_, results_tmp rfl _ _ _, ?_⟩
      exact ⟨none, 0, by rw [hz]; rfl, Or.inl hz, hB6⟩
    · have hB3 : Below w.heap.size w w3 := gca (gal (gal (gca (gal (gre _) _) hb1) _) _) hb3
      have hB4 := hB3.trans (hK4.below hB3.size (fun k hk hp => by omega))
      have hz : packB g = [] := if_neg (fun h => by have h2 := h.2; rw [him.out, List.length_append] at h2; simp at hno4; omega)
      refine leaves_cons (f := 65) (args := #[]) (by simp) (by simp [go_sem]) ?_
      refine (packCatch_panicking [] _).mono ?_
      rintro e u' w'' ⟨rfl, rfl, rfl⟩
      refine ⟨_, results_tmp rfl _ _ _, ?_⟩
      exact ⟨none, 0, by rw [hz]; rfl, Or.inl hz, hB4⟩

end Go.Proofs.Ytnbikemmnpldcab
