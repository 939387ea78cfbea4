import Derived.WalkLawsBesides
import Derived.Deep.QuietTactic
import Derived.Test.YtmdpmdmilgbfiaaGreatDoorPartH
namespace Go.Proofs.YtmdpmdmilgbfiaaGreatDoor
open Go.RowKit
set_option maxRecDepth 100000
set_option maxHeartbeats 8000000
def headBB (ok : Bool) (gen len sum : Int) : List Nat := if headOkB ok gen len = true then headB gen len sum else []
theorem headBB_len (ok : Bool) (gen len sum : Int) : (headBB ok gen len sum).length ≤ 64 := by
 unfold headBB
 split
 · rw [headB_length]; omega
 · exact Nat.zero_le _
def HPost (ys : List Nat) (w : World) (e : Ending) (w' : World) : Prop := ∃ oa c, e = .returned (.slice oa ys.length c) ∧ MB w' w.heap.size oa ys ∧ Below w.heap.size w w'
theorem zwr_new (w : World) (M : Array Value) (hM : M = madeCells #[Value.int .u8 0] 64) : ZWr ((w.alloc (.cells M 5)).alloc (.cells #[.slice (some ⟨w.heap.size, 0, none⟩) 64 64, .int .i64 0] 90)) (w.heap.size + 1) w.heap.size [] := by
 subst hM
 have h1 := rowIs_made_any w #[Value.int .u8 0] 64 5
 have e : (fun i => (#[Value.int .u8 0])[i % (#[Value.int .u8 0]).size]!) = (fun i : Nat => Value.int .u8 ((([] : List Nat)[i]! : Nat) : Int)) := by
  funext i
  have : i % (#[Value.int .u8 0]).size = 0 := by simp [Nat.mod_one]
  rw [this, getElem!_neg ([] : List Nat) i (by simp)]
  rfl
 rw [e] at h1
 refine ⟨⟨by simp, by simp, by simp, fun o => by simp⟩, by omega, ⟨by simp, ?_⟩⟩
 obtain ⟨c, hc, r⟩ := h1
 exact ⟨c, by rw [Below.heap_alloc _ _ _ (by simp)]; exact hc, r⟩
theorem app_zero (zs : List Nat) (n i : Nat) : (zs ++ List.replicate n 0)[i]! = zs[i]! := by
 by_cases h : i < zs.length
 · rw [getElem!_pos _ i (by simp; omega), getElem!_pos zs i h, List.getElem_append_left h]
 ·
  rw [getElem!_neg zs i h]
  by_cases h2 : i < (zs ++ List.replicate n 0).length
  ·
   rw [getElem!_pos _ i h2, List.getElem_append_right (by omega)]
   simp
  · rw [getElem!_neg _ i h2]
theorem ZRow.full {w : World} {a : Nat} {zs : List Nat} (h : ZRow w a 64 zs) {n : Nat} (hn : zs.length + n = 64) : BRow w a 64 (zs ++ List.replicate n 0) :=
 BRow.of_row h.2 (by simp; omega) (fun i _ => by rw [app_zero])
theorem headN_byte (gen len sum : Int) : ∀ x, x ∈ headN gen len sum → x < 256 := fun x hx => by
 unfold headN at hx
 rcases List.mem_append.1 hx with hx | hx
 ·
  rcases List.mem_append.1 hx with hx | hx
  ·
   rcases List.mem_append.1 hx with hx | hx
   · simp at hx; omega
   · exact lowB_byte _ _ _ hx
  · exact lowB_byte _ _ _ hx
 · exact lowB_byte _ _ _ hx
theorem u64n_wrapH {n : Nat} (h : n < 18446744073709551616) : u64n (wrap64 (n : Int)) = n := by unfold u64n wrap64; omega
theorem bsOf_head : bsOf ⟨#[72, 69, 65, 68]⟩ = [72, 69, 65, 68] := by decide
theorem implHeadBlock_any (ok : Bool) (gen len sum : Int) (w : World) :
  Calls Tryz.prog 51 #[headV ok gen len sum] w (HPost (headBB ok gen len sum) w) := by
 by_cases hk : headOkB ok gen len = true
 ·
  have hz : Hid (headBB ok gen len sum = headB gen len sum) := if_pos hk
  obtain ⟨rfl, g1, g2, g3, g4⟩ : ok = true ∧ ¬ gen < 1 ∧ ¬ (1000000000000 < gen) ∧ ¬ len < 1 ∧ ¬ (4096 < len) := by
   unfold headOkB at hk
   simp at hk
   exact ⟨hk.1.1.1.1, by omega, by omega, by omega, by omega⟩
  have hH0 := HBox.new w true gen len sum 65
  have hA := gal (gre w) (.cells #[.bool true, .int .i64 gen, .int .i64 len, .int .i64 sum] 65)
  obtain ⟨i0, hi, hz0, hz1, hz2⟩ := info_parts info_u8
  obtain ⟨M, hM⟩ := hid_ex (madeCells #[Value.int .u8 0] 64)
  have hmk : ∀ u : World, (Instr.makeSlice 22 (.int .i64 64) (.int .i64 64)).run Tryz.prog u = .ok (.slice (some ⟨u.heap.size, 0, none⟩) 64 64) (u.alloc (.cells M 5)) := fun u => by
   have h := run_make (P := Tryz.prog) u 22 5 i0 _ Tryz.underlying22 hi hz0 .i64 .i64 64 64 (by omega) (Int.le_refl _) (by rw [hz2]; omega) (by omega)
   rw [hM.out]
   simpa [hz1, Value.cells] using h
  have hgw : wrap64 gen = gen := by unfold wrap64; omega
  have hlw : wrap64 len = len := by unfold wrap64; omega
  have hlow : ∀ n, (lowB 8 n).length = 8 := lowB_length 8
  go_enter Tryz.func51, Tryz.ntmps51
  have hW0 := zwr_new (w.alloc (.cells #[.bool true, .int .i64 gen, .int .i64 len, .int .i64 sum] 65)) M hM.out
  have hH1 := (hH0.kept (Kept.of_below (gal (gal (gre _) (.cells M 5)) (.cells #[.slice (some ⟨(w.alloc (.cells #[.bool true, .int .i64 gen, .int .i64 len, .int .i64 sum] 65)).heap.size, 0, none⟩) 64 64, .int .i64 0] 90)) (fun _ => False)) (fun e => e))
  have hA3 := gal (gal hA (.cells M 5)) (.cells #[.slice (some ⟨(w.alloc (.cells #[.bool true, .int .i64 gen, .int .i64 len, .int .i64 sum] 65)).heap.size, 0, none⟩) 64 64, .int .i64 0] 90)
  simp only [World.size_alloc] at hW0 hH1 hA3
  go_upto_region 99 with (first
   | (go_at_call 81; refine (zWriteText _ _ _ _ hW0 (by decide) (by decide)).mono ?_; rintro e w1 ⟨rfl, hW1, hK1⟩; rw [bsOf_head] at hW1; have hH2 := hH1.kept hK1 (by omega); obtain ⟨_, _, b1, b2, b3⟩ := id hH2)
   | (go_at_call 45; refine (zWriteWord _ _ z5 _ _ hW6 (by have := hl4.out; omega)).mono ?_; rintro e w7 ⟨rfl, hW7, hK7⟩; have c7 := hW7.cur.c0)
   | (go_at_call 46; refine (implSumOf_any _ z5 64 _ (brow_bytes hW5.row.brow) (by have := hl4.out; unfold maxLen; omega) hb5).mono ?_; rintro e w6 ⟨rfl, hb6'⟩; have hW6 := hW5.grow hb6')
   | (go_at_call 47; refine (passed_any _ _ 64 64 z5.length _ hW4.cur (by omega) (by decide) (by have := hl4.out; omega)).mono ?_; rintro e w5 ⟨rfl, hb5'⟩; have hW5 := hW4.grow hb5')
   | (go_at_call 45; refine (zWriteWord _ _ z3 sum _ hW3 (by have := hl3.out; omega)).mono ?_; rintro e w4 ⟨rfl, hW4, hK4⟩; obtain ⟨z5, hz5⟩ := hid_ex (z3 ++ lowB 8 (u64n sum)); rw [← hz5.out] at hW4; have hl4 : Hid (z5.length = 28) := (by show _ = _; rw [hz5.out, List.length_append, hl3.out, hlow]); have hzn : Hid (z5 = headN gen len sum) := (by show _ = _; rw [hz5.out, hz3.out, hz2.out]; rfl); have hb5 : ∀ x, x ∈ z5 → x < 256 := (by rw [hzn.out]; exact headN_byte gen len sum))
   | (go_at_call 45; refine (zWriteWord _ _ z2 len _ hW2 (by have := hl2.out; omega)).mono ?_; rintro e w3 ⟨rfl, hW3, hK3⟩; obtain ⟨z3, hz3⟩ := hid_ex (z2 ++ lowB 8 (u64n len)); rw [← hz3.out] at hW3; have hl3 : Hid (z3.length = 20) := (by show _ = _; rw [hz3.out, List.length_append, hl2.out, hlow]); have hH4 := hH3.kept hK3 (by omega); obtain ⟨_, _, e1, e2, e3⟩ := id hH4)
   | (go_at_call 45; refine (zWriteWord _ _ _ gen _ hW1 (by simp)).mono ?_; rintro e w2 ⟨rfl, hW2, hK2⟩; obtain ⟨z2, hz2⟩ := hid_ex ([72, 69, 65, 68] ++ lowB 8 (u64n gen)); rw [← hz2.out] at hW2; have hl2 : Hid (z2.length = 12) := (by show _ = _; rw [hz2.out, List.length_append, hlow]; rfl); have hH3 := hH2.kept hK2 (by omega); obtain ⟨_, _, d1, d2, d3⟩ := id hH3))
  go_ret
  have hB1 := hA3.trans (hK1.below (B := w.heap.size) hA3.size (fun k hk e => by omega))
  have hB2 := hB1.trans (hK2.below (B := w.heap.size) hB1.size (fun k hk e => by omega))
  have hB3 := hB2.trans (hK3.below (B := w.heap.size) hB2.size (fun k hk e => by omega))
  have hB4 := hB3.trans (hK4.below (B := w.heap.size) hB3.size (fun k hk e => by omega))
  have hB6 := gca (gca hB4 hb5') hb6'
  have hB7 := hB6.trans (hK7.below (B := w.heap.size) hB6.size (fun k hk e => by omega))
  refine ⟨some ⟨w.heap.size + 1, 0, none⟩, 64, by rw [hz.out, headB_length]; rfl, Or.inr ⟨w.heap.size + 1, 64, rfl, by omega, ?_⟩, hB7⟩
  have hr := hW7.row.full (n := 28) (by rw [List.length_append, hlow, hl4.out])
  rw [u64n_wrapH (sumN_lt z5), hzn.out] at hr
  rw [hz.out]
  exact hr
 ·
  have hz : headBB ok gen len sum = [] := if_neg hk
  rw [hz]
  have hA := gal (gre w) (.cells #[.bool ok, .int .i64 gen, .int .i64 len, .int .i64 sum] 65)
  have hc : ok = false ∨ (ok = true ∧ gen < 1) ∨ (ok = true ∧ ¬ gen < 1 ∧ 1000000000000 < gen) ∨ (ok = true ∧ ¬ gen < 1 ∧ ¬ (1000000000000 < gen) ∧ len < 1) ∨ (ok = true ∧ ¬ gen < 1 ∧ ¬ (1000000000000 < gen) ∧ ¬ len < 1 ∧ 4096 < len) := by
   unfold headOkB at hk
   cases ok
   · exact Or.inl rfl
   ·
    simp at hk
    by_cases h1 : gen < 1
    · exact Or.inr (Or.inl ⟨rfl, h1⟩)
    ·
     by_cases h2 : 1000000000000 < gen
     · exact Or.inr (Or.inr (Or.inl ⟨rfl, h1, h2⟩))
     ·
      by_cases h3 : len < 1
      · exact Or.inr (Or.inr (Or.inr (Or.inl ⟨rfl, h1, h2, h3⟩)))
      · exact Or.inr (Or.inr (Or.inr (Or.inr ⟨rfl, h1, h2, h3, by have := hk (by omega) (by omega) (by omega); omega⟩)))
  clear hk hz
  rcases hc with rfl | ⟨rfl, g1⟩ | ⟨rfl, g1, g2⟩ | ⟨rfl, g1, g2, g3⟩ | ⟨rfl, g1, g2, g3, g4⟩
  all_goals
   go_enter Tryz.func51, Tryz.ntmps51
   go_wp2
   go_ret
   exact ⟨none, 0, rfl, Or.inl rfl, hA⟩
theorem MB.atH {w : World} {lo : Nat} {oa : Option Addr} {ys : List Nat} (h : MB w lo oa ys) : BytesAt w oa ys := by
 rcases h with rfl | ⟨G, n, rfl, _, hB⟩
 · exact fun i hi => absurd hi (Nat.not_lt_zero _)
 · exact brow_bytes hB
theorem canonN_all {nodes : List GN} {ord0 : List Nat} {p : GN → Prop} (h0 : InvO nodes.length ord0) (hn : ∀ n, n ∈ nodes → okN nodes.length n = true) (hp : ∀ (ord : List Nat) (n : GN), InvO nodes.length ord → n ∈ nodes → p ⟨n.tag, renVals ord n.vals⟩) : ∀ (k : Nat) (n : GN), n ∈ canonN nodes ord0 k → p n
 | 0, n, hx => by unfold canonN at hx; cases hx
 | k + 1, n, hx => by
  rw [canonN_succ] at hx
  have hi := canonO_inv h0 hn k
  split at hx
  ·
   rename_i hlt
   rcases List.mem_append.1 hx with h | h
   · exact canonN_all h0 hn hp k n h
   ·
    rw [List.mem_singleton] at h
    rw [h]
    exact hp _ _ hi (mem_at (hi.2 _ (mem_at hlt)))
  · exact canonN_all h0 hn hp k n hx
theorem canonN_length (nodes : List GN) (ord0 : List Nat) : ∀ k, (canonN nodes ord0 k).length ≤ k
 | 0 => by unfold canonN; simp
 | k + 1 => by
  have := canonN_length nodes ord0 k
  rw [canonN_succ]
  split
  · simp; omega
  · omega
theorem canon_all {g : GG} {p : GN → Prop} (hok : okG g = true) (hp : ∀ (ord : List Nat) (n : GN), InvO g.nodes.length ord → n ∈ g.nodes → p ⟨n.tag, renVals ord n.vals⟩) : ∀ n, n ∈ (canon g).nodes → p n := fun n hn => by
 obtain ⟨_, h2, h3⟩ := okG_parts hok
 exact canonN_all ((InvO.nil _).ren h2) h3 hp g.nodes.length n hn
theorem canon_small {g : GG} (hok : okG g = true) : (canon g).nodes.length ≤ 300 ∧ ∀ n, n ∈ (canon g).nodes → n.vals.length ≤ 100 := by
 obtain ⟨h1, _, h3⟩ := okG_parts hok
 refine ⟨?_, canon_all hok (fun ord n _ hn => ?_)⟩
 ·
  have := canonN_length g.nodes (renOrd [] g.root) g.nodes.length
  unfold canon
  simp only
  omega
 ·
  simp only [renVals_length]
  exact (okN_parts (h3 n hn)).1
theorem renVal_ok {n : Nat} {ord : List Nat} {v : GV} (hv : v.Ok) (hk : okV n v = true) (hinv : InvO n ord) (hn : n ≤ 300) : (renVal ord v).Ok := by
 unfold renVal
 split
 ·
  have h1 := (hinv.ren hk).le
  have h2 := List.idxOf_le_length (a := v.node.toNat) (l := renOrd ord v)
  exact ⟨hv.1, hv.2, hv.3, by unfold I64; simp only; omega⟩
 · exact hv
theorem renVals_ok {n : Nat} {ord : List Nat} {l : List GV} (hv : ∀ v, v ∈ l → v.Ok) (hk : ∀ v, v ∈ l → okV n v = true) (hinv : InvO n ord) (hn : n ≤ 300) : ∀ v, v ∈ renVals ord l → v.Ok := by
 induction l generalizing ord with
 | nil => intro v hx; unfold renVals at hx; cases hx
 | cons y r ih =>
  intro v hx
  unfold renVals at hx
  rcases List.mem_cons.1 hx with h | h
  · rw [h]; exact renVal_ok (hv y (List.mem_cons_self ..)) (hk y (List.mem_cons_self ..)) hinv hn
  · exact ih (fun z hz => hv z (List.mem_cons_of_mem _ hz)) (fun z hz => hk z (List.mem_cons_of_mem _ hz)) (hinv.ren (hk y (List.mem_cons_self ..))) v h
theorem canon_ok {g : GG} (hg : g.Ok) (hok : okG g = true) : (canon g).Ok := by
 obtain ⟨h1, h2, h3⟩ := okG_parts hok
 have hs := canon_small hok
 refine ⟨renVal_ok hg.root h2 (InvO.nil _) h1, by unfold maxLen; omega, canon_all hok (fun ord n hi hn => ?_)⟩
 have h4 := okN_parts (h3 n hn)
 exact ⟨(hg.nodes n hn).tag, by simp only [renVals_length]; exact (hg.nodes n hn).len, renVals_ok (hg.nodes n hn).vals h4.2 hi h1⟩
theorem okV_mono {n m : Nat} {v : GV} (h : okV n v = true) (hm : n ≤ m) : okV m v = true := by
 rcases okV_cases h with rfl | ⟨k, rfl⟩ | ⟨k, rfl⟩ | ⟨t, ht, rfl⟩ | ⟨k, hk, rfl⟩
 · exact h
 · exact h
 · exact h
 · exact h
 ·
  unfold okV at h ⊢
  simp only at h ⊢
  have h1 := of_decide_eq_true h
  exact decide_eq_true ⟨h1.1, h1.2.1, h1.2.2.1, by omega⟩
theorem mem_renOrd {ord : List Nat} {v : GV} (hk : v.kind = 4) : v.node.toNat ∈ renOrd ord v := by
 unfold renOrd
 split
 · simp
 ·
  rename_i h
  by_cases hm : v.node.toNat ∈ ord
  · exact hm
  · exact absurd ⟨hk, hm⟩ h
theorem okV_ren {n m : Nat} {ord : List Nat} {v : GV} (h : okV n v = true) (hm : (renOrd ord v).length ≤ m) : okV m (renVal ord v) = true := by
 rcases okV_cases h with rfl | ⟨k, rfl⟩ | ⟨k, rfl⟩ | ⟨t, ht, rfl⟩ | ⟨k, hk, rfl⟩
 · exact h
 · exact h
 · exact h
 · exact h
 ·
  have h1 : (renOrd ord ⟨4, 0, ⟨#[]⟩, (k : Int)⟩).idxOf k < (renOrd ord ⟨4, 0, ⟨#[]⟩, (k : Int)⟩).length := List.idxOf_lt_length_of_mem (mem_renOrd (v := ⟨4, 0, ⟨#[]⟩, (k : Int)⟩) rfl)
  unfold renVal
  rw [if_pos rfl]
  have h2 : okV n ⟨4, 0, ⟨#[]⟩, (k : Int)⟩ = true := h
  unfold okV at h2 ⊢
  simp only at h2 ⊢
  have h3 := of_decide_eq_true h2
  refine decide_eq_true ⟨h3.1, h3.2.1, by omega, ?_⟩
  simp only [Int.toNat_natCast]
  omega
theorem okVs_ren {n m : Nat} {ord : List Nat} {l : List GV} (h : ∀ v, v ∈ l → okV n v = true) (hm : (renOrds ord l).length ≤ m) : ∀ v, v ∈ renVals ord l → okV m v = true := by
 induction l generalizing ord with
 | nil => intro v hv; cases hv
 | cons x r ih =>
  intro v hv
  have h1 : (renOrd ord x).length ≤ (renOrds (renOrd ord x) r).length := renOrds_le _ _
  have h2 : (renOrds (renOrd ord x) r).length ≤ m := hm
  rcases List.mem_cons.1 hv with rfl | hv
  · exact okV_ren (h x (List.mem_cons_self ..)) (by omega)
  · exact ih (fun y hy => h y (List.mem_cons_of_mem _ hy)) h2 v hv
theorem okN_mk {m : Nat} {x : GN} (h1 : 0 ≤ x.tag ∧ x.tag ≤ 1000) (h2 : x.vals.length ≤ 100) (h3 : ∀ v, v ∈ x.vals → okV m v = true) : okN m x = true := by
 unfold okN
 simp only [Bool.and_eq_true, decide_eq_true_eq, List.all_eq_true]
 exact ⟨⟨h1.1, h1.2, h2⟩, h3⟩
theorem okN_tag' {n : Nat} {x : GN} (h : okN n x = true) : 0 ≤ x.tag ∧ x.tag ≤ 1000 := by
 unfold okN at h
 simp only [Bool.and_eq_true, decide_eq_true_eq, List.all_eq_true] at h
 exact ⟨h.1.1, h.1.2.1⟩
theorem okN_mono {n m : Nat} {x : GN} (h : okN n x = true) (hm : n ≤ m) : okN m x = true :=
 okN_mk (okN_tag' h) (okN_parts h).1 (fun v hv => okV_mono ((okN_parts h).2 v hv) hm)
theorem canonO_le (nodes : List GN) (ord0 : List Nat) (k : Nat) : (canonO nodes ord0 k).length ≤ (canonO nodes ord0 (k + 1)).length := by
 rw [canonO_succ]
 split
 · exact renOrds_le _ _
 · exact Nat.le_refl _
theorem canonO_mono (nodes : List GN) (ord0 : List Nat) {k m : Nat} (h : k ≤ m) : (canonO nodes ord0 k).length ≤ (canonO nodes ord0 m).length := by
 induction h with
 | refl => exact Nat.le_refl _
 | step _ ih => exact Nat.le_trans ih (canonO_le _ _ _)
theorem canonN_len (nodes : List GN) (ord0 : List Nat) : ∀ k, (canonN nodes ord0 k).length = min k (canonO nodes ord0 k).length
 | 0 => by unfold canonN; simp
 | k + 1 => by
  have ih := canonN_len nodes ord0 k
  have hle := canonO_le nodes ord0 k
  rw [canonN_succ]
  by_cases h : k < (canonO nodes ord0 k).length
  ·
   rw [if_pos h, List.length_append, ih, List.length_singleton]
   omega
  ·
   have e : canonO nodes ord0 (k + 1) = canonO nodes ord0 k := by rw [canonO_succ, if_neg h]
   rw [if_neg h, ih, e]
   omega
theorem canonN_ok {nodes : List GN} {ord0 : List Nat} (h0 : InvO nodes.length ord0) (hn : ∀ n, n ∈ nodes → okN nodes.length n = true) : ∀ k x, x ∈ canonN nodes ord0 k → okN (canonO nodes ord0 k).length x = true
 | 0, x, hx => by unfold canonN at hx; cases hx
 | k + 1, x, hx => by
  have hle := canonO_le nodes ord0 k
  have hinv := canonO_inv h0 hn k
  rw [canonN_succ] at hx
  by_cases h : k < (canonO nodes ord0 k).length
  ·
   rw [if_pos h] at hx
   rcases List.mem_append.1 hx with hx | hx
   · exact okN_mono (canonN_ok h0 hn k x hx) hle
   ·
    have e : canonO nodes ord0 (k + 1) = renOrds (canonO nodes ord0 k) (nodes[(canonO nodes ord0 k)[k]!]!).vals := by rw [canonO_succ, if_pos h]
    have hm := hn _ (mem_at (hinv.2 _ (mem_at h)))
    have ht := okN_tag' hm
    rw [List.mem_singleton.1 hx, e]
    exact okN_mk ht (by rw [renVals_length]; exact (okN_parts hm).1) (okVs_ren (okN_parts hm).2 (Nat.le_refl _))
  ·
   rw [if_neg h] at hx
   exact okN_mono (canonN_ok h0 hn k x hx) hle
theorem canon_okG {g : GG} (hok : okG g = true) : okG (canon g) = true := by
 obtain ⟨hn, hroot, hnodes⟩ := okG_parts hok
 have h0 : InvO g.nodes.length (renOrd [] g.root) := (InvO.nil _).ren hroot
 have hlen : (canon g).nodes.length = (canonO g.nodes (renOrd [] g.root) g.nodes.length).length := by
  have h1 := canonN_len g.nodes (renOrd [] g.root) g.nodes.length
  have h2 := (canonO_inv h0 hnodes g.nodes.length).le
  show (canonN g.nodes (renOrd [] g.root) g.nodes.length).length = _
  omega
 have hr : okV (canon g).nodes.length (canon g).root = true := by
  rw [hlen]
  refine okV_ren hroot ?_
  have h1 := canonO_mono g.nodes (renOrd [] g.root) (Nat.zero_le g.nodes.length)
  rw [show canonO g.nodes (renOrd [] g.root) 0 = renOrd [] g.root by unfold canonO; rfl] at h1
  exact h1
 have ha : ∀ x, x ∈ (canon g).nodes → okN (canon g).nodes.length x = true := by
  rw [hlen]
  exact canonN_ok h0 hnodes _
 unfold okG
 simp only [Bool.and_eq_true, decide_eq_true_eq, List.all_eq_true]
 exact ⟨⟨(canon_small hok).1, hr⟩, ha⟩
theorem valB_len {n : Nat} {v : GV} (hn : n ≤ 300) (ho : v.Ok) (h : okV n v = true) : (valB v).length ≤ 1011 := by
 rcases okV_cases h with rfl | ⟨k, rfl⟩ | ⟨k, rfl⟩ | ⟨t, ht, rfl⟩ | ⟨k, hk, rfl⟩
 · show 1 ≤ 1011; omega
 ·
  show (numB (zig k)).length + 1 ≤ 1011
  have := numB_len 10 (zig k) (Nat.lt_of_lt_of_le (zig_lt ho.num) (by decide)) (by omega)
  omega
 ·
  show (lowB 8 (u64n k)).length + 1 ≤ 1011
  rw [lowB_length]; omega
 ·
  show (numB t.size ++ bsOf t).length + 1 ≤ 1011
  have := numB_len 10 t.size (Nat.lt_of_le_of_lt ht (by decide)) (by omega)
  rw [List.length_append, bsOf_length]
  omega
 ·
  show (numB k).length + 1 ≤ 1011
  have := numB_len 10 k (Nat.lt_of_lt_of_le (show k < 300 by omega) (by decide)) (by omega)
  omega
theorem valsB_len {n : Nat} {l : List GV} (hn : n ≤ 300) (ho : ∀ v, v ∈ l → v.Ok) (h : ∀ v, v ∈ l → okV n v = true) : (valsB l).length ≤ 1011 * l.length := by
 induction l with
 | nil => simp [valsB]
 | cons x r ih =>
  have h1 := valB_len hn (ho x (List.mem_cons_self ..)) (h x (List.mem_cons_self ..))
  have h2 := ih (fun v hv => ho v (List.mem_cons_of_mem _ hv)) (fun v hv => h v (List.mem_cons_of_mem _ hv))
  simp only [valsB, List.length_append, List.length_cons]
  omega
theorem nodeB_len {n : Nat} {x : GN} (hn : n ≤ 300) (ho : x.Ok) (h : okN n x = true) : (nodeB x).length ≤ 102000 := by
 have h1 := valsB_len hn ho.vals (okN_parts h).2
 have h2 := (okN_parts h).1
 have h3 := okN_tag' h
 have h4 := numB_len 10 x.tag.toNat (Nat.lt_of_le_of_lt (show x.tag.toNat ≤ 1000 by omega) (by decide)) (by omega)
 have h5 := numB_len 10 x.vals.length (Nat.lt_of_le_of_lt h2 (by decide)) (by omega)
 simp only [nodeB, List.length_append]
 omega
theorem nodesB_len {n : Nat} {l : List GN} (hn : n ≤ 300) (ho : ∀ v, v ∈ l → v.Ok) (h : ∀ v, v ∈ l → okN n v = true) : (nodesB l).length ≤ 102000 * l.length := by
 induction l with
 | nil => simp [nodesB]
 | cons x r ih =>
  have h1 := nodeB_len hn (ho x (List.mem_cons_self ..)) (h x (List.mem_cons_self ..))
  have h2 := ih (fun v hv => ho v (List.mem_cons_of_mem _ hv)) (fun v hv => h v (List.mem_cons_of_mem _ hv))
  simp only [nodesB, List.length_append, List.length_cons]
  omega
theorem graphB_len {g : GG} (ho : g.Ok) (hok : okG g = true) : (graphB g).length ≤ 40000000 := by
 obtain ⟨hn, hroot, hnodes⟩ := okG_parts hok
 have h1 := nodesB_len hn ho.nodes hnodes
 have h2 := valB_len hn ho.root hroot
 have h3 := numB_len 10 g.nodes.length (Nat.lt_of_le_of_lt hn (by decide)) (by omega)
 simp only [graphB, List.length_append, List.length_cons, List.length_nil]
 omega
theorem zag_i64 {n : Nat} (h : n < 18446744073709551616) : I64 (zag n) := by unfold I64 zag; split <;> omega
theorem wrap_i64_ok (n : Int) : I64 (IntKind.i64.wrap n) := by rw [IntKind.wrap_i64]; unfold I64; omega
theorem orI_i64 (n : Int) (b i : Nat) : I64 (orI n b i) := wrap_i64_ok _
theorem rdLow_i64 : ∀ (k i : Nat) (n : Int) (r : List Nat) (x : Int) (q : List Nat), I64 n → rdLow k i n r = some (x, q) → I64 x
 | 0, _, n, r, x, q, hn, h => by
  have e : n = x ∧ r = q := by simpa [rdLow] using h
  rw [← e.1]; exact hn
 | k + 1, _, _, [], _, _, _, h => by cases h
 | k + 1, i, n, b :: r, x, q, _, h => rdLow_i64 k (i + 1) (orI n b i) r x q (orI_i64 n b i) h
theorem strB_sizeR (xs : List Nat) : (strB xs).size = xs.length := by unfold strB; rw [Go.strOfNums_size, List.length_map]
theorem small_i64 {n : Int} (h : 0 ≤ n ∧ n ≤ 1000000) : I64 n := by unfold I64; omega
theorem zero_ok {n : Nat} (h : n ≤ 4) (m : Int) (hm : I64 m) (t : ByteArray) (ht : t.size ≤ 1000) (d : Int) (hd : I64 d) : (GV.mk (n : Int) m t d).Ok := ⟨small_i64 (by show 0 ≤ (n : Int) ∧ (n : Int) ≤ 1000000; omega), hm, by show t.size ≤ maxLen; unfold maxLen; omega, hd⟩
theorem rdVal_ok {r q : List Nat} {v : GV} (h : rdVal r = some (v, q)) : v.Ok := by
 have h0 : I64 0 := small_i64 (by omega)
 have hz : (⟨#[]⟩ : ByteArray).size ≤ 1000 := Nat.zero_le _
 cases r with
 | nil => cases h
 | cons k t =>
  unfold rdVal at h
  dsimp only at h
  split at h
  ·
   simp only [Option.some.injEq, Prod.mk.injEq] at h
   rw [← h.1]; exact zero_ok (n := 0) (by omega) 0 h0 _ hz 0 h0
  ·
   split at h
   ·
    cases hq : rdNum 0 0 t with
    | none => rw [hq] at h; cases h
    | some y =>
     rw [hq] at h
     simp only [Option.map_some, Option.some.injEq, Prod.mk.injEq] at h
     rw [← h.1]; exact zero_ok (n := 1) (by omega) _ (zag_i64 (rdNum_lt 0 0 t y.1 y.2 (by omega) hq)) _ hz 0 h0
   ·
    split at h
    ·
     cases hq : rdLow 8 0 0 t with
     | none => rw [hq] at h; cases h
     | some y =>
      rw [hq] at h
      simp only [Option.map_some, Option.some.injEq, Prod.mk.injEq] at h
      rw [← h.1]; exact zero_ok (n := 2) (by omega) _ (rdLow_i64 8 0 0 t y.1 y.2 h0 hq) _ hz 0 h0
    ·
     split at h
     ·
      cases hq : rdCount 1000 t with
      | none => rw [hq] at h; cases h
      | some y =>
       rw [hq, Option.bind_some] at h
       cases hq2 : rdText y.1 y.2 with
       | none => rw [hq2] at h; cases h
       | some z =>
        rw [hq2] at h
        simp only [Option.map_some, Option.some.injEq, Prod.mk.injEq] at h
        have hz1 : z.1.size ≤ 1000 := by
         have h1 := rdCount_le (n := y.1) (q := y.2) hq
         unfold rdText at hq2
         split at hq2
         ·
          have e2 : strB (y.2.take y.1) = z.1 := by simpa using congrArg (fun o => o.map Prod.fst) hq2
          rw [← e2, strB_sizeR, List.length_take]; omega
         · cases hq2
        rw [← h.1]; exact zero_ok (n := 3) (by omega) 0 h0 _ hz1 0 h0
     ·
      split at h
      ·
       cases hq : rdCount 300 t with
       | none => rw [hq] at h; cases h
       | some y =>
        rw [hq] at h
        simp only [Option.map_some, Option.some.injEq, Prod.mk.injEq] at h
        have h1 := rdCount_le (n := y.1) (q := y.2) hq
        rw [← h.1]; exact zero_ok (n := 4) (by omega) 0 h0 _ hz _ (small_i64 (by omega))
      · cases h
theorem rdVals_ok : ∀ (m : Nat) (r q : List Nat) (vs : List GV), rdVals m r = some (vs, q) → vs.length = m ∧ ∀ v, v ∈ vs → v.Ok
 | 0, r, q, vs, h => by
  have e : [] = vs := by simpa [rdVals] using congrArg (fun o => o.map Prod.fst) h
  rw [← e]; exact ⟨rfl, fun v hv => by cases hv⟩
 | m + 1, r, q, vs, h => by
  rw [rdVals] at h
  cases hv : rdVal r with
  | none => rw [hv] at h; cases h
  | some x =>
   rw [hv, Option.bind_some] at h
   cases hw : rdVals m x.2 with
   | none => rw [hw] at h; cases h
   | some y =>
    rw [hw] at h
    have e : x.1 :: y.1 = vs := by simpa using congrArg (fun o => o.map Prod.fst) h
    obtain ⟨h1, h2⟩ := rdVals_ok m x.2 y.2 y.1 hw
    rw [← e]
    refine ⟨by rw [List.length_cons, h1], fun v hm => ?_⟩
    rcases List.mem_cons.1 hm with rfl | hm
    · exact rdVal_ok (q := x.2) hv
    · exact h2 v hm
theorem rdNode_ok {r q : List Nat} {n : GN} (h : rdNode r = some (n, q)) : n.Ok := by
 unfold rdNode at h
 cases ht : rdCount 1000 r with
 | none => rw [ht] at h; cases h
 | some t =>
  rw [ht, Option.bind_some] at h
  cases hm : rdCount 100 t.2 with
  | none => rw [hm] at h; cases h
  | some m =>
   rw [hm, Option.bind_some] at h
   cases hv : rdVals m.1 m.2 with
   | none => rw [hv] at h; cases h
   | some y =>
    rw [hv] at h
    have e : (⟨(t.1 : Int), y.1⟩ : GN) = n := by simpa using congrArg (fun o => o.map Prod.fst) h
    obtain ⟨h1, h2⟩ := rdVals_ok m.1 m.2 y.2 y.1 hv
    have h3 := rdCount_le (n := t.1) (q := t.2) ht
    have h4 := rdCount_le (n := m.1) (q := m.2) hm
    rw [← e]
    exact ⟨small_i64 (by show 0 ≤ (t.1 : Int) ∧ (t.1 : Int) ≤ 1000000; omega), by show y.1.length ≤ maxLen; unfold maxLen; omega, h2⟩
theorem rdNodes_ok : ∀ (m : Nat) (r q : List Nat) (ns : List GN), rdNodes m r = some (ns, q) → ns.length = m ∧ ∀ n, n ∈ ns → n.Ok
 | 0, r, q, vs, h => by
  have e : [] = vs := by simpa [rdNodes] using congrArg (fun o => o.map Prod.fst) h
  rw [← e]; exact ⟨rfl, fun v hv => by cases hv⟩
 | m + 1, r, q, vs, h => by
  rw [rdNodes] at h
  cases hv : rdNode r with
  | none => rw [hv] at h; cases h
  | some x =>
   rw [hv, Option.bind_some] at h
   cases hw : rdNodes m x.2 with
   | none => rw [hw] at h; cases h
   | some y =>
    rw [hw] at h
    have e : x.1 :: y.1 = vs := by simpa using congrArg (fun o => o.map Prod.fst) h
    obtain ⟨h1, h2⟩ := rdNodes_ok m x.2 y.2 y.1 hw
    rw [← e]
    refine ⟨by rw [List.length_cons, h1], fun v hm => ?_⟩
    rcases List.mem_cons.1 hm with rfl | hm
    · exact rdNode_ok (q := x.2) hv
    · exact h2 v hm
theorem rdGraph_ok {r q : List Nat} {g : GG} (h : rdGraph r = some (g, q)) : g.Ok := by
 unfold rdGraph at h
 cases ht : rdText 2 r with
 | none => rw [ht] at h; cases h
 | some t =>
  rw [ht, Option.bind_some] at h
  split at h
  ·
   cases hm : rdCount 300 t.2 with
   | none => rw [hm] at h; cases h
   | some m =>
    rw [hm, Option.bind_some] at h
    cases hv : rdVal m.2 with
    | none => rw [hv] at h; cases h
    | some x =>
     rw [hv, Option.bind_some] at h
     cases hn : rdNodes m.1 x.2 with
     | none => rw [hn] at h; cases h
     | some y =>
      rw [hn] at h
      have e : (⟨x.1, y.1⟩ : GG) = g := by simpa using congrArg (fun o => o.map Prod.fst) h
      obtain ⟨h1, h2⟩ := rdNodes_ok m.1 x.2 y.2 y.1 hn
      have h4 := rdCount_le (n := m.1) (q := m.2) hm
      rw [← e]
      exact ⟨rdVal_ok (q := x.2) hv, by show y.1.length ≤ maxLen; unfold maxLen; omega, h2⟩
  · cases h
theorem rdVal_back {n : Nat} {v : GV} (hn : n ≤ 300) (ho : v.Ok) (h : okV n v = true) (r : List Nat) : rdVal (valB v ++ r) = some (v, r) := by
 rcases okV_cases h with rfl | ⟨m, rfl⟩ | ⟨m, rfl⟩ | ⟨t, ht, rfl⟩ | ⟨k, hk, rfl⟩
 · rfl
 ·
  show rdVal (1 :: (numB (zig m) ++ r)) = _
  simp [rdVal, rdNum_num (zig_lt ho.num), zag_zig]
 ·
  show rdVal (2 :: (lowB 8 (u64n m) ++ r)) = _
  simp [rdVal, rdLow_word ho.num]
 ·
  show rdVal (3 :: (numB t.size ++ bsOf t ++ r)) = _
  rw [List.append_assoc]
  simp [rdVal, rdCount_num (most := 1000) ht (by omega), rdText_bs]
 ·
  show rdVal (4 :: (numB k ++ r)) = _
  simp [rdVal, rdCount_num (m := k) (most := 300) (by omega) (by omega)]
theorem rdVals_back {n : Nat} (hn : n ≤ 300) : ∀ (l : List GV) (r : List Nat), (∀ v, v ∈ l → v.Ok) → (∀ v, v ∈ l → okV n v = true) → rdVals l.length (valsB l ++ r) = some (l, r)
 | [], r, _, _ => rfl
 | v :: l, r, ho, h => by
  show rdVals (l.length + 1) (valB v ++ valsB l ++ r) = _
  rw [rdVals, List.append_assoc, rdVal_back hn (ho v (List.mem_cons_self ..)) (h v (List.mem_cons_self ..)), Option.bind_some, rdVals_back hn l r (fun x hx => ho x (List.mem_cons_of_mem _ hx)) (fun x hx => h x (List.mem_cons_of_mem _ hx))]
  rfl
theorem rdNode_back {n : Nat} (hn : n ≤ 300) {x : GN} (ho : x.Ok) (h : okN n x = true) (r : List Nat) : rdNode (nodeB x ++ r) = some (x, r) := by
 obtain ⟨h1, h2⟩ := okN_parts h
 have h3 := okN_tag' h
 unfold rdNode nodeB
 rw [List.append_assoc, List.append_assoc, rdCount_num (m := x.tag.toNat) (most := 1000) (by omega) (by omega), Option.bind_some]
 dsimp only
 rw [rdCount_num (m := x.vals.length) (most := 100) h1 (by omega), Option.bind_some]
 dsimp only
 rw [rdVals_back hn x.vals r ho.vals h2]
 show some ((⟨((x.tag.toNat : Nat) : Int), x.vals⟩ : GN), r) = _
 rw [show ((x.tag.toNat : Nat) : Int) = x.tag by omega]
theorem rdNodes_back {n : Nat} (hn : n ≤ 300) : ∀ (l : List GN) (r : List Nat), (∀ v, v ∈ l → v.Ok) → (∀ v, v ∈ l → okN n v = true) → rdNodes l.length (nodesB l ++ r) = some (l, r)
 | [], r, _, _ => rfl
 | v :: l, r, ho, h => by
  show rdNodes (l.length + 1) (nodeB v ++ nodesB l ++ r) = _
  rw [rdNodes, List.append_assoc, rdNode_back hn (ho v (List.mem_cons_self ..)) (h v (List.mem_cons_self ..)), Option.bind_some, rdNodes_back hn l r (fun x hx => ho x (List.mem_cons_of_mem _ hx)) (fun x hx => h x (List.mem_cons_of_mem _ hx))]
  rfl
theorem rdGraph_back {g : GG} (ho : g.Ok) (hok : okG g = true) (r : List Nat) : rdGraph (graphB g ++ r) = some (g, r) := by
 obtain ⟨hn, hroot, hnodes⟩ := okG_parts hok
 have e0 : rdText 2 (graphB g ++ r) = some (⟨#[72, 49]⟩, numB g.nodes.length ++ (valB g.root ++ (nodesB g.nodes ++ r))) := by
  have h1 := rdText_bs ⟨#[72, 49]⟩ (numB g.nodes.length ++ (valB g.root ++ (nodesB g.nodes ++ r)))
  have e : graphB g ++ r = bsOf ⟨#[72, 49]⟩ ++ (numB g.nodes.length ++ (valB g.root ++ (nodesB g.nodes ++ r))) := by unfold graphB; simp only [List.append_assoc]; rfl
  rw [e]; exact h1
 unfold rdGraph
 rw [e0, Option.bind_some, if_pos rfl]
 dsimp only
 rw [rdCount_num (m := g.nodes.length) (most := 300) hn (by omega), Option.bind_some]
 dsimp only
 rw [rdVal_back hn ho.root hroot, Option.bind_some]
 dsimp only
 rw [rdNodes_back hn g.nodes r ho.nodes hnodes]
 rfl
def zeroG : GG := ⟨⟨0, 0, ⟨#[]⟩, 0⟩, []⟩
def unB (bs : List Nat) : Bool × GG :=
 match rdGraph bs with
 | some (g, _) => if packB g = bs then (true, g) else (false, zeroG)
 | none => (false, zeroG)
def sNum : Nat → Nat → Nat → List Nat → Option (Nat × List Nat)
 | 0, _, _, _ => none
 | _ + 1, _, _, [] => none
 | k + 1, n, i, x :: r => if x < 128 then some (orU n (x % 128) (7 * i), r) else sNum k (orU n (x % 128) (7 * i)) (i + 1) r
def sSmall (r : List Nat) : Option (Nat × List Nat) :=
 match sNum 10 0 0 r with
 | some (n, r') => if n ≤ 5000 then some (n, r') else none
 | none => none
def sLow : Nat → Nat → Nat → List Nat → Option (Nat × List Nat)
 | 0, _, n, r => some (n, r)
 | _ + 1, _, _, [] => none
 | k + 1, i, n, x :: r => sLow k (i + 1) (orU n x (8 * i)) r
structure SR (w : World) (b : Nat) (sa : Option Addr) (cap : Nat) (bs : List Nat) (at_ : Nat) (bad : Bool) : Prop where
 lt : b < w.heap.size
 c0 : w.cell? ⟨b, 0, none⟩ = some (.slice sa bs.length cap)
 c1 : w.cell? ⟨b, 1, none⟩ = some (.int .i64 (at_ : Int))
 c2 : w.cell? ⟨b, 2, none⟩ = some (.bool bad)
 f : ∀ o, w.frozen? ⟨b, o, none⟩ = false
 low : BytesLow b w sa bs
 cap : bs.length ≤ cap
 len : bs.length ≤ 4096
 byte : ∀ x, x ∈ bs → x < 256
 atl : at_ ≤ bs.length + 2
theorem SR.kept {p : Nat → Prop} {w w' : World} {b : Nat} {sa : Option Addr} {cap : Nat} {bs : List Nat} {at_ : Nat} {bad : Bool} (h : SR w b sa cap bs at_ bad) (k : Kept p w w') (hp : ∀ k, k ≤ b → ¬ p k) : SR w' b sa cap bs at_ bad := by
 have e := k.block b h.lt (hp b (Nat.le_refl _))
 exact ⟨Nat.lt_of_lt_of_le h.lt k.size, (World.cell?_of_block (w := w) e).trans h.c0, (World.cell?_of_block (w := w) e).trans h.c1, (World.cell?_of_block (w := w) e).trans h.c2, fun o => (World.frozen?_of_block (w := w) e).trans (h.f o), h.low.below (k.below (by have := h.lt; omega) (fun k hk => hp k (by omega))), h.cap, h.len, h.byte, h.atl⟩
theorem SR.grow {w w' : World} {b : Nat} {sa : Option Addr} {cap : Nat} {bs : List Nat} {at_ : Nat} {bad : Bool} (h : SR w b sa cap bs at_ bad) (k : Below w.heap.size w w') : SR w' b sa cap bs at_ bad := h.kept (Kept.of_below k (fun _ => False)) (fun _ _ e => e)
theorem SR.drewN {w : World} {b : Nat} {sa : Option Addr} {cap : Nat} {bs : List Nat} {at_ : Nat} {bad : Bool} (h : SR w b sa cap bs at_ bad) (k : Nat) : SR (w.drewN k) b sa cap bs at_ bad := ⟨h.lt, h.c0, h.c1, h.c2, h.f, h.low, h.cap, h.len, h.byte, h.atl⟩
theorem SR.setBad {w : World} {b : Nat} {sa : Option Addr} {cap : Nat} {bs : List Nat} {at_ : Nat} {bad : Bool} (h : SR w b sa cap bs at_ bad) : SR (w.setCell ⟨b, 2, none⟩ (.bool true)) b sa cap bs at_ true := by
 refine ⟨by have := h.lt; simpa [World.setCell] using this, ?_, ?_, World.cell?_setCell_same _ _ _ h.c2, fun o => ?_, h.low.below ((Kept.refl (fun k => k = b) w).set (a := ⟨b, 2, none⟩) (fun _ => rfl) _ |>.below (by have := h.lt; omega) (fun k hk e => by omega)), h.cap, h.len, h.byte, h.atl⟩
 · rw [World.cell?_setCell_other _ _ _ _ (by simp)]; exact h.c0
 · rw [World.cell?_setCell_other _ _ _ _ (by simp)]; exact h.c1
 · rw [World.frozen?_setCell]; exact h.f o
theorem SR.setAt {w : World} {b : Nat} {sa : Option Addr} {cap : Nat} {bs : List Nat} {at_ : Nat} {bad : Bool} (h : SR w b sa cap bs at_ bad) {z : Int} {n : Nat} (hz : z = (n : Int)) (hn : n ≤ bs.length + 2) : SR (w.setCell ⟨b, 1, none⟩ (.int .i64 z)) b sa cap bs n bad := by
 subst hz
 refine ⟨by have := h.lt; simpa [World.setCell] using this, ?_, World.cell?_setCell_same _ _ _ h.c1, ?_, fun o => ?_, h.low.below ((Kept.refl (fun k => k = b) w).set (a := ⟨b, 1, none⟩) (fun _ => rfl) _ |>.below (by have := h.lt; omega) (fun k hk e => by omega)), h.cap, h.len, h.byte, hn⟩
 · rw [World.cell?_setCell_other _ _ _ _ (by simp)]; exact h.c0
 · rw [World.cell?_setCell_other _ _ _ _ (by simp)]; exact h.c2
 · rw [World.frozen?_setCell]; exact h.f o
def SRel {α : Type} (f : Option (α × List Nat)) (bad : Bool) (x : α) (r' : List Nat) (bad' : Bool) : Prop :=
 (bad = true → bad' = true) ∧ (bad = false → (bad' = false ∧ f = some (x, r')) ∨ (bad' = true ∧ f = none))
def SPost {α : Type} (f : Option (α × List Nat)) (enc : α → Value) (ok : α → Prop) (b : Nat) (sa : Option Addr) (cap : Nat) (bs : List Nat) (at_ : Nat) (bad : Bool) (w : World) (e : Ending) (w' : World) : Prop :=
 Kept (fun k => k = b) w w' ∧ ∃ x at' bad', e = .returned (enc x) ∧ ok x ∧ SR w' b sa cap bs at' bad' ∧ (at' ≤ bs.length ∨ at' = at_) ∧ Hid (SRel f bad x (bs.drop at') bad')
theorem drop_zero_of {bs : List Nat} {k : Nat} (h : bs.length ≤ k) : bs.drop k = [] := List.drop_of_length_le h
theorem sByte_any (b : Nat) (sa : Option Addr) (cap : Nat) (bs : List Nat) (at_ : Nat) (bad : Bool) (w : World) (hR : SR w b sa cap bs at_ bad) :
  Calls Tryz.prog 136 #[.pointer (some ⟨b, 0, none⟩)] w (SPost (rdByte (bs.drop at_)) (fun x => .int .u8 (x : Int)) (fun x => x < 256) b sa cap bs at_ bad w) := by
 have hatl := hR.atl
 have hlen := hR.len
 obtain ⟨hlt, c0, c1, c2, hf, hlow, hcap, _, hbyte, _⟩ := id hR
 by_cases h : at_ < bs.length
 ·
  have hd : ¬ ((bs.length : Int) ≤ (at_ : Int)) := by omega
  obtain ⟨x, hx⟩ := hidx bs[at_]!
  have hxm : x < 256 := by rw [hx.out]; exact hbyte _ (mem_at h)
  have e1 : Hid (rdByte (bs.drop at_) = some (x, bs.drop (at_ + 1))) := by show _ = _; rw [drop_cons h, hx.out]; rfl
  obtain ⟨ba, off, rfl, hba, hcell⟩ := hlow at_ h
  rw [← hx.out] at hcell
  have hne : ba ≠ b := by omega
  go_enter Tryz.func136, Tryz.ntmps136
  go_wp2_with (go_quiet (fail))
  go_ret
  refine ⟨(((Kept.refl (fun k => k = b) w).drewN _).set (fun _ => rfl) _).drewN _, x, at_ + 1, bad, rfl, hxm, ?_, Or.inl (by omega), ⟨fun h => h, fun _ => ?_⟩⟩
  · exact ((hR.drewN _).setAt (by omega) (by omega)).drewN _
  ·
   cases bad
   · exact Or.inl ⟨rfl, e1.out⟩
   · rename_i hc; cases hc
 ·
  have hd : ((bs.length : Int) ≤ (at_ : Int)) := by omega
  have e1 : Hid (rdByte (bs.drop at_) = none) := by show _ = _; rw [drop_zero_of (by omega)]; rfl
  go_enter Tryz.func136, Tryz.ntmps136
  go_wp2_with (go_quiet (fail))
  go_ret
  exact ⟨((Kept.refl (fun k => k = b) w).drewN _).set (fun _ => rfl) _, 0, at_, true, rfl, by omega, (hR.drewN _).setBad, Or.inr rfl, ⟨fun _ => rfl, fun _ => Or.inr ⟨rfl, e1.out⟩⟩⟩
theorem byte_cons {r r' : List Nat} {x : Nat} (h : rdByte r = some (x, r')) : r = x :: r' := by
 cases r with
 | nil => cases h
 | cons y t =>
  have e : y = x ∧ t = r' := by simpa [rdByte] using h
  rw [e.1, e.2]
theorem byte_nil {r : List Nat} (h : rdByte r = none) : r = [] := by
 cases r with
 | nil => rfl
 | cons y t => cases h
def SInv {α : Type} (f g : Option (α × List Nat)) (bad0 bad : Bool) : Prop := (bad0 = true → bad = true) ∧ (bad0 = false → bad = false → f = g) ∧ (bad0 = false → bad = true → f = none)
theorem SInv.start {α : Type} (f : Option (α × List Nat)) (bad : Bool) : SInv f f bad bad := ⟨fun h => h, fun _ _ => rfl, fun h h' => by rw [h] at h'; cases h'⟩
theorem SInv.comp {α β : Type} {F G G' : Option (β × List Nat)} {f1 : Option (α × List Nat)} {bad bad1 bad2 : Bool} {x : α} {r2 : List Nat} (h : SInv F G bad bad1) (hr : SRel f1 bad1 x r2 bad2) (h1 : f1 = some (x, r2) → G = G') (h0 : f1 = none → G = none) : SInv F G' bad bad2 := by
 refine ⟨fun hb => hr.1 (h.1 hb), fun hb hb2 => ?_, fun hb hb2 => ?_⟩
 ·
  cases hb1 : bad1 with
  | true => rw [hr.1 hb1] at hb2; cases hb2
  | false =>
   rcases hr.2 hb1 with ⟨_, e⟩ | ⟨e, _⟩
   · exact (h.2.1 hb hb1).trans (h1 e)
   · rw [e] at hb2; cases hb2
 ·
  cases hb1 : bad1 with
  | true => exact h.2.2 hb hb1
  | false =>
   rcases hr.2 hb1 with ⟨e, _⟩ | ⟨_, e⟩
   · rw [e] at hb2; cases hb2
   · exact (h.2.1 hb hb1).trans (h0 e)
theorem SInv.rel {α : Type} {F G : Option (α × List Nat)} {bad bad1 : Bool} {y : α} {r : List Nat} (h : SInv F G bad bad1) (hG : G = some (y, r)) : SRel F bad y r bad1 := by
 refine ⟨h.1, fun hb => ?_⟩
 cases hb1 : bad1 with
 | true => exact Or.inr ⟨rfl, h.2.2 hb hb1⟩
 | false => exact Or.inl ⟨rfl, (h.2.1 hb hb1).trans hG⟩
theorem SInv.bad {α : Type} {F G : Option (α × List Nat)} {bad bad1 : Bool} {y : α} {r : List Nat} (h : SInv F G bad bad1) (hG : G = none) : SRel F bad y r true := by
 refine ⟨fun _ => rfl, fun hb => Or.inr ⟨rfl, ?_⟩⟩
 cases hb1 : bad1 with
 | true => exact h.2.2 hb hb1
 | false => exact (h.2.1 hb hb1).trans hG
theorem sOr_form {n x s : Nat} (hn : n < 18446744073709551616) (_hx : x < 18446744073709551616) (hs : s ≤ 64) : bits .or .u64 (n : Int) (IntKind.u64.wrap ((x : Int) * 2 ^ s)) = ((orU n x s : Nat) : Int) := by
 have e3 : ((x : Int) * 2 ^ s) = ((x * 2 ^ s : Nat) : Int) := by push_cast; rfl
 have e4 : IntKind.u64.wrap ((x * 2 ^ s : Nat) : Int) = ((x * 2 ^ s % 18446744073709551616 : Nat) : Int) := by rw [IntKind.wrap_u64]; generalize x * 2 ^ s = y; omega
 rw [e3, e4, u64_or_nat n _ hn (Nat.mod_lt _ (by omega))]
 unfold orU
 rw [Nat.min_eq_left hs]
theorem and127 {x : Nat} (hx : x < 256) : IntKind.u64.wrap (bits .and .u8 (x : Int) 127) = ((x % 128 : Nat) : Int) := by
 have e1 : bits .and .u8 (x : Int) 127 = ((x % 128 : Nat) : Int) := by
  rw [u8_and _ _ (by omega) (by omega) (by omega) (by omega)]
  have h1 : (127 : Int).toNat = 127 := rfl
  rw [h1, Int.toNat_natCast, nat_mask7]
 rw [e1, IntKind.wrap_u64]; omega
theorem sEight_any (b : Nat) (sa : Option Addr) (cap : Nat) (bs : List Nat) (at_ : Nat) (bad : Bool) (w : World) (hR : SR w b sa cap bs at_ bad) :
  Calls Tryz.prog 137 #[.pointer (some ⟨b, 0, none⟩)] w (SPost (sLow 8 0 0 (bs.drop at_)) (fun x => .int .u64 (x : Int)) (fun x => x < 18446744073709551616) b sa cap bs at_ bad w) := by
 go_enter Tryz.func137, Tryz.ntmps137
 go_wp2
 go_loopw [3, 4] (fun a c ws => ∃ (n i at1 : Nat) (bad1 : Bool), a = .int .u64 n ∧ c = .int .i64 i ∧ n < 18446744073709551616 ∧ i ≤ 8 ∧ Hid (SInv (sLow 8 0 0 (bs.drop at_)) (sLow (8 - i) i n (bs.drop at1)) bad bad1) ∧ SR ws b sa cap bs at1 bad1 ∧ (at1 ≤ bs.length ∨ at1 = at_) ∧ Kept (fun k => k = b) w ws) (fun _ c _ => 8 - (intOf c).toNat)
 case atStart => exact ⟨0, 0, at_, bad, rfl, rfl, by omega, by omega, SInv.start _ _, hR, Or.inr rfl, Kept.refl _ _⟩
 case round =>
  obtain ⟨n, i, at1, bad1, rfl, rfl, hn, hi, hinv, hR1, hat1, hK⟩ := hrel
  by_cases hlt : i < 8
  ·
   have hd : (i : Int) < 8 := by omega
   go_wp2_with (go_at_call 136; refine (sByte_any b sa cap bs at1 bad1 _ hR1).mono ?_; rintro e w1 ⟨hK1, x, at2, bad2, rfl, hx, hR2, hat2, hrel⟩)
   have e6 : IntKind.u64.wrap (x : Int) = (x : Int) := by rw [IntKind.wrap_u64]; omega
   refine ⟨⟨orU n x (8 * i), i + 1, at2, bad2, congrArg (Value.int .u64) (by first | exact sOr_form hn (by omega) (by omega) | (rw [e6]; exact sOr_form hn (by omega) (by omega))), by go_num, orU_lt hn, by omega, ?_, hR2, by omega, kk hK hK1⟩, by simp [intOf]; omega⟩
   refine hinv.out.comp hrel.out (fun h => ?_) (fun h => ?_)
   · rw [byte_cons h, show 8 - i = (8 - (i + 1)) + 1 by omega, sLow]
   · rw [byte_nil h, show 8 - i = (7 - i) + 1 by omega, sLow]
  ·
   obtain rfl : i = 8 := by omega
   go_wp2
   go_ret
   exact ⟨hK, n, at1, bad1, rfl, hn, hR1, hat1, hinv.out.rel rfl⟩
theorem sLow_back : ∀ (k i a m : Nat) (r : List Nat), i + k = 8 → a < 2 ^ (8 * i) → sLow k i a (lowB k m ++ r) = some (a + m % 2 ^ (8 * k) * 2 ^ (8 * i), r)
 | 0, i, a, m, r, _, _ => by
  show some (_, r) = _
  simp [Nat.mod_one]
 | k + 1, i, a, m, r, hk, ha => by
  show sLow k (i + 1) (orU a (m % 256) (8 * i)) (lowB k (m / 256) ++ r) = _
  have hp : 2 ^ (8 * (i + 1)) = 2 ^ (8 * i) * 256 := by rw [show 8 * (i + 1) = 8 * i + 8 by omega, Nat.pow_add]
  have hlt : a + m % 256 * 2 ^ (8 * i) < 2 ^ (8 * (i + 1)) := by
   have h1 : (m % 256 + 1) * 2 ^ (8 * i) ≤ 256 * 2 ^ (8 * i) := Nat.mul_le_mul_right _ (by omega)
   rw [Nat.add_mul] at h1
   rw [hp, Nat.mul_comm (2 ^ (8 * i)) 256]
   omega
  have h64 : 2 ^ (8 * (i + 1)) ≤ 2 ^ 64 := Nat.pow_le_pow_right (by omega) (by omega)
  rw [orU_join ha (by omega) (by omega), sLow_back k (i + 1) _ (m / 256) r (by omega) hlt]
  congr 2
  have e1 : m % 2 ^ (8 * (k + 1)) = m % 256 + m / 256 % 2 ^ (8 * k) * 256 := by
   rw [show 2 ^ (8 * (k + 1)) = 256 * 2 ^ (8 * k) by rw [show 8 * (k + 1) = 8 + 8 * k by omega, Nat.pow_add], Nat.mod_mul]
   omega
  rw [e1, hp, Nat.add_mul, Nat.mul_assoc, Nat.mul_comm 256 (2 ^ (8 * i)), Nat.add_assoc]
theorem l2equal_any (a a' : Option Addr) (xs ys : List Nat) (c c' : Nat) (w : World) (hl : xs.length ≤ maxLen) (_hl' : ys.length ≤ maxLen) (ha : BytesAt w a xs) (ha' : BytesAt w a' ys) :
  Calls Tryz.prog 104 #[.slice a xs.length c, .slice a' ys.length c'] w fun e w' => e = .returned (.bool (decide (xs = ys))) ∧ Below w.heap.size w w' := by
 unfold maxLen at hl
 by_cases hne : xs.length = ys.length
 ·
  have hd : ((xs.length : Int) != (ys.length : Int)) = false := by rw [hne]; simp
  have hne' : Hid _ := hne
  clear hne
  go_enter Tryz.func104, Tryz.ntmps104
  go_wp2
  go_loopw [13] (fun i ws => ∃ (k : Nat), i = .int .i64 k ∧ k ≤ xs.length ∧ Hid (∀ j, j < k → xs[j]! = ys[j]!) ∧ Below w.heap.size w ws) (fun i _ => xs.length - (intOf i).toNat)
  case atStart => exact ⟨0, rfl, Nat.zero_le _, fun j hj => absurd hj (Nat.not_lt_zero _), gre _⟩
  case round =>
   obtain ⟨k, rfl, hk, hall, hb⟩ := hrel
   by_cases hlt : k < xs.length
   ·
    obtain ⟨x, b, off, hxk, hxm, rfl, hc⟩ := (ha.grow hb).get hlt
    obtain ⟨y, b', off', hyk, hym, rfl, hc'⟩ := (ha'.grow hb).get (k := k) (by rw [← hne'.out]; exact hlt)
    have hlt' : k < ys.length := by rw [← hne'.out]; exact hlt
    by_cases hxy : x = y
    ·
     subst hxy
     have hn2 : ((x : Int) != (x : Int)) = false := by simp
     go_wp2_with (go_quiet (fail))
     go_roundw
     case rel =>
      refine ⟨k + 1, by go_num, by omega, fun j hj => ?_, hb.trans ⟨rfl, rfl, rfl, Nat.le_refl _, fun _ _ => rfl⟩⟩
      by_cases e : j = k
      · rw [e, ← hxk.out, ← hyk.out]
      · exact hall.out j (by omega)
     case measure => simp [intOf]; omega
    ·
     have hn2 : ((x : Int) != (y : Int)) = true := by simp; omega
     have hdec : Hid (decide (xs = ys) = false) := decide_eq_false (fun e => hxy (by rw [hxk.out, hyk.out, e]))
     go_wp2_with (go_quiet (fail))
     go_ret
     exact ⟨by rw [hdec.out]; rfl, hb.trans ⟨rfl, rfl, rfl, Nat.le_refl _, fun _ _ => rfl⟩⟩
   ·
    have hdec : Hid (decide (xs = ys) = true) := decide_eq_true (List.ext_getElem hne'.out (fun i h1 h2 => by
     have := hall.out i (by omega)
     rwa [getElem!_pos xs i h1, getElem!_pos ys i h2] at this))
    go_wp2
    go_ret
    exact ⟨by rw [hdec.out]; rfl, hb⟩
 ·
  have hd : ((xs.length : Int) != (ys.length : Int)) = true := by simp; omega
  have hdec : Hid (decide (xs = ys) = false) := decide_eq_false (fun e => hne (by rw [e]))
  go_enter Tryz.func104, Tryz.ntmps104
  go_wp2
  go_ret
  exact ⟨by rw [hdec.out]; rfl, gre _⟩
theorem writeOk_any (x : DW) (a : Option Addr) (cap : Nat) (w : World) (hi : I64 x.block) (_hl : x.bytes.length ≤ maxLen) :
  Calls Tryz.prog 66 #[x.val a cap] w fun e w' => e = .returned (.bool (wrOk x)) ∧ Below w.heap.size w w' := by
 obtain ⟨p, hp⟩ : ∃ p, Hid (p = (decide (0 ≤ x.block) && decide (x.block < 130))) := ⟨_, rfl⟩
 have hw : Hid (wrOk x = (p && decide (x.bytes.length = 64))) := by show _ = _; rw [hp.out]; rfl
 cases p with
 | false =>
  go_enter Tryz.func66, Tryz.ntmps66
  go_wp2_with (go_at_call 108; refine (hasBlock_any x.block _ hi).mono ?_; rintro e w' ⟨rfl, hb'⟩; rw [← hp.out])
  go_ret
  exact ⟨by rw [hw.out]; rfl, gca (gal (gre _) _) hb'⟩
 | true =>
  by_cases h : x.bytes.length = 64
  ·
   have h' : ((x.bytes.length : Int) == 64) = true := by simp; omega
   have hh : Hid _ := h
   clear h
   go_enter Tryz.func66, Tryz.ntmps66
   go_wp2_with (go_at_call 108; refine (hasBlock_any x.block _ hi).mono ?_; rintro e w' ⟨rfl, hb'⟩; rw [← hp.out]; obtain ⟨hc, hf⟩ := bcell hb')
   go_ret
   exact ⟨by rw [hw.out]; simp [hh.out], gca (gal (gre _) _) hb'⟩
  ·
   have h' : ((x.bytes.length : Int) == 64) = false := by simp; omega
   have hh : Hid _ := h
   clear h
   go_enter Tryz.func66, Tryz.ntmps66
   go_wp2_with (go_at_call 108; refine (hasBlock_any x.block _ hi).mono ?_; rintro e w' ⟨rfl, hb'⟩; rw [← hp.out]; obtain ⟨hc, hf⟩ := bcell hb')
   go_ret
   exact ⟨by rw [hw.out, decide_eq_false hh.out]; rfl, gca (gal (gre _) _) hb'⟩
theorem DD.ok_no1 {d : DD} (h : d.blocks.length ≠ 130) : d.ok = false := by simp [DD.ok, h]
theorem DD.ok_no2 {d : DD} (h : ¬ d.waiting.length ≤ 200) : d.ok = false := by simp [DD.ok, h]
theorem DD.ok_no3 {d : DD} (h : d.blocks.all blOk = false) : d.ok = false := by simp [DD.ok, h]
theorem DD.ok_no4 {d : DD} (h : d.waiting.all wrOk = false) : d.ok = false := by simp [DD.ok, h]
theorem DD.ok_yes {d : DD} (h1 : d.blocks.length = 130) (h2 : d.waiting.length ≤ 200) (h3 : d.blocks.all blOk = true) (h4 : d.waiting.all wrOk = true) : d.ok = true := by simp [DD.ok, h1, h2, h3, h4]
theorem implDiskOk_any (d : DD) (l : DL) (w : World) (hd : d.Ok) (ha : DAt w l d) :
  Calls Tryz.prog 29 #[d.val l] w fun e w' => e = .returned (.bool d.ok) ∧ Below w.heap.size w w' := by
 have hbl := hd.bl
 have hwl := hd.wl
 unfold maxLen at hbl hwl
 by_cases h1 : d.blocks.length = 130
 ·
  have t1 : ((d.blocks.length : Int) != 130) = false := by simp; omega
  have h1' : Hid _ := h1
  clear h1
  by_cases h2 : d.waiting.length ≤ 200
  ·
   have t2 : ¬ ((d.waiting.length : Int) > 200) := by omega
   have h2' : Hid _ := h2
   clear h2
   go_enter Tryz.func29, Tryz.ntmps29
   go_wp2
   have hA := gal (gre w) (.cells #[.slice l.ba d.blocks.length l.bc, .slice l.wa d.waiting.length l.wc] 46)
   have hX := DBox.new w d l 46
   generalize w.alloc (.cells #[.slice l.ba d.blocks.length l.bc, .slice l.wa d.waiting.length l.wc] 46) = wA at hA hX ⊢
   go_loopw [20] (fun i wr => ∃ k : Nat, k ≤ d.blocks.length ∧ i = .int .i64 k ∧ (d.blocks.take k).all blOk = true ∧ Below wA.heap.size wA wr) (fun i _ => d.blocks.length - (intOf i).toNat)
   case atStart => exact ⟨0, Nat.zero_le _, rfl, rfl, gre _⟩
   case round =>
    obtain ⟨k, hk, rfl, hall, hb⟩ := hrel
    by_cases hlt : k < d.blocks.length
    ·
     obtain ⟨n, b, off, av, cv, hvk, hvm, hba, c0, hva⟩ := (ha.b.grow (gca hA hb)).get hlt
     rw [hba]
     have hnl := (hd.bb n hvm).len
     unfold maxLen at hnl
     have i0 : (0 : Int) ≤ (k : Int) := by omega
     have i1 : (k : Int) < (d.blocks.length : Int) := by omega
     have hall' : Hid _ := hall
     clear hall
     by_cases h64 : n.length = 64
     ·
      have t3 : ((n.length : Int) != 64) = false := by simp; omega
      have hst : Hid ((d.blocks.take (k + 1)).all blOk = true) := by show _ = _; rw [dall_take_succ _ _ _ hlt, hall'.out, ← hvk.out]; simp [blOk, h64]
      clear h64
      go_wp2
      go_roundw
      case rel => exact ⟨k + 1, by omega, by go_num, hst.out, hb⟩
      case measure => simp [intOf]; omega
     ·
      have t3 : ((n.length : Int) != 64) = true := by simp; omega
      have hst : Hid (d.blocks.all blOk = false) := all_take_false _ _ k hlt (by rw [← hvk.out]; simp [blOk, h64])
      clear h64
      go_wp2
      go_ret
      exact ⟨by rw [DD.ok_no3 hst.out]; rfl, gca hA hb⟩
    ·
     have e : k = d.blocks.length := by omega
     subst e
     rw [List.take_length] at hall
     have hall' : Hid _ := hall
     have hX2 := hX.grow hb
     have x0 := hX2.c0
     have x1 := hX2.c1
     clear hall
     have hB := gca hA hb
     clear hb hX2
     rename World => wB
     go_wp2
     go_loopw [31] (fun i wr2 => ∃ k : Nat, k ≤ d.waiting.length ∧ i = .int .i64 k ∧ (d.waiting.take k).all wrOk = true ∧ Below wB.heap.size wB wr2) (fun i _ => d.waiting.length - (intOf i).toNat)
     case atStart => exact ⟨0, Nat.zero_le _, rfl, rfl, gre _⟩
     case round =>
      obtain ⟨k, hk, rfl, hall, hb⟩ := hrel
      by_cases hlt : k < d.waiting.length
      ·
       obtain ⟨n, b, off, av, cv, hvk, hvm, hba, c0, c1, hva⟩ := (ha.w.grow (gca hB hb)).get hlt
       rw [hba]
       have i0 : (0 : Int) ≤ (k : Int) := by omega
       have i1 : (k : Int) < (d.waiting.length : Int) := by omega
       have hni := hd.wi n hvm
       have hnl := (hd.wb n hvm).len
       have hall2 : Hid _ := hall
       clear hall
       cases hok : wrOk n with
       | true =>
        have hst : Hid ((d.waiting.take (k + 1)).all wrOk = true) := by show _ = _; rw [dall_take_succ _ _ _ hlt, hall2.out, ← hvk.out, hok]; rfl
        have hok' : Hid _ := hok
        clear hok
        go_wp2_with (go_at_call 66; refine (writeOk_any n av cv _ hni hnl).mono ?_; rintro e w2 ⟨rfl, hb2⟩; rw [hok'.out])
        go_roundw
        case rel => exact ⟨k + 1, by omega, by go_num, hst.out, by first | exact gca hb hb2 | exact gca (gal hb _) hb2 | exact gca (gse (gse (gal hb _) (by simp) _) (by simp) _) hb2⟩
        case measure => simp [intOf]; omega
       | false =>
        have hst : Hid (d.waiting.all wrOk = false) := all_take_false _ _ k hlt (by rw [← hvk.out]; exact hok)
        have hok' : Hid _ := hok
        clear hok
        go_wp2_with (go_at_call 66; refine (writeOk_any n av cv _ hni hnl).mono ?_; rintro e w2 ⟨rfl, hb2⟩; rw [hok'.out])
        go_ret
        exact ⟨by rw [DD.ok_no4 hst.out]; rfl, by first | exact gca hB (gca hb hb2) | exact gca hB (gca (gal hb _) hb2) | exact gca hB (gca (gse (gse (gal hb _) (by simp) _) (by simp) _) hb2)⟩
      ·
       have e : k = d.waiting.length := by omega
       subst e
       rw [List.take_length] at hall
       have hall2 : Hid _ := hall
       clear hall
       go_wp2
       go_ret
       exact ⟨by rw [DD.ok_yes h1'.out h2'.out hall'.out hall2.out]; rfl, gca hB hb⟩
  ·
   have t2 : ((d.waiting.length : Int) > 200) := by omega
   have hst : Hid _ := DD.ok_no2 h2
   go_enter Tryz.func29, Tryz.ntmps29
   go_wp2
   go_ret
   exact ⟨by rw [hst.out]; rfl, gal (gre _) _⟩
 ·
  have t1 : ((d.blocks.length : Int) != 130) = true := by simp; omega
  have hst : Hid _ := DD.ok_no1 h1
  clear h1
  go_enter Tryz.func29, Tryz.ntmps29
  go_wp2
  go_ret
  exact ⟨by rw [hst.out]; rfl, gal (gre _) _⟩
theorem specDiskOk_any (d : DD) (l : DL) (w : World) (hd : d.Ok) (ha : DAt w l d) :
  Calls Tryz.prog 30 #[d.val l] w fun e w' => e = .returned (.bool d.ok) ∧ Below w.heap.size w w' := by
 have hbl := hd.bl
 have hwl := hd.wl
 unfold maxLen at hbl hwl
 by_cases h1 : d.blocks.length = 130
 ·
  have t1 : ((d.blocks.length : Int) != 130) = false := by simp; omega
  have h1' : Hid _ := h1
  clear h1
  by_cases h2 : d.waiting.length ≤ 200
  ·
   have t2 : ¬ ((d.waiting.length : Int) > 200) := by omega
   have h2' : Hid _ := h2
   clear h2
   go_enter Tryz.func30, Tryz.ntmps30
   go_wp2
   have hA := gal (gre w) (.cells #[.slice l.ba d.blocks.length l.bc, .slice l.wa d.waiting.length l.wc] 46)
   have hX := DBox.new w d l 46
   generalize w.alloc (.cells #[.slice l.ba d.blocks.length l.bc, .slice l.wa d.waiting.length l.wc] 46) = wA at hA hX ⊢
   go_loopw [20] (fun i wr => ∃ k : Nat, k ≤ d.blocks.length ∧ i = .int .i64 k ∧ (d.blocks.take k).all blOk = true ∧ Below wA.heap.size wA wr) (fun i _ => d.blocks.length - (intOf i).toNat)
   case atStart => exact ⟨0, Nat.zero_le _, rfl, rfl, gre _⟩
   case round =>
    obtain ⟨k, hk, rfl, hall, hb⟩ := hrel
    by_cases hlt : k < d.blocks.length
    ·
     obtain ⟨n, b, off, av, cv, hvk, hvm, hba, c0, hva⟩ := (ha.b.grow (gca hA hb)).get hlt
     rw [hba]
     have hnl := (hd.bb n hvm).len
     unfold maxLen at hnl
     have i0 : (0 : Int) ≤ (k : Int) := by omega
     have i1 : (k : Int) < (d.blocks.length : Int) := by omega
     have hall' : Hid _ := hall
     clear hall
     by_cases h64 : n.length = 64
     ·
      have t3 : ((n.length : Int) != 64) = false := by simp; omega
      have hst : Hid ((d.blocks.take (k + 1)).all blOk = true) := by show _ = _; rw [dall_take_succ _ _ _ hlt, hall'.out, ← hvk.out]; simp [blOk, h64]
      clear h64
      go_wp2
      go_roundw
      case rel => exact ⟨k + 1, by omega, by go_num, hst.out, hb⟩
      case measure => simp [intOf]; omega
     ·
      have t3 : ((n.length : Int) != 64) = true := by simp; omega
      have hst : Hid (d.blocks.all blOk = false) := all_take_false _ _ k hlt (by rw [← hvk.out]; simp [blOk, h64])
      clear h64
      go_wp2
      go_ret
      exact ⟨by rw [DD.ok_no3 hst.out]; rfl, gca hA hb⟩
    ·
     have e : k = d.blocks.length := by omega
     subst e
     rw [List.take_length] at hall
     have hall' : Hid _ := hall
     have hX2 := hX.grow hb
     have x0 := hX2.c0
     have x1 := hX2.c1
     clear hall
     have hB := gca hA hb
     clear hb hX2
     rename World => wB
     go_wp2
     go_loopw [31] (fun i wr2 => ∃ k : Nat, k ≤ d.waiting.length ∧ i = .int .i64 k ∧ (d.waiting.take k).all wrOk = true ∧ Below wB.heap.size wB wr2) (fun i _ => d.waiting.length - (intOf i).toNat)
     case atStart => exact ⟨0, Nat.zero_le _, rfl, rfl, gre _⟩
     case round =>
      obtain ⟨k, hk, rfl, hall, hb⟩ := hrel
      by_cases hlt : k < d.waiting.length
      ·
       obtain ⟨n, b, off, av, cv, hvk, hvm, hba, c0, c1, hva⟩ := (ha.w.grow (gca hB hb)).get hlt
       rw [hba]
       have i0 : (0 : Int) ≤ (k : Int) := by omega
       have i1 : (k : Int) < (d.waiting.length : Int) := by omega
       have hni := hd.wi n hvm
       have hnl := (hd.wb n hvm).len
       have hall2 : Hid _ := hall
       clear hall
       by_cases g0 : n.block < 0
       ·
        have hst : Hid (d.waiting.all wrOk = false) := all_take_false _ _ k hlt (by rw [← hvk.out]; simp [wrOk]; omega)
        go_wp2
        go_ret
        exact ⟨by rw [DD.ok_no4 hst.out]; rfl, by first | exact gca hB hb | exact gca hB (gal hb _) | exact gca hB (gse (gse (gal hb _) (by simp) _) (by simp) _)⟩
       ·
        by_cases g1 : n.block ≥ 130
        ·
         have hst : Hid (d.waiting.all wrOk = false) := all_take_false _ _ k hlt (by rw [← hvk.out]; simp [wrOk]; omega)
         go_wp2
         go_ret
         exact ⟨by rw [DD.ok_no4 hst.out]; rfl, by first | exact gca hB hb | exact gca hB (gal hb _) | exact gca hB (gse (gse (gal hb _) (by simp) _) (by simp) _)⟩
        ·
         unfold maxLen at hnl
         by_cases g2 : n.bytes.length = 64
         ·
          have t3 : ((n.bytes.length : Int) != 64) = false := by simp; omega
          have hst : Hid ((d.waiting.take (k + 1)).all wrOk = true) := by show _ = _; rw [dall_take_succ _ _ _ hlt, hall2.out, ← hvk.out]; simp [wrOk, g2]; omega
          clear g2
          go_wp2
          go_roundw
          case rel => exact ⟨k + 1, by omega, by go_num, hst.out, by first | exact hb | exact gal hb _ | exact gse (gse (gal hb _) (by simp) _) (by simp) _⟩
          case measure => simp [intOf]; omega
         ·
          have t3 : ((n.bytes.length : Int) != 64) = true := by simp; omega
          have hst : Hid (d.waiting.all wrOk = false) := all_take_false _ _ k hlt (by rw [← hvk.out]; simp [wrOk, g2])
          clear g2
          go_wp2
          go_ret
          exact ⟨by rw [DD.ok_no4 hst.out]; rfl, by first | exact gca hB hb | exact gca hB (gal hb _) | exact gca hB (gse (gse (gal hb _) (by simp) _) (by simp) _)⟩
      ·
       have e : k = d.waiting.length := by omega
       subst e
       rw [List.take_length] at hall
       have hall2 : Hid _ := hall
       clear hall
       go_wp2
       go_ret
       exact ⟨by rw [DD.ok_yes h1'.out h2'.out hall'.out hall2.out]; rfl, gca hB hb⟩
  ·
   have t2 : ((d.waiting.length : Int) > 200) := by omega
   have hst : Hid _ := DD.ok_no2 h2
   go_enter Tryz.func30, Tryz.ntmps30
   go_wp2
   go_ret
   exact ⟨by rw [hst.out]; rfl, gal (gre _) _⟩
 ·
  have t1 : ((d.blocks.length : Int) != 130) = true := by simp; omega
  have hst : Hid _ := DD.ok_no1 h1
  clear h1
  go_enter Tryz.func30, Tryz.ntmps30
  go_wp2
  go_ret
  exact ⟨by rw [hst.out]; rfl, gal (gre _) _⟩
end Go.Proofs.YtmdpmdmilgbfiaaGreatDoor
