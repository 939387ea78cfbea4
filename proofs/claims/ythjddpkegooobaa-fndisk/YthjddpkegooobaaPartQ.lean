import Derived.Test.YthjddpkegooobaaPartP

/-
  WR3: the program's writer: values. Own work.
-/
namespace Go.Proofs.Ythjddpkegooobaa
open Go.RowKit

set_option maxRecDepth 100000 in
theorem WPost.ok {b a : Nat} {xs ys : List Nat} {w wk : World} (hK : Kept (fun k => k = b ∨ k = a) w wk) (hW : Wr wk b a (xs ++ ys)) : WPost b a xs ys w (.returned (.tuple #[])) wk :=
  ⟨hK, Or.inl ⟨by have := hW.le; rwa [List.length_append] at this, rfl, hW⟩⟩
theorem WPost.no {b a : Nat} {xs ys : List Nat} {w wk : World} (hK : Kept (fun k => k = b ∨ k = a) w wk) (hno : 4096 < xs.length + ys.length) : WPost b a xs ys w (.panicked [haltP]) wk :=
  ⟨hK, Or.inr ⟨hno, rfl⟩⟩
set_option maxRecDepth 100000 in
theorem kt {p : Nat → Prop} {w w' w'' : World} (h : Kept p w w') (k : Kept p w' w'') : Kept p w w'' := h.trans k (fun _ _ h => h)

theorem writeVal_nil (b a : Nat) (xs : List Nat)  (w : World) (hW : Wr w b a xs)  :
    Calls Try.prog 117 #[.pointer (some ⟨b, 0, none⟩), (GV.mk 0 0 ⟨#[]⟩ 0).val] w (WPost b a xs (0 :: []) w) := by
  have hF := Four.new w ⟨0, 0, ⟨#[]⟩, 0⟩ 24
  have hlt := hW.cur.lt
  have hla := hW.row.lt
  go_enter Try.func117, Try.ntmps117
  go_wp2_with (go_at_call 118; refine (writeByte_any b a xs 0 _ _ (hW.grow (gal (gre _) _)) ?_).mono ?_; rfl; rintro e w1 ⟨hK1, h1⟩; obtain ⟨fz, f0, f1, f2, f3, ff⟩ := hF.kept hK1 (by omega); obtain ⟨hf, rfl, hW1⟩ | ⟨hno, rfl⟩ := h1)
  · go_end0
    exact WPost.ok (kt ((Kept.refl _ w).alloc _) hK1) hW1
  · exact ⟨rfl, WPost.no (kt ((Kept.refl _ w).alloc _) hK1) hno⟩

set_option maxRecDepth 100000 in
theorem writeVal_num (b a : Nat) (xs : List Nat) (num : Int) (w : World) (hW : Wr w b a xs) (hn : I64 num) :
    Calls Try.prog 117 #[.pointer (some ⟨b, 0, none⟩), (GV.mk 1 num ⟨#[]⟩ 0).val] w (WPost b a xs (1 :: numB (zig num)) w) := by
  have hF := Four.new w ⟨1, num, ⟨#[]⟩, 0⟩ 24
  have hlt := hW.cur.lt
  have hla := hW.row.lt
  go_enter Try.func117, Try.ntmps117
  go_wp2_with (first
    | (go_at_call 118; refine (writeByte_any b a xs 1 _ _ (hW.grow (gal (gre _) _)) ?_).mono ?_; rfl; rintro e w1 ⟨hK1, h1⟩; obtain ⟨fz, f0, f1, f2, f3, ff⟩ := hF.kept hK1 (by omega); obtain ⟨hf, rfl, hW1⟩ | ⟨hno, rfl⟩ := h1)
    | (go_at_call 147; refine (unsigned_any num _ hn).mono ?_; rintro e w2 ⟨rfl, hb2⟩)
    | (go_at_call 116; refine (writeNumber_any b a (xs ++ [1]) (zig num) _ _ (hW1.grow hb2) rfl (zig_lt hn)).mono ?_; rintro e w3 ⟨hK3, ⟨hf3, rfl, hW3⟩ | ⟨hno3, rfl⟩⟩))
  · go_end0
    exact WPost.ok (kt (kt (kt ((Kept.refl _ w).alloc _) hK1) (Kept.of_below hb2 _)) hK3) (by rw [List.append_assoc] at hW3; exact hW3)
  · exact ⟨rfl, WPost.no (kt (kt (kt ((Kept.refl _ w).alloc _) hK1) (Kept.of_below hb2 _)) hK3) (by simp at hno3 ⊢; omega)⟩
  · exact ⟨rfl, WPost.no (kt ((Kept.refl _ w).alloc _) hK1) (by simp at hno ⊢; omega)⟩

set_option maxRecDepth 100000 in
theorem writeVal_bits (b a : Nat) (xs : List Nat) (num : Int) (w : World) (hW : Wr w b a xs) (hn : I64 num) :
    Calls Try.prog 117 #[.pointer (some ⟨b, 0, none⟩), (GV.mk 2 num ⟨#[]⟩ 0).val] w (WPost b a xs (2 :: lowB 8 (u64n num)) w) := by
  have hF := Four.new w ⟨2, num, ⟨#[]⟩, 0⟩ 24
  have hlt := hW.cur.lt
  have hla := hW.row.lt
  go_enter Try.func117, Try.ntmps117
  go_wp2_with (first
    | (go_at_call 118; refine (writeByte_any b a xs 2 _ _ (hW.grow (gal (gre _) _)) ?_).mono ?_; rfl; rintro e w1 ⟨hK1, h1⟩; obtain ⟨fz, f0, f1, f2, f3, ff⟩ := hF.kept hK1 (by omega); obtain ⟨hf, rfl, hW1⟩ | ⟨hno, rfl⟩ := h1)
    | (go_at_call 63; refine (writeWord_any b a (xs ++ [2]) num _ hW1 hn).mono ?_; rintro e w3 ⟨hK3, ⟨hf3, rfl, hW3⟩ | ⟨hno3, rfl⟩⟩))
  · go_end0
    exact WPost.ok (kt (kt ((Kept.refl _ w).alloc _) hK1) hK3) (by rw [List.append_assoc] at hW3; exact hW3)
  · exact ⟨rfl, WPost.no (kt (kt ((Kept.refl _ w).alloc _) hK1) hK3) (by simp at hno3 ⊢; omega)⟩
  · exact ⟨rfl, WPost.no (kt ((Kept.refl _ w).alloc _) hK1) (by simp at hno ⊢; omega)⟩

set_option maxRecDepth 100000 in
theorem writeVal_node (b a : Nat) (xs : List Nat) (node : Nat) (w : World) (hW : Wr w b a xs) (hn : node < 300) :
    Calls Try.prog 117 #[.pointer (some ⟨b, 0, none⟩), (GV.mk 4 0 ⟨#[]⟩ node).val] w (WPost b a xs (4 :: numB node) w) := by
  have hF := Four.new w ⟨4, 0, ⟨#[]⟩, node⟩ 24
  have hlt := hW.cur.lt
  have hla := hW.row.lt
  have e6 : IntKind.u64.wrap (node : Int) = (node : Int) := by rw [IntKind.wrap_u64]; omega
  go_enter Try.func117, Try.ntmps117
  go_wp2_with (first
    | (go_at_call 118; refine (writeByte_any b a xs 4 _ _ (hW.grow (gal (gre _) _)) ?_).mono ?_; rfl; rintro e w1 ⟨hK1, h1⟩; obtain ⟨fz, f0, f1, f2, f3, ff⟩ := hF.kept hK1 (by omega); obtain ⟨hf, rfl, hW1⟩ | ⟨hno, rfl⟩ := h1)
    | (go_at_call 116; refine (writeNumber_any b a (xs ++ [4]) node _ _ hW1 ?_ (by omega)).mono ?_; (first | rfl | exact e6 | trace_state); rintro e w3 ⟨hK3, ⟨hf3, rfl, hW3⟩ | ⟨hno3, rfl⟩⟩))
  · go_end0
    exact WPost.ok (kt (kt ((Kept.refl _ w).alloc _) hK1) hK3) (by rw [List.append_assoc] at hW3; exact hW3)
  · exact ⟨rfl, WPost.no (kt (kt ((Kept.refl _ w).alloc _) hK1) hK3) (by simp at hno3 ⊢; omega)⟩
  · exact ⟨rfl, WPost.no (kt ((Kept.refl _ w).alloc _) hK1) (by simp at hno ⊢; omega)⟩

set_option maxRecDepth 100000 in
theorem writeVal_text (b a : Nat) (xs : List Nat) (text : ByteArray) (w : World) (hW : Wr w b a xs) (hn : text.size ≤ 1000) :
    Calls Try.prog 117 #[.pointer (some ⟨b, 0, none⟩), (GV.mk 3 0 text 0).val] w (WPost b a xs (3 :: (numB text.size ++ bsOf text)) w) := by
  have hF := Four.new w ⟨3, 0, text, 0⟩ 24
  have hlt := hW.cur.lt
  have hla := hW.row.lt
  have e6 : IntKind.u64.wrap (text.size : Int) = (text.size : Int) := by rw [IntKind.wrap_u64]; omega
  go_enter Try.func117, Try.ntmps117
  go_wp2_with (first
    | (go_at_call 118; refine (writeByte_any b a xs 3 _ _ (hW.grow (gal (gre _) _)) ?_).mono ?_; rfl; rintro e w1 ⟨hK1, h1⟩; have hF1 := hF.kept hK1 (by omega); obtain ⟨fz, f0, f1, f2, f3, ff⟩ := id hF1; obtain ⟨hf, rfl, hW1⟩ | ⟨hno, rfl⟩ := h1)
    | (go_at_call 116; refine (writeNumber_any b a (xs ++ [3]) text.size _ _ hW1 ?_ (by omega)).mono ?_; (first | rfl | exact e6 | trace_state); rintro e w3 ⟨hK3, h3⟩; obtain ⟨gz, g0, g1, g2, g3, gf⟩ := hF1.kept hK3 (by omega); obtain ⟨hf3, rfl, hW3⟩ | ⟨hno3, rfl⟩ := h3)
    | (go_at_call 93; refine (writeText_any b a (xs ++ [3] ++ numB text.size) text _ hW3 hn).mono ?_; rintro e w4 ⟨hK4, ⟨hf4, rfl, hW4⟩ | ⟨hno4, rfl⟩⟩))
  · go_end0
    exact WPost.ok (kt (kt (kt ((Kept.refl _ w).alloc _) hK1) hK3) hK4) (by rw [List.append_assoc, List.append_assoc] at hW4; exact hW4)
  · exact ⟨rfl, WPost.no (kt (kt (kt ((Kept.refl _ w).alloc _) hK1) hK3) hK4) (by simp at hno4 ⊢; omega)⟩
  · exact ⟨rfl, WPost.no (kt (kt ((Kept.refl _ w).alloc _) hK1) hK3) (by simp at hno3 ⊢; omega)⟩
  · exact ⟨rfl, WPost.no (kt ((Kept.refl _ w).alloc _) hK1) (by simp at hno ⊢; omega)⟩

set_option maxRecDepth 100000 in
/-- a well made value is one of five -/
theorem okV_cases {n : Nat} {v : GV} (h : okV n v = true) : v = ⟨0, 0, ⟨#[]⟩, 0⟩ ∨ (∃ m, v = ⟨1, m, ⟨#[]⟩, 0⟩) ∨ (∃ m, v = ⟨2, m, ⟨#[]⟩, 0⟩) ∨ (∃ t, t.size ≤ 1000 ∧ v = ⟨3, 0, t, 0⟩) ∨ (∃ k : Nat, k < n ∧ v = ⟨4, 0, ⟨#[]⟩, k⟩) := by
  obtain ⟨k, m, t, d⟩ := v
  unfold okV at h
  dsimp only at h
  split at h
  · rename_i hk
    obtain ⟨h1, h2, h3⟩ := of_decide_eq_true h
    exact Or.inl (by rw [hk, h1, text_empty h2, h3])
  · split at h
    · rename_i hk
      obtain ⟨h2, h3⟩ := of_decide_eq_true h
      rcases hk with hk | hk
      · exact Or.inr (Or.inl ⟨m, by rw [hk, text_empty h2, h3]⟩)
      · exact Or.inr (Or.inr (Or.inl ⟨m, by rw [hk, text_empty h2, h3]⟩))
    · split at h
      · rename_i hk
        obtain ⟨h1, h2, h3⟩ := of_decide_eq_true h
        exact Or.inr (Or.inr (Or.inr (Or.inl ⟨t, h3, by rw [hk, h1, h2]⟩)))
      · split at h
        · rename_i hk
          obtain ⟨h1, h2, h3, h4⟩ := of_decide_eq_true h
          exact Or.inr (Or.inr (Or.inr (Or.inr ⟨d.toNat, by omega, by rw [hk, h1, text_empty h2, show ((d.toNat : Nat) : Int) = d by omega]⟩)))
        · cases h

set_option maxRecDepth 100000 in
theorem writeVal_any (b a n : Nat) (xs : List Nat) (v : GV) (w : World) (hW : Wr w b a xs) (hn : n ≤ 300) (ho : v.Ok) (hv : okV n v = true) :
    Calls Try.prog 117 #[.pointer (some ⟨b, 0, none⟩), v.val] w (WPost b a xs (valB v) w) := by
  rcases okV_cases hv with rfl | ⟨m, rfl⟩ | ⟨m, rfl⟩ | ⟨t, ht, rfl⟩ | ⟨k, hk, rfl⟩
  · exact writeVal_nil b a xs w hW
  · exact writeVal_num b a xs m w hW ho.num
  · exact writeVal_bits b a xs m w hW ho.num
  · exact writeVal_text b a xs t w hW ht
  · exact writeVal_node b a xs k w hW (by omega)

end Go.Proofs.Ythjddpkegooobaa

/-
  CANONOK: the one form is of the sizes of what it comes from. Own work.
-/
namespace Go.Proofs.Ythjddpkegooobaa
open Go.RowKit

theorem canonN_all {nodes : List GN} {ord0 : List Nat} {p : GN → Prop} (h0 : InvO nodes.length ord0) (hn : ∀ n, n ∈ nodes → okN nodes.length n = true) (hp : ∀ (ord : List Nat) (n : GN), InvO nodes.length ord → n ∈ nodes → p ⟨n.tag, renVals ord n.vals⟩) : ∀ (k : Nat) (n : GN), n ∈ canonN nodes ord0 k → p n
  | 0, n, hx => by unfold canonN at hx; cases hx
  | k + 1, n, hx => by
    rw [canonN_succ] at hx
    have hi := canonO_inv h0 hn k
    split at hx
    · rename_i hlt
      rcases List.mem_append.1 hx with h | h
      · exact canonN_all h0 hn hp k n h
      · rw [List.mem_singleton] at h
        rw [h]
        exact hp _ _ hi (mem_at (hi.2 _ (mem_at hlt)))
    · exact canonN_all h0 hn hp k n hx

theorem canonN_length (nodes : List GN) (ord0 : List Nat) : ∀ k, (canonN nodes ord0 k).length ≤ k
  | 0 => by unfold canonN; simp
  | k + 1 => by
    have := canonN_length nodes ord0 k
    rw [canonN_succ]
    split
    · simp; omega
    · omega

theorem canon_all {g : GG} {p : GN → Prop} (hok : okG g = true) (hp : ∀ (ord : List Nat) (n : GN), InvO g.nodes.length ord → n ∈ g.nodes → p ⟨n.tag, renVals ord n.vals⟩) : ∀ n, n ∈ (canon g).nodes → p n := fun n hn => by
  obtain ⟨_, h2, h3⟩ := okG_parts hok
  exact canonN_all ((InvO.nil _).ren h2) h3 hp g.nodes.length n hn

theorem canon_small {g : GG} (hok : okG g = true) : (canon g).nodes.length ≤ 300 ∧ ∀ n, n ∈ (canon g).nodes → n.vals.length ≤ 100 := by
  obtain ⟨h1, _, h3⟩ := okG_parts hok
  refine ⟨?_, canon_all hok (fun ord n _ hn => ?_)⟩
  · have := canonN_length g.nodes (renOrd [] g.root) g.nodes.length
    unfold canon
    simp only
    omega
  · simp only [renVals_length]
    exact (okN_parts (h3 n hn)).1

theorem renVal_ok {n : Nat} {ord : List Nat} {v : GV} (hv : v.Ok) (hk : okV n v = true) (hinv : InvO n ord) (hn : n ≤ 300) : (renVal ord v).Ok := by
  unfold renVal
  split
  · have h1 := (hinv.ren hk).le
    have h2 := List.idxOf_le_length (a := v.node.toNat) (l := renOrd ord v)
    exact ⟨hv.1, hv.2, hv.3, by unfold I64; simp only; omega⟩
  · exact hv

theorem renVals_ok {n : Nat} {ord : List Nat} {l : List GV} (hv : ∀ v, v ∈ l → v.Ok) (hk : ∀ v, v ∈ l → okV n v = true) (hinv : InvO n ord) (hn : n ≤ 300) : ∀ v, v ∈ renVals ord l → v.Ok := by
  induction l generalizing ord with
  | nil => intro v hx; unfold renVals at hx; cases hx
  | cons y r ih =>
    intro v hx
    unfold renVals at hx
    rcases List.mem_cons.1 hx with h | h
    · rw [h]; exact renVal_ok (hv y (List.mem_cons_self ..)) (hk y (List.mem_cons_self ..)) hinv hn
    · exact ih (fun z hz => hv z (List.mem_cons_of_mem _ hz)) (fun z hz => hk z (List.mem_cons_of_mem _ hz)) (hinv.ren (hk y (List.mem_cons_self ..))) v h

theorem canon_ok {g : GG} (hg : g.Ok) (hok : okG g = true) : (canon g).Ok := by
  obtain ⟨h1, h2, h3⟩ := okG_parts hok
  have hs := canon_small hok
  refine ⟨renVal_ok hg.root h2 (InvO.nil _) h1, by unfold maxLen; omega, canon_all hok (fun ord n hi hn => ?_)⟩
  have h4 := okN_parts (h3 n hn)
  exact ⟨(hg.nodes n hn).tag, by simp only [renVals_length]; exact (hg.nodes n hn).len, renVals_ok (hg.nodes n hn).vals h4.2 hi h1⟩

end Go.Proofs.Ythjddpkegooobaa

/-
  CANONOK2: a graph's one form is well made. Own work.
-/
namespace Go.Proofs.Ythjddpkegooobaa

theorem okV_mono {n m : Nat} {v : GV} (h : okV n v = true) (hm : n ≤ m) : okV m v = true := by
  rcases okV_cases h with rfl | ⟨k, rfl⟩ | ⟨k, rfl⟩ | ⟨t, ht, rfl⟩ | ⟨k, hk, rfl⟩
  · exact h
  · exact h
  · exact h
  · exact h
  · unfold okV at h ⊢
    simp only at h ⊢
    have h1 := of_decide_eq_true h
    exact decide_eq_true ⟨h1.1, h1.2.1, h1.2.2.1, by omega⟩

theorem mem_renOrd {ord : List Nat} {v : GV} (hk : v.kind = 4) : v.node.toNat ∈ renOrd ord v := by
  unfold renOrd
  split
  · simp
  · rename_i h
    by_cases hm : v.node.toNat ∈ ord
    · exact hm
    · exact absurd ⟨hk, hm⟩ h

theorem okV_ren {n m : Nat} {ord : List Nat} {v : GV} (h : okV n v = true) (hm : (renOrd ord v).length ≤ m) : okV m (renVal ord v) = true := by
  rcases okV_cases h with rfl | ⟨k, rfl⟩ | ⟨k, rfl⟩ | ⟨t, ht, rfl⟩ | ⟨k, hk, rfl⟩
  · exact h
  · exact h
  · exact h
  · exact h
  · have h1 : (renOrd ord ⟨4, 0, ⟨#[]⟩, (k : Int)⟩).idxOf k < (renOrd ord ⟨4, 0, ⟨#[]⟩, (k : Int)⟩).length := List.idxOf_lt_length_of_mem (mem_renOrd (v := ⟨4, 0, ⟨#[]⟩, (k : Int)⟩) rfl)
    unfold renVal
    rw [if_pos rfl]
    have h2 : okV n ⟨4, 0, ⟨#[]⟩, (k : Int)⟩ = true := h
    unfold okV at h2 ⊢
    simp only at h2 ⊢
    have h3 := of_decide_eq_true h2
    refine decide_eq_true ⟨h3.1, h3.2.1, by omega, ?_⟩
    simp only [Int.toNat_natCast]
    omega

theorem okVs_ren {n m : Nat} {ord : List Nat} {l : List GV} (h : ∀ v, v ∈ l → okV n v = true) (hm : (renOrds ord l).length ≤ m) : ∀ v, v ∈ renVals ord l → okV m v = true := by
  induction l generalizing ord with
  | nil => intro v hv; cases hv
  | cons x r ih =>
    intro v hv
    have h1 : (renOrd ord x).length ≤ (renOrds (renOrd ord x) r).length := renOrds_le _ _
    have h2 : (renOrds (renOrd ord x) r).length ≤ m := hm
    rcases List.mem_cons.1 hv with rfl | hv
    · exact okV_ren (h x (List.mem_cons_self ..)) (by omega)
    · exact ih (fun y hy => h y (List.mem_cons_of_mem _ hy)) h2 v hv

theorem okN_mk {m : Nat} {x : GN} (h1 : 0 ≤ x.tag ∧ x.tag ≤ 1000) (h2 : x.vals.length ≤ 100) (h3 : ∀ v, v ∈ x.vals → okV m v = true) : okN m x = true := by
  unfold okN
  simp only [Bool.and_eq_true, decide_eq_true_eq, List.all_eq_true]
  exact ⟨⟨h1.1, h1.2, h2⟩, h3⟩
theorem okN_tag' {n : Nat} {x : GN} (h : okN n x = true) : 0 ≤ x.tag ∧ x.tag ≤ 1000 := by
  unfold okN at h
  simp only [Bool.and_eq_true, decide_eq_true_eq, List.all_eq_true] at h
  exact ⟨h.1.1, h.1.2.1⟩
theorem okN_mono {n m : Nat} {x : GN} (h : okN n x = true) (hm : n ≤ m) : okN m x = true :=
  okN_mk (okN_tag' h) (okN_parts h).1 (fun v hv => okV_mono ((okN_parts h).2 v hv) hm)

theorem canonO_le (nodes : List GN) (ord0 : List Nat) (k : Nat) : (canonO nodes ord0 k).length ≤ (canonO nodes ord0 (k + 1)).length := by
  rw [canonO_succ]
  split
  · exact renOrds_le _ _
  · exact Nat.le_refl _
theorem canonO_mono (nodes : List GN) (ord0 : List Nat) {k m : Nat} (h : k ≤ m) : (canonO nodes ord0 k).length ≤ (canonO nodes ord0 m).length := by
  induction h with
  | refl => exact Nat.le_refl _
  | step _ ih => exact Nat.le_trans ih (canonO_le _ _ _)

theorem canonN_len (nodes : List GN) (ord0 : List Nat) : ∀ k, (canonN nodes ord0 k).length = min k (canonO nodes ord0 k).length
  | 0 => by unfold canonN; simp
  | k + 1 => by
    have ih := canonN_len nodes ord0 k
    have hle := canonO_le nodes ord0 k
    rw [canonN_succ]
    by_cases h : k < (canonO nodes ord0 k).length
    · rw [if_pos h, List.length_append, ih, List.length_singleton]
      omega
    · have e : canonO nodes ord0 (k + 1) = canonO nodes ord0 k := by rw [canonO_succ, if_neg h]
      rw [if_neg h, ih, e]
      omega

theorem canonN_ok {nodes : List GN} {ord0 : List Nat} (h0 : InvO nodes.length ord0) (hn : ∀ n, n ∈ nodes → okN nodes.length n = true) : ∀ k x, x ∈ canonN nodes ord0 k → okN (canonO nodes ord0 k).length x = true
  | 0, x, hx => by unfold canonN at hx; cases hx
  | k + 1, x, hx => by
    have hle := canonO_le nodes ord0 k
    have hinv := canonO_inv h0 hn k
    rw [canonN_succ] at hx
    by_cases h : k < (canonO nodes ord0 k).length
    · rw [if_pos h] at hx
      rcases List.mem_append.1 hx with hx | hx
      · exact okN_mono (canonN_ok h0 hn k x hx) hle
      · have e : canonO nodes ord0 (k + 1) = renOrds (canonO nodes ord0 k) (nodes[(canonO nodes ord0 k)[k]!]!).vals := by rw [canonO_succ, if_pos h]
        have hm := hn _ (mem_at (hinv.2 _ (mem_at h)))
        have ht := okN_tag' hm
        rw [List.mem_singleton.1 hx, e]
        exact okN_mk ht (by rw [renVals_length]; exact (okN_parts hm).1) (okVs_ren (okN_parts hm).2 (Nat.le_refl _))
    · rw [if_neg h] at hx
      exact okN_mono (canonN_ok h0 hn k x hx) hle

theorem canon_okG {g : GG} (hok : okG g = true) : okG (canon g) = true := by
  obtain ⟨hn, hroot, hnodes⟩ := okG_parts hok
  have h0 : InvO g.nodes.length (renOrd [] g.root) := (InvO.nil _).ren hroot
  have hlen : (canon g).nodes.length = (canonO g.nodes (renOrd [] g.root) g.nodes.length).length := by
    have h1 := canonN_len g.nodes (renOrd [] g.root) g.nodes.length
    have h2 := (canonO_inv h0 hnodes g.nodes.length).le
    show (canonN g.nodes (renOrd [] g.root) g.nodes.length).length = _
    omega
  have hr : okV (canon g).nodes.length (canon g).root = true := by
    rw [hlen]
    refine okV_ren hroot ?_
    have h1 := canonO_mono g.nodes (renOrd [] g.root) (Nat.zero_le g.nodes.length)
    rw [show canonO g.nodes (renOrd [] g.root) 0 = renOrd [] g.root by unfold canonO; rfl] at h1
    exact h1
  have ha : ∀ x, x ∈ (canon g).nodes → okN (canon g).nodes.length x = true := by
    rw [hlen]
    exact canonN_ok h0 hnodes _
  unfold okG
  simp only [Bool.and_eq_true, decide_eq_true_eq, List.all_eq_true]
  exact ⟨⟨(canon_small hok).1, hr⟩, ha⟩

/-! how long an image may be -/
theorem valB_len {n : Nat} {v : GV} (hn : n ≤ 300) (ho : v.Ok) (h : okV n v = true) : (valB v).length ≤ 1011 := by
  rcases okV_cases h with rfl | ⟨k, rfl⟩ | ⟨k, rfl⟩ | ⟨t, ht, rfl⟩ | ⟨k, hk, rfl⟩
  · show 1 ≤ 1011; omega
  · show (numB (zig k)).length + 1 ≤ 1011
    have := numB_len 10 (zig k) (Nat.lt_of_lt_of_le (zig_lt ho.num) (by decide)) (by omega)
    omega
  · show (lowB 8 (u64n k)).length + 1 ≤ 1011
    rw [lowB_length]; omega
  · show (numB t.size ++ bsOf t).length + 1 ≤ 1011
    have := numB_len 10 t.size (Nat.lt_of_le_of_lt ht (by decide)) (by omega)
    rw [List.length_append, bsOf_length]
    omega
  · show (numB k).length + 1 ≤ 1011
    have := numB_len 10 k (Nat.lt_of_lt_of_le (show k < 300 by omega) (by decide)) (by omega)
    omega
theorem valsB_len {n : Nat} {l : List GV} (hn : n ≤ 300) (ho : ∀ v, v ∈ l → v.Ok) (h : ∀ v, v ∈ l → okV n v = true) : (valsB l).length ≤ 1011 * l.length := by
  induction l with
  | nil => simp [valsB]
  | cons x r ih =>
    have h1 := valB_len hn (ho x (List.mem_cons_self ..)) (h x (List.mem_cons_self ..))
    have h2 := ih (fun v hv => ho v (List.mem_cons_of_mem _ hv)) (fun v hv => h v (List.mem_cons_of_mem _ hv))
    simp only [valsB, List.length_append, List.length_cons]
    omega
theorem nodeB_len {n : Nat} {x : GN} (hn : n ≤ 300) (ho : x.Ok) (h : okN n x = true) : (nodeB x).length ≤ 102000 := by
  have h1 := valsB_len hn ho.vals (okN_parts h).2
  have h2 := (okN_parts h).1
  have h3 := okN_tag' h
  have h4 := numB_len 10 x.tag.toNat (Nat.lt_of_le_of_lt (show x.tag.toNat ≤ 1000 by omega) (by decide)) (by omega)
  have h5 := numB_len 10 x.vals.length (Nat.lt_of_le_of_lt h2 (by decide)) (by omega)
  simp only [nodeB, List.length_append]
  omega
theorem nodesB_len {n : Nat} {l : List GN} (hn : n ≤ 300) (ho : ∀ v, v ∈ l → v.Ok) (h : ∀ v, v ∈ l → okN n v = true) : (nodesB l).length ≤ 102000 * l.length := by
  induction l with
  | nil => simp [nodesB]
  | cons x r ih =>
    have h1 := nodeB_len hn (ho x (List.mem_cons_self ..)) (h x (List.mem_cons_self ..))
    have h2 := ih (fun v hv => ho v (List.mem_cons_of_mem _ hv)) (fun v hv => h v (List.mem_cons_of_mem _ hv))
    simp only [nodesB, List.length_append, List.length_cons]
    omega
theorem graphB_len {g : GG} (ho : g.Ok) (hok : okG g = true) : (graphB g).length ≤ 40000000 := by
  obtain ⟨hn, hroot, hnodes⟩ := okG_parts hok
  have h1 := nodesB_len hn ho.nodes hnodes
  have h2 := valB_len hn ho.root hroot
  have h3 := numB_len 10 g.nodes.length (Nat.lt_of_le_of_lt hn (by decide)) (by omega)
  simp only [graphB, List.length_append, List.length_cons, List.length_nil]
  omega

end Go.Proofs.Ythjddpkegooobaa

/-
  RDOK: what is read fits; images are read back. Own work.
-/
namespace Go.Proofs.Ythjddpkegooobaa

theorem zag_i64 {n : Nat} (h : n < 18446744073709551616) : I64 (zag n) := by unfold I64 zag; split <;> omega
theorem wrap_i64_ok (n : Int) : I64 (IntKind.i64.wrap n) := by rw [IntKind.wrap_i64]; unfold I64; omega
theorem orI_i64 (n : Int) (b i : Nat) : I64 (orI n b i) := wrap_i64_ok _
theorem rdLow_i64 : ∀ (k i : Nat) (n : Int) (r : List Nat) (x : Int) (q : List Nat), I64 n → rdLow k i n r = some (x, q) → I64 x
  | 0, _, n, r, x, q, hn, h => by
    have e : n = x ∧ r = q := by simpa [rdLow] using h
    rw [← e.1]; exact hn
  | k + 1, _, _, [], _, _, _, h => by cases h
  | k + 1, i, n, b :: r, x, q, _, h => rdLow_i64 k (i + 1) (orI n b i) r x q (orI_i64 n b i) h
theorem strB_sizeR (xs : List Nat) : (strB xs).size = xs.length := by unfold strB; rw [Go.strOfNums_size, List.length_map]
theorem small_i64 {n : Int} (h : 0 ≤ n ∧ n ≤ 1000000) : I64 n := by unfold I64; omega
theorem zero_ok {n : Nat} (h : n ≤ 4) (m : Int) (hm : I64 m) (t : ByteArray) (ht : t.size ≤ 1000) (d : Int) (hd : I64 d) : (GV.mk (n : Int) m t d).Ok := ⟨small_i64 (by show 0 ≤ (n : Int) ∧ (n : Int) ≤ 1000000; omega), hm, by show t.size ≤ maxLen; unfold maxLen; omega, hd⟩

theorem rdVal_ok {r q : List Nat} {v : GV} (h : rdVal r = some (v, q)) : v.Ok := by
  have h0 : I64 0 := small_i64 (by omega)
  have hz : (⟨#[]⟩ : ByteArray).size ≤ 1000 := Nat.zero_le _
  cases r with
  | nil => cases h
  | cons k t =>
    unfold rdVal at h
    dsimp only at h
    split at h
    · simp only [Option.some.injEq, Prod.mk.injEq] at h
      rw [← h.1]; exact zero_ok (n := 0) (by omega) 0 h0 _ hz 0 h0
    · split at h
      · cases hq : rdNum 0 0 t with
        | none => rw [hq] at h; cases h
        | some y =>
          rw [hq] at h
          simp only [Option.map_some, Option.some.injEq, Prod.mk.injEq] at h
          rw [← h.1]; exact zero_ok (n := 1) (by omega) _ (zag_i64 (rdNum_lt 0 0 t y.1 y.2 (by omega) hq)) _ hz 0 h0
      · split at h
        · cases hq : rdLow 8 0 0 t with
          | none => rw [hq] at h; cases h
          | some y =>
            rw [hq] at h
            simp only [Option.map_some, Option.some.injEq, Prod.mk.injEq] at h
            rw [← h.1]; exact zero_ok (n := 2) (by omega) _ (rdLow_i64 8 0 0 t y.1 y.2 h0 hq) _ hz 0 h0
        · split at h
          · cases hq : rdCount 1000 t with
            | none => rw [hq] at h; cases h
            | some y =>
              rw [hq, Option.bind_some] at h
              cases hq2 : rdText y.1 y.2 with
              | none => rw [hq2] at h; cases h
              | some z =>
                rw [hq2] at h
                simp only [Option.map_some, Option.some.injEq, Prod.mk.injEq] at h
                have hz1 : z.1.size ≤ 1000 := by
                  have h1 := rdCount_le (n := y.1) (q := y.2) hq
                  unfold rdText at hq2
                  split at hq2
                  · have e2 : strB (y.2.take y.1) = z.1 := by simpa using congrArg (fun o => o.map Prod.fst) hq2
                    rw [← e2, strB_sizeR, List.length_take]; omega
                  · cases hq2
                rw [← h.1]; exact zero_ok (n := 3) (by omega) 0 h0 _ hz1 0 h0
          · split at h
            · cases hq : rdCount 300 t with
              | none => rw [hq] at h; cases h
              | some y =>
                rw [hq] at h
                simp only [Option.map_some, Option.some.injEq, Prod.mk.injEq] at h
                have h1 := rdCount_le (n := y.1) (q := y.2) hq
                rw [← h.1]; exact zero_ok (n := 4) (by omega) 0 h0 _ hz _ (small_i64 (by omega))
            · cases h

theorem rdVals_ok : ∀ (m : Nat) (r q : List Nat) (vs : List GV), rdVals m r = some (vs, q) → vs.length = m ∧ ∀ v, v ∈ vs → v.Ok
  | 0, r, q, vs, h => by
    have e : [] = vs := by simpa [rdVals] using congrArg (fun o => o.map Prod.fst) h
    rw [← e]; exact ⟨rfl, fun v hv => by cases hv⟩
  | m + 1, r, q, vs, h => by
    rw [rdVals] at h
    cases hv : rdVal r with
    | none => rw [hv] at h; cases h
    | some x =>
      rw [hv, Option.bind_some] at h
      cases hw : rdVals m x.2 with
      | none => rw [hw] at h; cases h
      | some y =>
        rw [hw] at h
        have e : x.1 :: y.1 = vs := by simpa using congrArg (fun o => o.map Prod.fst) h
        obtain ⟨h1, h2⟩ := rdVals_ok m x.2 y.2 y.1 hw
        rw [← e]
        refine ⟨by rw [List.length_cons, h1], fun v hm => ?_⟩
        rcases List.mem_cons.1 hm with rfl | hm
        · exact rdVal_ok (q := x.2) hv
        · exact h2 v hm
theorem rdNode_ok {r q : List Nat} {n : GN} (h : rdNode r = some (n, q)) : n.Ok := by
  unfold rdNode at h
  cases ht : rdCount 1000 r with
  | none => rw [ht] at h; cases h
  | some t =>
    rw [ht, Option.bind_some] at h
    cases hm : rdCount 100 t.2 with
    | none => rw [hm] at h; cases h
    | some m =>
      rw [hm, Option.bind_some] at h
      cases hv : rdVals m.1 m.2 with
      | none => rw [hv] at h; cases h
      | some y =>
        rw [hv] at h
        have e : (⟨(t.1 : Int), y.1⟩ : GN) = n := by simpa using congrArg (fun o => o.map Prod.fst) h
        obtain ⟨h1, h2⟩ := rdVals_ok m.1 m.2 y.2 y.1 hv
        have h3 := rdCount_le (n := t.1) (q := t.2) ht
        have h4 := rdCount_le (n := m.1) (q := m.2) hm
        rw [← e]
        exact ⟨small_i64 (by show 0 ≤ (t.1 : Int) ∧ (t.1 : Int) ≤ 1000000; omega), by show y.1.length ≤ maxLen; unfold maxLen; omega, h2⟩
theorem rdNodes_ok : ∀ (m : Nat) (r q : List Nat) (ns : List GN), rdNodes m r = some (ns, q) → ns.length = m ∧ ∀ n, n ∈ ns → n.Ok
  | 0, r, q, vs, h => by
    have e : [] = vs := by simpa [rdNodes] using congrArg (fun o => o.map Prod.fst) h
    rw [← e]; exact ⟨rfl, fun v hv => by cases hv⟩
  | m + 1, r, q, vs, h => by
    rw [rdNodes] at h
    cases hv : rdNode r with
    | none => rw [hv] at h; cases h
    | some x =>
      rw [hv, Option.bind_some] at h
      cases hw : rdNodes m x.2 with
      | none => rw [hw] at h; cases h
      | some y =>
        rw [hw] at h
        have e : x.1 :: y.1 = vs := by simpa using congrArg (fun o => o.map Prod.fst) h
        obtain ⟨h1, h2⟩ := rdNodes_ok m x.2 y.2 y.1 hw
        rw [← e]
        refine ⟨by rw [List.length_cons, h1], fun v hm => ?_⟩
        rcases List.mem_cons.1 hm with rfl | hm
        · exact rdNode_ok (q := x.2) hv
        · exact h2 v hm
theorem rdGraph_ok {r q : List Nat} {g : GG} (h : rdGraph r = some (g, q)) : g.Ok := by
  unfold rdGraph at h
  cases ht : rdText 2 r with
  | none => rw [ht] at h; cases h
  | some t =>
    rw [ht, Option.bind_some] at h
    split at h
    · cases hm : rdCount 300 t.2 with
      | none => rw [hm] at h; cases h
      | some m =>
        rw [hm, Option.bind_some] at h
        cases hv : rdVal m.2 with
        | none => rw [hv] at h; cases h
        | some x =>
          rw [hv, Option.bind_some] at h
          cases hn : rdNodes m.1 x.2 with
          | none => rw [hn] at h; cases h
          | some y =>
            rw [hn] at h
            have e : (⟨x.1, y.1⟩ : GG) = g := by simpa using congrArg (fun o => o.map Prod.fst) h
            obtain ⟨h1, h2⟩ := rdNodes_ok m.1 x.2 y.2 y.1 hn
            have h4 := rdCount_le (n := m.1) (q := m.2) hm
            rw [← e]
            exact ⟨rdVal_ok (q := x.2) hv, by show y.1.length ≤ maxLen; unfold maxLen; omega, h2⟩
    · cases h

/-! images are read back -/
theorem rdVal_back {n : Nat} {v : GV} (hn : n ≤ 300) (ho : v.Ok) (h : okV n v = true) (r : List Nat) : rdVal (valB v ++ r) = some (v, r) := by
  rcases okV_cases h with rfl | ⟨m, rfl⟩ | ⟨m, rfl⟩ | ⟨t, ht, rfl⟩ | ⟨k, hk, rfl⟩
  · rfl
  · show rdVal (1 :: (numB (zig m) ++ r)) = _
    simp [rdVal, rdNum_num (zig_lt ho.num), zag_zig]
  · show rdVal (2 :: (lowB 8 (u64n m) ++ r)) = _
    simp [rdVal, rdLow_word ho.num]
  · show rdVal (3 :: (numB t.size ++ bsOf t ++ r)) = _
    rw [List.append_assoc]
    simp [rdVal, rdCount_num (most := 1000) ht (by omega), rdText_bs]
  · show rdVal (4 :: (numB k ++ r)) = _
    simp [rdVal, rdCount_num (m := k) (most := 300) (by omega) (by omega)]
theorem rdVals_back {n : Nat} (hn : n ≤ 300) : ∀ (l : List GV) (r : List Nat), (∀ v, v ∈ l → v.Ok) → (∀ v, v ∈ l → okV n v = true) → rdVals l.length (valsB l ++ r) = some (l, r)
  | [], r, _, _ => rfl
  | v :: l, r, ho, h => by
    show rdVals (l.length + 1) (valB v ++ valsB l ++ r) = _
    rw [rdVals, List.append_assoc, rdVal_back hn (ho v (List.mem_cons_self ..)) (h v (List.mem_cons_self ..)), Option.bind_some, rdVals_back hn l r (fun x hx => ho x (List.mem_cons_of_mem _ hx)) (fun x hx => h x (List.mem_cons_of_mem _ hx))]
    rfl
theorem rdNode_back {n : Nat} (hn : n ≤ 300) {x : GN} (ho : x.Ok) (h : okN n x = true) (r : List Nat) : rdNode (nodeB x ++ r) = some (x, r) := by
  obtain ⟨h1, h2⟩ := okN_parts h
  have h3 := okN_tag' h
  unfold rdNode nodeB
  rw [List.append_assoc, List.append_assoc, rdCount_num (m := x.tag.toNat) (most := 1000) (by omega) (by omega), Option.bind_some]
  dsimp only
  rw [rdCount_num (m := x.vals.length) (most := 100) h1 (by omega), Option.bind_some]
  dsimp only
  rw [rdVals_back hn x.vals r ho.vals h2]
  show some ((⟨((x.tag.toNat : Nat) : Int), x.vals⟩ : GN), r) = _
  rw [show ((x.tag.toNat : Nat) : Int) = x.tag by omega]
theorem rdNodes_back {n : Nat} (hn : n ≤ 300) : ∀ (l : List GN) (r : List Nat), (∀ v, v ∈ l → v.Ok) → (∀ v, v ∈ l → okN n v = true) → rdNodes l.length (nodesB l ++ r) = some (l, r)
  | [], r, _, _ => rfl
  | v :: l, r, ho, h => by
    show rdNodes (l.length + 1) (nodeB v ++ nodesB l ++ r) = _
    rw [rdNodes, List.append_assoc, rdNode_back hn (ho v (List.mem_cons_self ..)) (h v (List.mem_cons_self ..)), Option.bind_some, rdNodes_back hn l r (fun x hx => ho x (List.mem_cons_of_mem _ hx)) (fun x hx => h x (List.mem_cons_of_mem _ hx))]
    rfl
theorem rdGraph_back {g : GG} (ho : g.Ok) (hok : okG g = true) (r : List Nat) : rdGraph (graphB g ++ r) = some (g, r) := by
  obtain ⟨hn, hroot, hnodes⟩ := okG_parts hok
  have e0 : rdText 2 (graphB g ++ r) = some (⟨#[72, 49]⟩, numB g.nodes.length ++ (valB g.root ++ (nodesB g.nodes ++ r))) := by
    have h1 := rdText_bs ⟨#[72, 49]⟩ (numB g.nodes.length ++ (valB g.root ++ (nodesB g.nodes ++ r)))
    have e : graphB g ++ r = bsOf ⟨#[72, 49]⟩ ++ (numB g.nodes.length ++ (valB g.root ++ (nodesB g.nodes ++ r))) := by unfold graphB; simp only [List.append_assoc]; rfl
    rw [e]; exact h1
  unfold rdGraph
  rw [e0, Option.bind_some, if_pos rfl]
  dsimp only
  rw [rdCount_num (m := g.nodes.length) (most := 300) hn (by omega), Option.bind_some]
  dsimp only
  rw [rdVal_back hn ho.root hroot, Option.bind_some]
  dsimp only
  rw [rdNodes_back hn g.nodes r ho.nodes hnodes]
  rfl

/-- what Unpack answers -/
def zeroG : GG := ⟨⟨0, 0, ⟨#[]⟩, 0⟩, []⟩
def unB (bs : List Nat) : Bool × GG :=
  match rdGraph bs with
  | some (g, _) => if packB g = bs then (true, g) else (false, zeroG)
  | none => (false, zeroG)

end Go.Proofs.Ythjddpkegooobaa
