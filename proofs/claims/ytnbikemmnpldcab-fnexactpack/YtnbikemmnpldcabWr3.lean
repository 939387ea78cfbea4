/-
  WR3: the program's writer: values. Own work.
-/
import Derived.Test.YtnbikemmnpldcabWr2
import Derived.Test.YtnbikemmnpldcabValOf
namespace Go.Proofs.Ytnbikemmnpldcab
open Go.RowKit

set_option maxRecDepth 100000 in
theorem WPost.ok {b a : Nat} {xs ys : List Nat} {w wk : World} (hK : Kept (fun k => k = b ∨ k = a) w wk) (hW : Wr wk b a (xs ++ ys)) : WPost b a xs ys w (.returned (.tuple #[])) wk :=
  ⟨hK, Or.inl ⟨by have := hW.le; rwa [List.length_append] at this, rfl, hW⟩⟩
theorem WPost.no {b a : Nat} {xs ys : List Nat} {w wk : World} (hK : Kept (fun k => k = b ∨ k = a) w wk) (hno : 4096 < xs.length + ys.length) : WPost b a xs ys w (.panicked [haltP]) wk :=
  ⟨hK, Or.inr ⟨hno, rfl⟩⟩
set_option maxRecDepth 100000 in
theorem kt {p : Nat → Prop} {w w' w'' : World} (h : Kept p w w') (k : Kept p w' w'') : Kept p w w'' := h.trans k (fun _ _ h => h)

theorem writeVal_nil (b a : Nat) (xs : List Nat)  (w : World) (hW : Wr w b a xs)  :
    Calls Try.prog 114 #[.pointer (some ⟨b, 0, none⟩), (GV.mk 0 0 ⟨#[]⟩ 0).val] w (WPost b a xs (0 :: []) w) := by
  have hF := Four.new w ⟨0, 0, ⟨#[]⟩, 0⟩ 30
  have hlt := hW.cur.lt
  have hla := hW.row.lt
  go_enter Try.func114, Try.ntmps114
  go_wp2_with (go_at_call 117; refine (writeByte_any b a xs 0 _ _ (hW.grow (gal (gre _) _)) ?_).mono ?_; rfl; rintro e w1 ⟨hK1, h1⟩; obtain ⟨fz, f0, f1, f2, f3, ff⟩ := hF.kept hK1 (by omega); obtain ⟨hf, rfl, hW1⟩ | ⟨hno, rfl⟩ := h1)
  · go_end0
    exact WPost.ok (kt ((Kept.refl _ w).alloc _) hK1) hW1
  · exact ⟨rfl, WPost.no (kt ((Kept.refl _ w).alloc _) hK1) hno⟩

set_option maxRecDepth 100000 in
theorem writeVal_num (b a : Nat) (xs : List Nat) (num : Int) (w : World) (hW : Wr w b a xs) (hn : I64 num) :
    Calls Try.prog 114 #[.pointer (some ⟨b, 0, none⟩), (GV.mk 1 num ⟨#[]⟩ 0).val] w (WPost b a xs (1 :: numB (zig num)) w) := by
  have hF := Four.new w ⟨1, num, ⟨#[]⟩, 0⟩ 30
  have hlt := hW.cur.lt
  have hla := hW.row.lt
  go_enter Try.func114, Try.ntmps114
  go_wp2_with (first
    | (go_at_call 117; refine (writeByte_any b a xs 1 _ _ (hW.grow (gal (gre _) _)) ?_).mono ?_; rfl; rintro e w1 ⟨hK1, h1⟩; obtain ⟨fz, f0, f1, f2, f3, ff⟩ := hF.kept hK1 (by omega); obtain ⟨hf, rfl, hW1⟩ | ⟨hno, rfl⟩ := h1)
    | (go_at_call 141; refine (unsigned_any num _ hn).mono ?_; rintro e w2 ⟨rfl, hb2⟩)
    | (go_at_call 113; refine (writeNumber_any b a (xs ++ [1]) (zig num) _ _ (hW1.grow hb2) rfl (zig_lt hn)).mono ?_; rintro e w3 ⟨hK3, ⟨hf3, rfl, hW3⟩ | ⟨hno3, rfl⟩⟩))
  · go_end0
    exact WPost.ok (kt (kt (kt ((Kept.refl _ w).alloc _) hK1) (Kept.of_below hb2 _)) hK3) (by rw [List.append_assoc] at hW3; exact hW3)
  · exact ⟨rfl, WPost.no (kt (kt (kt ((Kept.refl _ w).alloc _) hK1) (Kept.of_below hb2 _)) hK3) (by simp at hno3 ⊢; omega)⟩
  · exact ⟨rfl, WPost.no (kt ((Kept.refl _ w).alloc _) hK1) (by simp at hno ⊢; omega)⟩

set_option maxRecDepth 100000 in
theorem writeVal_bits (b a : Nat) (xs : List Nat) (num : Int) (w : World) (hW : Wr w b a xs) (hn : I64 num) :
    Calls Try.prog 114 #[.pointer (some ⟨b, 0, none⟩), (GV.mk 2 num ⟨#[]⟩ 0).val] w (WPost b a xs (2 :: lowB 8 (u64n num)) w) := by
  have hF := Four.new w ⟨2, num, ⟨#[]⟩, 0⟩ 30
  have hlt := hW.cur.lt
  have hla := hW.row.lt
  go_enter Try.func114, Try.ntmps114
  go_wp2_with (first
    | (go_at_call 117; refine (writeByte_any b a xs 2 _ _ (hW.grow (gal (gre _) _)) ?_).mono ?_; rfl; rintro e w1 ⟨hK1, h1⟩; obtain ⟨fz, f0, f1, f2, f3, ff⟩ := hF.kept hK1 (by omega); obtain ⟨hf, rfl, hW1⟩ | ⟨hno, rfl⟩ := h1)
    | (go_at_call 70; refine (writeWord_any b a (xs ++ [2]) num _ hW1 hn).mono ?_; rintro e w3 ⟨hK3, ⟨hf3, rfl, hW3⟩ | ⟨hno3, rfl⟩⟩))
  · go_end0
    exact WPost.ok (kt (kt ((Kept.refl _ w).alloc _) hK1) hK3) (by rw [List.append_assoc] at hW3; exact hW3)
  · exact ⟨rfl, WPost.no (kt (kt ((Kept.refl _ w).alloc _) hK1) hK3) (by simp at hno3 ⊢; omega)⟩
  · exact ⟨rfl, WPost.no (kt ((Kept.refl _ w).alloc _) hK1) (by simp at hno ⊢; omega)⟩

set_option maxRecDepth 100000 in
theorem writeVal_node (b a : Nat) (xs : List Nat) (node : Nat) (w : World) (hW : Wr w b a xs) (hn : node < 300) :
    Calls Try.prog 114 #[.pointer (some ⟨b, 0, none⟩), (GV.mk 4 0 ⟨#[]⟩ node).val] w (WPost b a xs (4 :: numB node) w) := by
  have hF := Four.new w ⟨4, 0, ⟨#[]⟩, node⟩ 30
  have hlt := hW.cur.lt
  have hla := hW.row.lt
  have e6 : IntKind.u64.wrap (node : Int) = (node : Int) := by rw [IntKind.wrap_u64]; omega
  go_enter Try.func114, Try.ntmps114
  go_wp2_with (first
    | (go_at_call 117; refine (writeByte_any b a xs 4 _ _ (hW.grow (gal (gre _) _)) ?_).mono ?_; rfl; rintro e w1 ⟨hK1, h1⟩; obtain ⟨fz, f0, f1, f2, f3, ff⟩ := hF.kept hK1 (by omega); obtain ⟨hf, rfl, hW1⟩ | ⟨hno, rfl⟩ := h1)
    | (go_at_call 113; refine (writeNumber_any b a (xs ++ [4]) node _ _ hW1 ?_ (by omega)).mono ?_; (first | rfl | exact e6 | trace_state); rintro e w3 ⟨hK3, ⟨hf3, rfl, hW3⟩ | ⟨hno3, rfl⟩⟩))
  · go_end0
    exact WPost.ok (kt (kt ((Kept.refl _ w).alloc _) hK1) hK3) (by rw [List.append_assoc] at hW3; exact hW3)
  · exact ⟨rfl, WPost.no (kt (kt ((Kept.refl _ w).alloc _) hK1) hK3) (by simp at hno3 ⊢; omega)⟩
  · exact ⟨rfl, WPost.no (kt ((Kept.refl _ w).alloc _) hK1) (by simp at hno ⊢; omega)⟩

set_option maxRecDepth 100000 in
theorem writeVal_text (b a : Nat) (xs : List Nat) (text : ByteArray) (w : World) (hW : Wr w b a xs) (hn : text.size ≤ 1000) :
    Calls Try.prog 114 #[.pointer (some ⟨b, 0, none⟩), (GV.mk 3 0 text 0).val] w (WPost b a xs (3 :: (numB text.size ++ bsOf text)) w) := by
  have hF := Four.new w ⟨3, 0, text, 0⟩ 30
  have hlt := hW.cur.lt
  have hla := hW.row.lt
  have e6 : IntKind.u64.wrap (text.size : Int) = (text.size : Int) := by rw [IntKind.wrap_u64]; omega
  go_enter Try.func114, Try.ntmps114
  go_wp2_with (first
    | (go_at_call 117; refine (writeByte_any b a xs 3 _ _ (hW.grow (gal (gre _) _)) ?_).mono ?_; rfl; rintro e w1 ⟨hK1, h1⟩; have hF1 := hF.kept hK1 (by omega); obtain ⟨fz, f0, f1, f2, f3, ff⟩ := id hF1; obtain ⟨hf, rfl, hW1⟩ | ⟨hno, rfl⟩ := h1)
    | (go_at_call 113; refine (writeNumber_any b a (xs ++ [3]) text.size _ _ hW1 ?_ (by omega)).mono ?_; (first | rfl | exact e6 | trace_state); rintro e w3 ⟨hK3, h3⟩; obtain ⟨gz, g0, g1, g2, g3, gf⟩ := hF1.kept hK3 (by omega); obtain ⟨hf3, rfl, hW3⟩ | ⟨hno3, rfl⟩ := h3)
    | (go_at_call 112; refine (writeText_any b a (xs ++ [3] ++ numB text.size) text _ hW3 hn).mono ?_; rintro e w4 ⟨hK4, ⟨hf4, rfl, hW4⟩ | ⟨hno4, rfl⟩⟩))
  · go_end0
    exact WPost.ok (kt (kt (kt ((Kept.refl _ w).alloc _) hK1) hK3) hK4) (by rw [List.append_assoc, List.append_assoc] at hW4; exact hW4)
  · exact ⟨rfl, WPost.no (kt (kt (kt ((Kept.refl _ w).alloc _) hK1) hK3) hK4) (by simp at hno4 ⊢; omega)⟩
  · exact ⟨rfl, WPost.no (kt (kt ((Kept.refl _ w).alloc _) hK1) hK3) (by simp at hno3 ⊢; omega)⟩
  · exact ⟨rfl, WPost.no (kt ((Kept.refl _ w).alloc _) hK1) (by simp at hno ⊢; omega)⟩

set_option maxRecDepth 100000 in
/-- a well made value is one of five -/
theorem okV_cases {n : Nat} {v : GV} (h : okV n v = true) : v = ⟨0, 0, ⟨#[]⟩, 0⟩ ∨ (∃ m, v = ⟨1, m, ⟨#[]⟩, 0⟩) ∨ (∃ m, v = ⟨2, m, ⟨#[]⟩, 0⟩) ∨ (∃ t, t.size ≤ 1000 ∧ v = ⟨3, 0, t, 0⟩) ∨ (∃ k : Nat, k < n ∧ v = ⟨4, 0, ⟨#[]⟩, k⟩) := by
  obtain ⟨k, m, t, d⟩ := v
  unfold okV at h
  dsimp only at h
  split at h
  · rename_i hk
    obtain ⟨h1, h2, h3⟩ := of_decide_eq_true h
    exact Or.inl (by rw [hk, h1, text_empty h2, h3])
  · split at h
    · rename_i hk
      obtain ⟨h2, h3⟩ := of_decide_eq_true h
      rcases hk with hk | hk
      · exact Or.inr (Or.inl ⟨m, by rw [hk, text_empty h2, h3]⟩)
      · exact Or.inr (Or.inr (Or.inl ⟨m, by rw [hk, text_empty h2, h3]⟩))
    · split at h
      · rename_i hk
        obtain ⟨h1, h2, h3⟩ := of_decide_eq_true h
        exact Or.inr (Or.inr (Or.inr (Or.inl ⟨t, h3, by rw [hk, h1, h2]⟩)))
      · split at h
        · rename_i hk
          obtain ⟨h1, h2, h3, h4⟩ := of_decide_eq_true h
          exact Or.inr (Or.inr (Or.inr (Or.inr ⟨d.toNat, by omega, by rw [hk, h1, text_empty h2, show ((d.toNat : Nat) : Int) = d by omega]⟩)))
        · cases h

set_option maxRecDepth 100000 in
theorem writeVal_any (b a n : Nat) (xs : List Nat) (v : GV) (w : World) (hW : Wr w b a xs) (hn : n ≤ 300) (ho : v.Ok) (hv : okV n v = true) :
    Calls Try.prog 114 #[.pointer (some ⟨b, 0, none⟩), v.val] w (WPost b a xs (valB v) w) := by
  rcases okV_cases hv with rfl | ⟨m, rfl⟩ | ⟨m, rfl⟩ | ⟨t, ht, rfl⟩ | ⟨k, hk, rfl⟩
  · exact writeVal_nil b a xs w hW
  · exact writeVal_num b a xs m w hW ho.num
  · exact writeVal_bits b a xs m w hW ho.num
  · exact writeVal_text b a xs t w hW ht
  · exact writeVal_node b a xs k w hW (by omega)

end Go.Proofs.Ytnbikemmnpldcab
