import Derived.Laws.Closers25b
import Derived.Deep.QuietTactic
import Derived.BigQuiet
import Derived.Deep.RegionHeld3
import Derived.WalkSmall
import Derived.WalkLawsBesides
import Derived.Test.YthjddpkegooobaaPartRoI

/-
  L6I: bytes that are an image, or nearly, drawn. Own work.
-/
namespace Go.Proofs.Ythjddpkegooobaa
open Go.RowKit

/-- bytes under way -/
def IInv (w : World) (b : Nat) (sa : Option Addr) (bs : List Nat) (cap at_ n : Nat) (ws : World) (v : Value) : Prop :=
  ∃ (ys : List Nat) (g c at' : Nat), v = .slice (some ⟨g, 0, none⟩) ys.length c ∧ 1 ≤ ys.length ∧ ys.length + n ≤ 50000000 ∧ (∀ x, x ∈ ys → x < 256) ∧ ws.ownsRow w.heap.size 5 1 (.slice (some ⟨g, 0, none⟩) ys.length c) ys.length (bcells ys) ∧ at' + 100 * n ≤ at_ + 16300 ∧ Hid (DK w ws b sa bs cap at')

theorem imageB_pos (g : GG) : 8 ≤ (imageB g).length := by
  unfold imageB formB
  rw [List.length_append, lowB_length]
  omega

set_option maxHeartbeats 8000000 in
set_option maxRecDepth 100000 in
theorem l6image_any (b : Nat) (sa : Option Addr) (bs : List Nat) (cap at_ : Nat) (w : World) (hc : DC w b sa bs cap at_) (hat : at_ + 20000 < 4611686018427387904) :
    Calls Try.prog 69 #[.pointer (some ⟨b, 0, none⟩)] w (BytesD w b sa bs cap at_) := by
  have hs0 := hc.lt
  obtain ⟨i0, hi, hz0, hz1, hz2⟩ := info_parts info_u8
  go_enter Try.func69, Try.ntmps69
  go_wp2_with (first
    | (go_at_call 54; refine (l6graph_any b sa bs cap at_ w hc (by omega)).mono ?_; rintro e w1 ⟨g, na, nc, nl, at1, rfl, hn, hg, hok, hO, ha1, hk1⟩)
    | (go_at_call 72; have hat1 := hO.at_; rw [hn] at hat1; refine (l2pack_any na nc g w1 hg hok hat1).mono ?_; rintro e w2 ⟨oa, oc, rfl, ho2, hb2⟩)
    | (go_at_call_of 52 ((3 : Int)); refine (l6pick_of b sa bs cap at1 3 3 w2 rfl (hk1.dc.kept (Kept.of_below hb2 (fun _ => False)) (fun e => e) (fun _ _ _ e => e)) (by omega) (by omega) (by omega)).mono ?_; rintro e w3 ⟨n, at3, hn3, ha3, rfl, hk3⟩))
  have hI0 : IInv w b sa bs cap at_ n w3 (.slice oa (imageB g).length oc) := by
    have h8 := imageB_pos g
    have hlen : (imageB g).length ≤ 40000008 := by
      have := graphB_len (canon_ok hg hok) (canon_okG hok)
      unfold imageB formB
      rw [List.length_append, lowB_length]
      omega
    have hk2 : Kept (fun k => k = b) w w2 := hk1.kept.trans (Kept.of_below hb2 (fun k => k = b)) (fun _ _ e => e)
    have hs1 := hk1.kept.size
    have ho3 := hk3.kept.owns ho2 (fun k hk e => by have := (ho2.lt k hk).1; omega)
    obtain ⟨gb, rfl⟩ : ∃ gb, oa = some ⟨gb, 0, none⟩ := by
      obtain ⟨gb, e, _⟩ := owns_cell ho2 (bcells_get (i := 0) (by omega))
      exact ⟨gb, e⟩
    exact ⟨imageB g, gb, oc, at3, rfl, by omega, by omega, formB_bytes (canon_okG hok), owns_le ho3 hs1, by omega, ⟨hk3.dc, hk2.trans hk3.kept (fun _ _ e => e)⟩⟩
  clear ho2 hb2 hk3 hat1 hO hn hg hok hk1 ha1 ha3
  have hlow : Hid (∀ g off, sa = some ⟨g, off, none⟩ → g < w.heap.size) := hc.sl
  generalize Value.slice oa (imageB g).length oc = v0 at hI0 ⊢
  go_loopw [3, 4] (fun v i ws => ∃ n : Nat, i = .int .i64 (n : Int) ∧ n ≤ 2 ∧ IInv w b sa bs cap at_ n ws v) (fun _ i _ => (intOf i).toNat)
  case atStart => exact ⟨n, rfl, by omega, hI0⟩
  case round =>
    obtain ⟨n, rfl, hn2, ys, gb, c, at', rfl, hy1, hyl, hyb, hO, hat', hD⟩ := hrel
    have hsD := hD.out.kept.size
    have hcc := owns_cap hO
    have hgb := hO.lt gb rfl
    by_cases hn0 : 0 < n
    · have hd : (0 : Int) < (n : Int) := by omega
      go_wp2_with (first
        | (go_at_call_of 52 ((ys.length : Int)); refine (l6pick_of b sa bs cap at' ys.length _ wr rfl hD.out.dc (by omega) (by omega) (by omega)).mono ?_; rintro e w4 ⟨i, at4, hil, ha4, rfl, hk4⟩)
        | (go_at_call_of 52 ((4 : Int)); refine (l6pick_of b sa bs cap at4 4 4 w4 rfl hk4.dc (by omega) (by omega) (by omega)).mono ?_; rintro e w5 ⟨x, at5, hx5, ha5, rfl, hk5⟩; have hk45 := hk4.trans hk5; have hO5 := hk45.kept.owns hO (fun k hk e => (by have := (hO.lt k hk).1; omega)); have hD5 : Hid (DK w w5 b sa bs cap at5) := hD.out.trans hk45; have hi0 : (0 : Int) ≤ (i : Int) := (by omega); have hi1 : (i : Int) < (ys.length : Int) := (by omega); have hnz : ¬ ((ys.length : Int) = 0) := (by omega); have hc5 : w5.cell? ⟨gb, i, none⟩ = some (.int .u8 ((ys[i]! : Nat) : Int)) := (by have h1 := hO5.cellAt i (by omega); rw [bcells_get hil] at h1; exact h1); have hf5 := hO5.frozenAt i; clear hk4 hk5 hk45 hO; obtain rfl | rfl | ⟨rfl, hiz⟩ | ⟨rfl, hiz⟩ | rfl : x = 0 ∨ x = 1 ∨ (x = 2 ∧ (i : Int) = 0) ∨ (x = 2 ∧ ¬ ((i : Int) = 0)) ∨ x = 3 := (by omega)))
      · refine (l6next_any b sa bs cap at5 w5 hD5.out.dc (by omega)).mono ?_
        rintro e w6 ⟨z, hz, rfl, hk6⟩
        have hO6 := hk6.kept.owns hO5 (fun k hk e => by have := (hO5.lt k hk).1; omega)
        have hc6 := hk6.kept.cell hc5 (by omega)
        have hf6 := hO6.frozenAt i
        have hwz : IntKind.u8.wrap (z : Int) = (z : Int) := by rw [IntKind.wrap_u8']; omega
        clear hc5 hf5
        go_wp2
        have hC6 := (Kept.refl (fun k => k = gb) w6).set (a := ⟨gb, i, none⟩) (fun _ => rfl) (.int .u8 (z : Int))
        have hO7 := owns_setB hO6 i (.int .u8 (z : Int))
        rw [bcells_set] at hO7
        go_roundw
        case rel =>
          refine ⟨n - 1, congrArg (Value.int .i64) (by omega), by omega, ys.set i z, gb, c, at5 + 1, by rw [List.length_set], by rw [List.length_set]; omega, by rw [List.length_set]; omega, fun y hy => ?_, by rw [List.length_set]; exact hO7, by omega, ⟨hk6.dc.kept hC6 (by omega) (fun g off e hp => by have := hlow.out g off e; omega), (hD5.out.kept.trans hk6.kept (fun _ _ e => e)).trans hC6 (fun k hk hp => by omega)⟩⟩
          rcases List.mem_or_eq_of_mem_set hy with hy | hy
          · exact hyb y hy
          · omega
        case measure => simp [intOf]; omega
      · have hcd := ((Kept.refl (fun _ => False) w5).drew).cell hc5 (fun e => e)
        have hOd := ((Kept.refl (fun _ => False) w5).drew).owns hO5 (fun _ _ e => e)
        have hDd : DK w w5.drew b sa bs cap at5 := ⟨hD5.out.dc.kept ((Kept.refl (fun _ => False) w5).drew) (fun e => e) (fun _ _ _ e => e), hD5.out.kept.drew⟩
        clear hc5 hf5
        have hy256 : ys[i]! < 256 := by rw [getElem!_pos ys i hil]; exact hyb _ (List.getElem_mem _)
        generalize ys[i]! = yi at hy256 hcd
        refine wp_regionU (fun u => u.cell? ⟨gb, i, none⟩ = some (.int .u8 (yi : Int))) 12 (by kernel_rfl) hcd (fun hS0 => ?_)
        generalize w5.drew = w6 at hcd hOd hDd hS0 ⊢
        refine anyU_take (i := 0) (v := ?_) rfl (by kernel_rfl) (by kernel_rfl) (by kernel_rfl) (by kernel_rfl) (fun _ _ _ h => h) (Or.inl ⟨by rfl, ?_⟩) hS0 ?_
        rotate_left
        · intro u hSu; (try dsimp only at hSu); go_simp <;> with_reducible rfl
        simp only [Act.put, List.getElem_toArray, List.getElem_cons_zero, List.setIfInBounds_toArray, List.set_cons_zero, List.set_cons_succ]
        refine anyU_take (i := 1) (v := ?_) rfl (by kernel_rfl) (by kernel_rfl) (by kernel_rfl) (by kernel_rfl) (fun _ _ _ h => h) (Or.inl ⟨by rfl, ?_⟩) hS0 ?_
        rotate_left
        · intro u hSu; (try dsimp only at hSu); go_simp <;> with_reducible rfl
        simp only [Act.put, List.getElem_toArray, List.getElem_cons_zero, List.getElem_cons_succ, List.setIfInBounds_toArray, List.set_cons_zero, List.set_cons_succ]
        refine anyU_take (i := 2) (v := ?_) rfl (by kernel_rfl) (by kernel_rfl) (by kernel_rfl) (by kernel_rfl) (fun _ _ _ h => h) (Or.inl ⟨by rfl, ?_⟩) hS0 ?_
        rotate_left
        · intro u hSu; (try dsimp only at hSu); go_simp <;> with_reducible rfl
        simp only [Act.put, List.getElem_toArray, List.getElem_cons_zero, List.getElem_cons_succ, List.setIfInBounds_toArray, List.set_cons_zero, List.set_cons_succ]
        refine anyU_take (i := 3) (v := ?_) rfl (by kernel_rfl) (by kernel_rfl) (by kernel_rfl) (by kernel_rfl) (fun _ _ _ h => h) (Or.inl ⟨by rfl, ?_⟩) hS0 ?_
        rotate_left
        · intro u hSu; (try dsimp only at hSu); go_simp <;> with_reducible rfl
        simp only [Act.put, List.getElem_toArray, List.getElem_cons_zero, List.getElem_cons_succ, List.setIfInBounds_toArray, List.set_cons_zero, List.set_cons_succ]
        refine anyU_take (i := 4) (v := ?_) rfl (by kernel_rfl) (by kernel_rfl) (by kernel_rfl) (by kernel_rfl) (fun _ _ _ h => h) (Or.inl ⟨by rfl, ?_⟩) hS0 ?_
        rotate_left
        · intro u hSu; (try dsimp only at hSu); go_simp <;> with_reducible rfl
        simp only [Act.put, List.getElem_toArray, List.getElem_cons_zero, List.getElem_cons_succ, List.setIfInBounds_toArray, List.set_cons_zero, List.set_cons_succ]
        refine anyU_take (i := 5) (v := ?_) rfl (by kernel_rfl) (by kernel_rfl) (by kernel_rfl) (by kernel_rfl) (fun _ _ _ h => h) (Or.inl ⟨by rfl, ?_⟩) hS0 ?_
        rotate_left
        · intro u hSu; (try dsimp only at hSu); go_simp <;> with_reducible rfl
        simp only [Act.put, List.getElem_toArray, List.getElem_cons_zero, List.getElem_cons_succ, List.setIfInBounds_toArray, List.set_cons_zero, List.set_cons_succ]
        refine anyU_take (i := 6) (v := ?_) rfl (by kernel_rfl) (by kernel_rfl) (by kernel_rfl) (by kernel_rfl) (fun _ _ _ h => h) (Or.inl ⟨by rfl, ?_⟩) hS0 ?_
        rotate_left
        · intro u hSu; (try dsimp only at hSu); go_simp <;> with_reducible rfl
        simp only [Act.put, List.getElem_toArray, List.getElem_cons_zero, List.getElem_cons_succ, List.setIfInBounds_toArray, List.set_cons_zero, List.set_cons_succ]
        refine anyU_one (i := 7) (by kernel_rfl) rfl (fun K hK => ?_)
        go_simp
        refine (l6pick_of b sa bs cap at5 8 8 w6 rfl hDd.dc (by omega) (by omega) (by omega)).mono ?_
        rintro e w7 ⟨k, at7, hk7, ha7, rfl, hk67⟩
        have hc7 := hk67.kept.cell hcd (by omega)
        have hO7 := hk67.kept.owns hOd (fun k hk e => by have := (hOd.lt k hk).1; omega)
        have hf7 := hO7.frozenAt i
        refine hK.out _ _ hc7 ?_
        clear hK
        clear hS0
        have hS0 : (fun u : World => u.cell? ⟨gb, i, none⟩ = some (.int .u8 (yi : Int))) w7 := hc7
        have hkw : IntKind.u64.wrap (k : Int) = (k : Int) := by rw [IntKind.wrap_u64]; omega
        refine anyU_one (i := 8) (by kernel_rfl) rfl (fun K hK => ?_)
        go_simp
        refine hK.out _ _ hc7 ?_
        clear hK
        refine anyU_one (i := 9) (by kernel_rfl) rfl (fun K hK => ?_)
        go_simp
        refine hK.out _ _ hc7 ?_
        clear hK
        refine anyU_one (i := 10) (by kernel_rfl) rfl (fun K hK => ?_)
        go_simp
        obtain ⟨z, hz, hz256⟩ : ∃ z : Nat, bits .xor .u8 (yi : Int) (IntKind.u8.wrap (2 ^ k)) = (z : Int) ∧ z < 256 := by
          have h1 := bits_lo_u8 .xor (yi : Int) (IntKind.u8.wrap (2 ^ k))
          have h2 := bits_hi_u8 .xor (yi : Int) (IntKind.u8.wrap (2 ^ k))
          exact ⟨(bits .xor .u8 (yi : Int) (IntKind.u8.wrap (2 ^ k))).toNat, by omega, by omega⟩
        rw [hz]
        refine hK.out _ _ hc7 ?_
        clear hK
        refine anyU_one (i := 11) (by kernel_rfl) rfl (fun K hK => ?_)
        go_simp
        refine hK.out _ _ hc7 ?_
        clear hK
        refine anyU_last (by kernel_rfl) rfl (by kernel_rfl) (fun K hK => ?_)
        go_simp
        refine hK.out _ _ ?_
        clear hK
        have hC6 := (Kept.refl (fun k => k = gb) w7).set (a := ⟨gb, i, none⟩) (fun _ => rfl) (.int .u8 (z : Int))
        have hO8 := owns_setB hO7 i (.int .u8 (z : Int))
        rw [bcells_set] at hO8
        go_wp2
        go_roundw
        case rel =>
          refine ⟨n - 1, congrArg (Value.int .i64) (by omega), by omega, ys.set i z, gb, c, at7, by rw [List.length_set], by rw [List.length_set]; omega, by rw [List.length_set]; omega, fun y hy => ?_, by rw [List.length_set]; exact hO8, by omega, ⟨hk67.dc.kept hC6 (by omega) (fun g off e hp => by have := hlow.out g off e; omega), (hDd.kept.trans hk67.kept (fun _ _ e => e)).trans hC6 (fun k hk hp => by omega)⟩⟩
          rcases List.mem_or_eq_of_mem_set hy with hy | hy
          · exact hyb y hy
          · omega
        case measure => simp [intOf]; omega
      · have hO7 := owns_trunc hO5 (Nat.zero_le ys.length)
        go_ret
        exact ⟨[], some ⟨gb, 0, none⟩, c, at5, rfl, by decide, fun x hx => (by cases hx), by simpa [bcells] using hO7, by omega, hD5.out⟩
      · go_roundw
        case rel =>
          have hO7 := owns_trunc hO5 (Nat.le_of_lt hil)
          rw [bcells_take] at hO7
          have hlt : (ys.take i).length = i := by rw [List.length_take]; omega
          exact ⟨n - 1, congrArg (Value.int .i64) (by omega), by omega, ys.take i, gb, c, at5, by rw [hlt], by omega, by omega, fun y hy => hyb y (List.mem_of_mem_take hy), by rw [hlt]; exact hO7, by omega, hD5⟩
        case measure => simp [intOf]; omega
      · refine (l6next_any b sa bs cap at5 w5 hD5.out.dc (by omega)).mono ?_
        rintro e w6 ⟨z, hz, rfl, hk6⟩
        have hO6 := hk6.kept.owns hO5 (fun k hk e => by have := (hO5.lt k hk).1; omega)
        have hwz : IntKind.u8.wrap (z : Int) = (z : Int) := by rw [IntKind.wrap_u8']; omega
        have hs5 := hD5.out.kept.size
        have hs6 := hk6.kept.size
        have hnz1 : ¬ ((ys.length : Int) + 1 = 0) := by omega
        clear hc5 hf5
        go_wp2_with (at_builtin; refine wpList_append_lies _ rfl (.tmp 21) (.tmp 25) 22 rfl w.heap.size 5 i0 (.int .u8 0) 1 1 Try.underlying22 hi hz0 hz1 hz2 rfl (by decide) _ _ _ rfl (hO6.alloc _) ⟨w6.heap.size, 0, none⟩ 1 1 [.int .u8 (z : Int)] rfl rfl (World.news_of_block (cs := #[.int .u8 (z : Int)]) (t := 5) (fr := (0, 0)) (blk_new_at _ _ _ (by simp))) (by simp [Value.oneCell']) (by decide) (by unfold maxLen; omega) (by omega) (by simp; omega) (w6.heap.size + 1) (by simp) ?_; intro g2 cap2 w7 hown7 hgrow7 hat7 hlt7)
        have hG := Kept.of_grown hgrow7
        have hA : Kept (fun _ => False) w6 (w6.alloc (.cells #[.int .u8 (z : Int)] 5)) := (Kept.refl _ w6).alloc _
        have hob : ∀ k, (Value.slice (some ⟨gb, 0, none⟩) ys.length c).ownBlock = some k → w.heap.size ≤ k := fun k hk => (hO6.lt k hk).1
        go_roundw
        case rel =>
          refine ⟨n - 1, congrArg (Value.int .i64) (by omega), by omega, ys ++ [z], g2, cap2, at5 + 1, by simp, by simp, by simp; omega, fun y hy => ?_, by simpa [bcells_snoc] using hown7, by omega, ⟨(hk6.dc.kept hA (fun e => e) (fun _ _ _ e => e)).kept hG (fun e => by have := hob _ e; omega) (fun g off e h => by have := hob _ h; have := hlow.out g off e; omega), ((hD5.out.kept.trans hk6.kept (fun _ _ e => e)).trans hA (fun _ _ e => e.elim)).trans hG (fun k hk e => by have := hob _ e; omega)⟩⟩
          rcases List.mem_append.1 hy with hy | hy
          · exact hyb y hy
          · have := List.mem_singleton.1 hy; omega
        case measure => simp [intOf]; omega
    · obtain rfl : n = 0 := by omega
      go_wp2_with (go_at_call_of 52 ((2 : Int)); refine (l6pick_of b sa bs cap at' 2 2 wr rfl hD.out.dc (by omega) (by omega) (by omega)).mono ?_; rintro e w4 ⟨x, at4, hx4, ha4, rfl, hk4⟩; have hO4 := hk4.kept.owns hO (fun k hk e => (by have := (hO.lt k hk).1; omega)); have hD4 : Hid (DK w w4 b sa bs cap at4) := hD.out.trans hk4; obtain ⟨rfl, h8⟩ | ⟨rfl, h8⟩ | rfl : (x = 0 ∧ (8 : Int) ≤ (ys.length : Int)) ∨ (x = 0 ∧ ¬ ((8 : Int) ≤ (ys.length : Int))) ∨ x = 1 := (by omega))
      · have hO5 := owns_trunc hO4 (Nat.sub_le ys.length 8)
        rw [bcells_take] at hO5
        obtain ⟨zs, hzs⟩ := hid_ex (ys.take (ys.length - 8))
        have hzl : ys.length - 8 = zs.length := by rw [hzs.out, List.length_take]; omega
        have hzb : ∀ x, x ∈ zs → x < 256 := fun x hx => by rw [hzs.out] at hx; exact hyb x (List.mem_of_mem_take hx)
        rw [← hzs.out, hzl] at hO5
        have hzk : zs.length ≤ 50000000 := by omega
        rw [hzl]
        have hs4 := hD4.out.kept.size
        refine (l2sum_any (some ⟨gb, 0, none⟩) zs c w4 (owns_bytesD hO5) (by unfold maxLen; omega) hzb).mono ?_
        rintro e w5 ⟨rfl, hb5⟩
        have hs5 := hb5.size
        clear hzl
        go_wp2_with (go_at_call 123; refine (l2eight_any w.heap.size (some ⟨gb, 0, none⟩) zs.length c zs (sumN zs) _ w5 rfl rfl (sumN_lt zs) (by omega) (by omega) ((Kept.of_below hb5 (fun _ => False)).owns hO5 (fun _ _ e => e))).mono ?_; rintro e w6 ⟨oa6, cap6, rfl, hOb⟩)
        have hl6 : (zs ++ lowB 8 (sumN zs)).length = zs.length + 8 := by rw [List.length_append, lowB_length]
        go_ret
        refine ⟨zs ++ lowB 8 (sumN zs), oa6, cap6, at4, by rw [List.length_append]; rfl, by rw [hl6]; omega, fun x hx => ?_, hOb.own, by omega, ⟨(hD4.out.dc.kept (Kept.of_below hb5 (fun _ => False)) (fun e => e) (fun _ _ _ e => e)).kept hOb.kept (fun hp => by have := some_addr hp; omega) (fun g off e hp => by have := some_addr hp; have := hlow.out g off e; omega), (hD4.out.kept.trans (Kept.of_below hb5 (fun _ => False)) (fun _ _ e => e.elim)).trans hOb.kept (fun k hk hp => by have := some_addr hp; omega)⟩⟩
        rcases List.mem_append.1 hx with hx | hx
        · exact hzb x hx
        · exact lowB_byte _ _ _ hx
      · go_ret
        exact ⟨ys, some ⟨gb, 0, none⟩, c, at4, rfl, by omega, hyb, hO4, by omega, hD4.out⟩
      · go_ret
        exact ⟨ys, some ⟨gb, 0, none⟩, c, at4, rfl, by omega, hyb, hO4, by omega, hD4.out⟩

end Go.Proofs.Ythjddpkegooobaa

/-
  L6D: a graph for a law, drawn. Own work.
-/
namespace Go.Proofs.Ythjddpkegooobaa
open Go.RowKit

theorem DC.new {w : World} {sa : Option Addr} {bs : List Nat} {cap : Nat} (t : Nat) (hb : BytesAt w sa bs) (hu : ∀ x, x ∈ bs → x < 256) (hl : bs.length ≤ maxLen) (hs : ∀ g off, sa = some ⟨g, off, none⟩ → g < w.heap.size) :
    DC (w.alloc (.cells #[.slice sa bs.length cap, .int .i64 0, .int .u64 0] t)) w.heap.size sa bs cap 0 := by
  refine ⟨by simp, ?_, ?_, ⟨0, by decide, ?_⟩, fun o => ?_, hb.kept ((Kept.refl (fun _ => False) w).alloc _) (fun _ _ _ e => e), fun g off e => ?_, hu, hl, fun g off e => ?_⟩
  · simp [go_sem]
  · simp [go_sem]
  · simp [go_sem]
  · simp
  · have := hs g off e; omega
  · have := hs g off e; simp; omega

/-- what a law's drawn graph is -/
def DrawnPost (w : World) (e : Ending) (w' : World) : Prop :=
  ∃ (g : GG) (na : Option Addr) (nc : Nat) (nl : List NL), e = .returned (g.val na nc) ∧ nl.map (·.n) = g.nodes ∧ g.Ok ∧ okG g = true ∧ OwnG w' w.heap.size na nc nl ∧ Below w.heap.size w w'

set_option maxHeartbeats 4000000 in
set_option maxRecDepth 100000 in
theorem drawn_any (sa : Option Addr) (bs : List Nat) (cap : Nat) (w : World) (hb : BytesAt w sa bs) (hu : ∀ x, x ∈ bs → x < 256) (hl : bs.length ≤ maxLen) (hs : ∀ g off, sa = some ⟨g, off, none⟩ → g < w.heap.size) :
    Calls Try.prog 11 #[.slice sa bs.length cap] w (DrawnPost w) := by
  obtain ⟨wA, hwA⟩ : ∃ wA, Hid (wA = w.alloc (.cells #[.int .i64 0, .int .i64 0, .string ⟨#[]⟩, .int .i64 0, .slice none 0 0] 27)) := ⟨_, rfl⟩
  have hsA : wA.heap.size = w.heap.size + 1 := by rw [hwA.out]; simp
  have hFA : Five wA w.heap.size ⟨0, 0, ⟨#[]⟩, 0⟩ (.slice none 0 0) := by rw [hwA.out]; exact Five.new_at w ⟨0, 0, ⟨#[]⟩, 0⟩ (.slice none 0 0) 27 w.heap.size rfl
  have hKA : Kept (fun _ => False) w wA := by rw [hwA.out]; exact (Kept.refl _ w).alloc _
  have hDC := DC.new (w := wA) (cap := cap) 75 (hb.kept hKA (fun _ _ _ e => e)) hu hl (fun g off e => by have := hs g off e; omega)
  rw [hsA] at hDC
  have hKB0 : Kept (fun _ => False) wA (wA.alloc (.cells #[.slice sa bs.length cap, .int .i64 0, .int .u64 0] 75)) := (Kept.refl _ wA).alloc _
  have hKB : Kept (fun _ => False) w (wA.alloc (.cells #[.slice sa bs.length cap, .int .i64 0, .int .u64 0] 75)) := hKA.trans hKB0 (fun _ _ e => e)
  have hFB := hFA.kept hKB0 (fun e => e)
  have hszB : (wA.alloc (.cells #[.slice sa bs.length cap, .int .i64 0, .int .u64 0] 75)).heap.size = w.heap.size + 1 + 1 := by simp [hsA]
  go_enter Try.func11, Try.ntmps11
  go_wp2_with (go_at_call_of 52 ((20 : Int)); rw [← hwA.out]; refine (l6pick_of (w.heap.size + 1) sa bs cap 0 20 20 _ rfl hDC (by omega) (by omega) (by omega)).mono ?_; rintro e w2 ⟨x, at2, hx, ha2, rfl, hk2⟩; have hF2 := hFB.kept hk2.kept (by omega); have hs2 := hk2.kept.size; rw [hszB] at hs2; obtain rfl | hx1 : x = 0 ∨ 1 ≤ x := by omega)
  · refine (l6full_any (w.heap.size + 1) sa bs cap at2 w2 hk2.dc (by omega)).mono ?_
    rintro e w3 ⟨g, na, nc, nl, at3, rfl, hn, hg, hok, hO, ha3, hk3⟩
    have hF3 := hF2.kept hk3.kept (by omega)
    obtain ⟨rz, r0, r1', r2, r3, r4, rf_⟩ := id hF3
    go_wp2
    have hRf := (hF3.rootS g.root).set (s' := .slice na g.nodes.length nc)
    have hKR : Kept (fun k => k = w.heap.size) w3 (((((w3.setCell ⟨w.heap.size, 0, none⟩ (.int .i64 g.root.kind)).setCell ⟨w.heap.size, 1, none⟩ (.int .i64 g.root.num)).setCell ⟨w.heap.size, 2, none⟩ (.string g.root.text)).setCell ⟨w.heap.size, 3, none⟩ (.int .i64 g.root.node)).setCell ⟨w.heap.size, 4, none⟩ (.slice na g.nodes.length nc)) := (((((Kept.refl (fun k => k = w.heap.size) w3).set (fun _ => rfl) _).set (fun _ => rfl) _).set (fun _ => rfl) _).set (fun _ => rfl) _).set (fun _ => rfl) _
    generalize ((((w3.setCell ⟨w.heap.size, 0, none⟩ (.int .i64 g.root.kind)).setCell ⟨w.heap.size, 1, none⟩ (.int .i64 g.root.num)).setCell ⟨w.heap.size, 2, none⟩ (.string g.root.text)).setCell ⟨w.heap.size, 3, none⟩ (.int .i64 g.root.node)).setCell ⟨w.heap.size, 4, none⟩ (.slice na g.nodes.length nc) = w9 at hRf hKR ⊢
    obtain ⟨_, s0, s1, s2, s3, s4, _⟩ := hRf
    have hs3 := hk3.kept.size
    refine bodyPost_ret (v := g.val na nc) (by simp [results, Try.results11, go_sem, s0, s1, s2, s3, s4, GG.val]) rfl ⟨g, na, nc, nl, rfl, hn, hg, hok, ?_, ?_⟩
    · refine (hO.kept hKR (fun k e hp => ?_) (fun x hx k e hp => ?_)).le (by omega)
      · have := (hO.nodes.lt k (by rw [e]; rfl)).1; omega
      · have := ((hO.vals x hx).lt k (by rw [e]; rfl)).1; omega
    · have hfin := ((hKB.trans hk2.kept (fun k hk e => by omega)).trans hk3.kept (fun k hk e => by omega)).trans hKR (fun k hk e => by omega)
      exact hfin.below (Nat.le_refl _) (fun k hk e => e)
  · have hx2 : ¬ ((x : Int) = 0) := by omega
    refine (l6graph_any (w.heap.size + 1) sa bs cap at2 w2 hk2.dc (by omega)).mono ?_
    rintro e w3 ⟨g, na, nc, nl, at3, rfl, hn, hg, hok, hO, ha3, hk3⟩
    have hF3 := hF2.kept hk3.kept (by omega)
    obtain ⟨rz, r0, r1', r2, r3, r4, rf_⟩ := id hF3
    go_wp2
    have hRf := (hF3.rootS g.root).set (s' := .slice na g.nodes.length nc)
    have hKR : Kept (fun k => k = w.heap.size) w3 (((((w3.setCell ⟨w.heap.size, 0, none⟩ (.int .i64 g.root.kind)).setCell ⟨w.heap.size, 1, none⟩ (.int .i64 g.root.num)).setCell ⟨w.heap.size, 2, none⟩ (.string g.root.text)).setCell ⟨w.heap.size, 3, none⟩ (.int .i64 g.root.node)).setCell ⟨w.heap.size, 4, none⟩ (.slice na g.nodes.length nc)) := (((((Kept.refl (fun k => k = w.heap.size) w3).set (fun _ => rfl) _).set (fun _ => rfl) _).set (fun _ => rfl) _).set (fun _ => rfl) _).set (fun _ => rfl) _
    generalize ((((w3.setCell ⟨w.heap.size, 0, none⟩ (.int .i64 g.root.kind)).setCell ⟨w.heap.size, 1, none⟩ (.int .i64 g.root.num)).setCell ⟨w.heap.size, 2, none⟩ (.string g.root.text)).setCell ⟨w.heap.size, 3, none⟩ (.int .i64 g.root.node)).setCell ⟨w.heap.size, 4, none⟩ (.slice na g.nodes.length nc) = w9 at hRf hKR ⊢
    obtain ⟨_, s0, s1, s2, s3, s4, _⟩ := hRf
    have hs3 := hk3.kept.size
    refine bodyPost_ret (v := g.val na nc) (by simp [results, Try.results11, go_sem, s0, s1, s2, s3, s4, GG.val]) rfl ⟨g, na, nc, nl, rfl, hn, hg, hok, ?_, ?_⟩
    · refine (hO.kept hKR (fun k e hp => ?_) (fun x hx k e hp => ?_)).le (by omega)
      · have := (hO.nodes.lt k (by rw [e]; rfl)).1; omega
      · have := ((hO.vals x hx).lt k (by rw [e]; rfl)).1; omega
    · have hfin := ((hKB.trans hk2.kept (fun k hk e => by omega)).trans hk3.kept (fun k hk e => by omega)).trans hKR (fun k hk e => by omega)
      exact hfin.below (Nat.le_refl _) (fun k hk e => e)

end Go.Proofs.Ythjddpkegooobaa

/-
  L6X: bytes for a law, drawn. Own work.
-/
namespace Go.Proofs.Ythjddpkegooobaa
open Go.RowKit

/-- what a law's drawn bytes are -/
def DrawnB (w : World) (e : Ending) (w' : World) : Prop :=
  ∃ (ys : List Nat) (oa : Option Addr) (c : Nat), e = .returned (.slice oa ys.length c) ∧ ys.length ≤ 1099511627776 ∧ (∀ x, x ∈ ys → x < 256) ∧ w'.ownsRow w.heap.size 5 1 (.slice oa ys.length c) ys.length (bcells ys) ∧ Below w.heap.size w w'

set_option maxHeartbeats 4000000 in
set_option maxRecDepth 100000 in
theorem drawUnpack_any (sa : Option Addr) (bs : List Nat) (cap : Nat) (w : World) (hb : BytesAt w sa bs) (hu : ∀ x, x ∈ bs → x < 256) (hl : bs.length ≤ maxLen) (hs : ∀ g off, sa = some ⟨g, off, none⟩ → g < w.heap.size) :
    Calls Try.prog 19 #[.slice sa bs.length cap] w (DrawnB w) := by
  have hDC := DC.new (w := w) (cap := cap) 75 hb hu hl hs
  have hKB : Kept (fun _ => False) w (w.alloc (.cells #[.slice sa bs.length cap, .int .i64 0, .int .u64 0] 75)) := (Kept.refl _ w).alloc _
  have hszB : (w.alloc (.cells #[.slice sa bs.length cap, .int .i64 0, .int .u64 0] 75)).heap.size = w.heap.size + 1 := by simp
  go_enter Try.func19, Try.ntmps19
  go_wp2_with (go_at_call_of 52 ((8 : Int)); refine (l6pick_of w.heap.size sa bs cap 0 8 8 _ rfl hDC (by omega) (by omega) (by omega)).mono ?_; rintro e w2 ⟨x, at2, hx, ha2, rfl, hk2⟩; have hs2 := hk2.kept.size; rw [hszB] at hs2; obtain rfl | hx1 : x = 0 ∨ ¬ ((x : Int) = 0) := by omega)
  · refine (l6loose_any w.heap.size sa bs cap at2 w2 hk2.dc (by omega)).mono ?_
    rintro e w3 ⟨ys, oa, c, at3, rfl, hyl, hyb, hO, ha3, hk3⟩
    go_wp2
    go_ret
    exact ⟨ys, oa, c, rfl, hyl, hyb, owns_le hO (by omega), ((hKB.trans hk2.kept (fun k hk e => by omega)).trans hk3.kept (fun k hk e => by omega)).below (Nat.le_refl _) (fun k hk e => e)⟩
  · refine (l6image_any w.heap.size sa bs cap at2 w2 hk2.dc (by omega)).mono ?_
    rintro e w3 ⟨ys, oa, c, at3, rfl, hyl, hyb, hO, ha3, hk3⟩
    go_wp2
    go_ret
    exact ⟨ys, oa, c, rfl, hyl, hyb, owns_le hO (by omega), ((hKB.trans hk2.kept (fun k hk e => by omega)).trans hk3.kept (fun k hk e => by omega)).below (Nat.le_refl _) (fun k hk e => e)⟩

end Go.Proofs.Ythjddpkegooobaa

/-
  WSAME: the laws' comparisons, where both are the same. Own work.
-/
namespace Go.Proofs.Ythjddpkegooobaa
open Go.RowKit

set_option maxRecDepth 100000 in
theorem wBytes_same (a a' : Option Addr) (bs : List Nat) (cap cap' : Nat) (w : World) (hl : bs.length ≤ maxLen) (ha : BytesAt w a bs) (ha' : BytesAt w a' bs) :
    Calls Try.prog 18 #[.slice a bs.length cap, .slice a' bs.length cap'] w fun e w' => e = .returned (.bool true) ∧ Below w.heap.size w w' := by
  unfold maxLen at hl
  have hne : ((bs.length : Int) != (bs.length : Int)) = false := by simp
  go_enter Try.func18, Try.ntmps18
  go_wp2
  go_loopw [13] (fun i wr => ∃ (k : Nat), k ≤ bs.length ∧ i = .int .i64 k ∧ Below w.heap.size w wr) (fun i _ => bs.length - (intOf i).toNat)
  case atStart => exact ⟨0, Nat.zero_le _, rfl, gre _⟩
  case round =>
    obtain ⟨k, hk, rfl, hb⟩ := hrel
    by_cases hlt : k < bs.length
    · obtain ⟨x, b, off, hxk, hxm, rfl, hc⟩ := (ha.grow hb).get hlt
      obtain ⟨y, b', off', hyk, hym, rfl, hc'⟩ := (ha'.grow hb).get hlt
      obtain rfl : y = x := by rw [hyk.out, hxk.out]
      have hn2 : ((y : Int) != (y : Int)) = false := by simp
      go_wp2_with (go_quiet (fail))
      go_roundw
      case rel => exact ⟨k + 1, by omega, by go_num, hb.trans ⟨rfl, rfl, rfl, Nat.le_refl _, fun _ _ => rfl⟩⟩
      case measure => simp [intOf]; omega
    · go_wp2
      go_ret
      exact ⟨rfl, hb⟩

/-- a graph's own variable -/
structure WBox (w : World) (p : Nat) (s : Value) : Prop where
  c4 : w.cell? ⟨p, 4, none⟩ = some s
theorem WBox.grow {w w' : World} {p : Nat} {s : Value} (h : WBox w p s) (hb : Below w.heap.size w w') : WBox w' p s := ⟨(World.cell?_of_block (w := w) (hb.block p (World.block_lt_of_cell? w ⟨p, 4, none⟩ h.c4))).trans h.c4⟩

set_option maxHeartbeats 4000000 in
set_option maxRecDepth 100000 in
theorem wGraph_same (a a' : Option Addr) (cap cap' : Nat) (g : GG) (w : World) (hg : g.Ok) (ha : NodesAt w.heap.size w a g.nodes) (ha' : NodesAt w.heap.size w a' g.nodes) :
    Calls Try.prog 13 #[g.val a cap, g.val a' cap'] w fun e w' => e = .returned (.bool true) ∧ Below w.heap.size w w' := by
  have hgl := hg.len
  unfold maxLen at hgl
  have hne : ((g.nodes.length : Int) != (g.nodes.length : Int)) = false := by simp
  have hA := gal (gal (gre w) (.cells #[.int .i64 g.root.kind, .int .i64 g.root.num, .string g.root.text, .int .i64 g.root.node, .slice a g.nodes.length cap] 27)) (.cells #[.int .i64 g.root.kind, .int .i64 g.root.num, .string g.root.text, .int .i64 g.root.node, .slice a' g.nodes.length cap'] 27)
  have hX0 : WBox ((w.alloc (.cells #[.int .i64 g.root.kind, .int .i64 g.root.num, .string g.root.text, .int .i64 g.root.node, .slice a g.nodes.length cap] 27)).alloc (.cells #[.int .i64 g.root.kind, .int .i64 g.root.num, .string g.root.text, .int .i64 g.root.node, .slice a' g.nodes.length cap'] 27)) w.heap.size (.slice a g.nodes.length cap) := WBox.grow ⟨by simp⟩ (gal (gre _) _)
  have hY0 : WBox ((w.alloc (.cells #[.int .i64 g.root.kind, .int .i64 g.root.num, .string g.root.text, .int .i64 g.root.node, .slice a g.nodes.length cap] 27)).alloc (.cells #[.int .i64 g.root.kind, .int .i64 g.root.num, .string g.root.text, .int .i64 g.root.node, .slice a' g.nodes.length cap'] 27)) (w.heap.size + 1) (.slice a' g.nodes.length cap') := by
    have e : (w.alloc (.cells #[.int .i64 g.root.kind, .int .i64 g.root.num, .string g.root.text, .int .i64 g.root.node, .slice a g.nodes.length cap] 27)).heap.size = w.heap.size + 1 := by simp
    rw [← e]; exact ⟨by simp⟩
  go_enter Try.func13, Try.ntmps13
  go_wp2
  generalize (w.alloc (.cells #[.int .i64 g.root.kind, .int .i64 g.root.num, .string g.root.text, .int .i64 g.root.node, .slice a g.nodes.length cap] 27)).alloc (.cells #[.int .i64 g.root.kind, .int .i64 g.root.num, .string g.root.text, .int .i64 g.root.node, .slice a' g.nodes.length cap'] 27) = wA at hA hX0 hY0 ⊢
  go_loopw [24] (fun i wr => ∃ k : Nat, k ≤ g.nodes.length ∧ i = .int .i64 k ∧ Below wA.heap.size wA wr) (fun i _ => g.nodes.length - (intOf i).toNat)
  case atStart => exact ⟨0, Nat.zero_le _, rfl, gre _⟩
  case round =>
    obtain ⟨k, hk, rfl, hb⟩ := hrel
    by_cases hlt : k < g.nodes.length
    · have hB := gca hA hb
      obtain ⟨n, b, off, av, cv, hvk, hvm, rfl, hbs, hva⟩ := (ha.grow hB).get hlt
      obtain ⟨n', b', off', av', cv', hvk', hvm', rfl, hbs', hva'⟩ := (ha'.grow hB).get hlt
      obtain rfl : n' = n := by rw [hvk.out, hvk'.out]
      have x4 := (hX0.grow hb).c4
      have y4 := (hY0.grow hb).c4
      have c0 := hva.tag
      have c1 := hva.sl
      have d0 := hva'.tag
      have d1 := hva'.sl
      have hv1 := hva.vals
      have hv2 := hva'.vals
      have i0 : (0 : Int) ≤ (k : Int) := by omega
      have i1 : (k : Int) < (g.nodes.length : Int) := by omega
      have hnl := (hg.nodes n' hvm).len
      unfold maxLen at hnl
      have t1 : ((n'.tag : Int) != n'.tag) = false := by simp
      have t2 : ((n'.vals.length : Int) != (n'.vals.length : Int)) = false := by simp
      clear hva hva' hvk hvk' ha ha'
      go_wp2_with (go_quiet (fail))
      rename World => wB
      go_loopw [64] (fun i wr2 => ∃ j : Nat, j ≤ n'.vals.length ∧ i = .int .i64 j ∧ Below wB.heap.size wB wr2) (fun i _ => n'.vals.length - (intOf i).toNat)
      case atStart => exact ⟨0, Nat.zero_le _, rfl, by first | exact gre _ | exact (gre wB).trans ⟨rfl, rfl, rfl, Nat.le_refl _, fun _ _ => rfl⟩⟩
      case round =>
        obtain ⟨j, hj, rfl, hb2⟩ := hrel
        by_cases hlt2 : j < n'.vals.length
        · obtain ⟨v, vb, vo, hvj, hvm2, rfl, hvb, hvv⟩ := (hv1.grow hb2).get hlt2
          obtain ⟨v', vb', vo', hvj', hvm2', rfl, hvb', hvv'⟩ := (hv2.grow hb2).get hlt2
          obtain rfl : v' = v := by rw [hvj.out, hvj'.out]
          have c1' := cell_later hb2 c1
          have d1' := cell_later hb2 d1
          have x4' := cell_later hb2 x4
          have y4' := cell_later hb2 y4
          have e0 := hvv.kind
          have e1 := hvv.num
          have e2 := hvv.text
          have e3 := hvv.node
          have f0 := hvv'.kind
          have f1 := hvv'.num
          have f2 := hvv'.text
          have f3 := hvv'.node
          have j0 : (0 : Int) ≤ (j : Int) := by omega
          have j1 : (j : Int) < (n'.vals.length : Int) := by omega
          clear hvv hvv' hvj hvj' c0 c1 d0 d1 x4 y4 hv1 hv2
          go_wp2_with (go_quiet (fail))
          go_roundw
          case rel => exact ⟨j + 1, by omega, by go_num, by first | exact hb2 | exact hb2.trans ⟨rfl, rfl, rfl, Nat.le_refl _, fun _ _ => rfl⟩⟩
          case measure => simp [intOf]; omega
        · go_wp2
          go_roundw
          case rel => exact ⟨k + 1, by omega, by go_num, gca hb hb2⟩
          case measure => simp [intOf]; omega
    · go_wp2
      go_ret
      exact ⟨rfl, gca hA hb⟩

end Go.Proofs.Ythjddpkegooobaa

/-
  EQ: the laws' comparisons, where both are the same. Own work.
-/
namespace Go.Proofs.Ythjddpkegooobaa
open Go.RowKit

set_option maxRecDepth 100000 in
theorem eqVal_same (v : GV) (w : World) :
    Calls Try.prog 104 #[v.val, v.val] w fun e w' => e = .returned (.bool true) ∧ Below w.heap.size w w' := by
  go_enter Try.func104, Try.ntmps104
  go_wp2
  all_goals go_ret
  all_goals exact ⟨rfl, gal (gal (gre _) _) _⟩

set_option maxRecDepth 100000 in
theorem eqValS_same (a a' : Option Addr) (cap cap' : Nat) (vs : List GV) (w : World) (hl : vs.length ≤ maxLen) (ha : ValsAt w.heap.size w a vs) (ha' : ValsAt w.heap.size w a' vs) :
    Calls Try.prog 156 #[.slice a vs.length cap, .slice a' vs.length cap'] w fun e w' => e = .returned (.bool true) ∧ Below w.heap.size w w' := by
  unfold maxLen at hl
  go_enter Try.func156, Try.ntmps156
  go_wp2
  go_loopw [5] (fun i wr => ∃ k : Nat, k ≤ vs.length ∧ i = .int .i64 k ∧ Below w.heap.size w wr) (fun i _ => vs.length - (intOf i).toNat)
  case atStart => exact ⟨0, Nat.zero_le _, rfl, Below.refl _ _⟩
  case round =>
    obtain ⟨k, hk, rfl, hb⟩ := hrel
    by_cases hlt : k < vs.length
    · obtain ⟨v, b, off, hvk, hvm, rfl, hbs, hva⟩ := ha.get hlt
      obtain ⟨v', b', off', hvk', hvm', rfl, hbs', hva'⟩ := ha'.get hlt
      have e : v' = v := by rw [hvk.out, hvk'.out]
      subst e
      have hva := hva.below hb hbs
      have hva' := hva'.below hb hbs'
      have hz1 : b < wr.heap.size := Nat.lt_of_lt_of_le hbs hb.size
      have hz2 : b' < wr.heap.size := Nat.lt_of_lt_of_le hbs' hb.size
      have c0 := hva.kind
      have c1 := hva.num
      have c2 := hva.text
      have c3 := hva.node
      have d0 := hva'.kind
      have d1 := hva'.num
      have d2 := hva'.text
      have d3 := hva'.node
      have i0 : (0 : Int) ≤ (k : Int) := by omega
      have i1 : (k : Int) < (vs.length : Int) := by omega
      clear ha ha' hvk hvk' hva hva'
      go_wp2
      go_region_held3 (fun w' => w'.cell? ⟨b, off + k * 4, none⟩ = some (.int .i64 v'.kind) ∧ w'.cell? ⟨b, off + k * 4 + 1, none⟩ = some (.int .i64 v'.num) ∧ w'.cell? ⟨b, off + k * 4 + 2, none⟩ = some (.string v'.text) ∧ w'.cell? ⟨b, off + k * 4 + 3, none⟩ = some (.int .i64 v'.node) ∧ w'.cell? ⟨b', off' + k * 4, none⟩ = some (.int .i64 v'.kind) ∧ w'.cell? ⟨b', off' + k * 4 + 1, none⟩ = some (.int .i64 v'.num) ∧ w'.cell? ⟨b', off' + k * 4 + 2, none⟩ = some (.string v'.text) ∧ w'.cell? ⟨b', off' + k * 4 + 3, none⟩ = some (.int .i64 v'.node)) (first | go_keep | (go_split_ands; refine ⟨?_, ?_, ?_, ?_, ?_, ?_, ?_, ?_⟩ <;> exact cell_later hb' (by assumption))) ((go_at_call 104; refine (eqVal_same v' _).mono ?_; rintro e w' ⟨rfl, hb'⟩))
      go_wp2
      go_roundw
      case rel => exact ⟨k + 1, by omega, by go_num, gca (gdr hb) hb'⟩
      case measure => simp [intOf]; omega
    · go_wp2
      go_ret
      exact ⟨rfl, hb⟩

set_option maxRecDepth 100000 in
theorem eqNode_same (a a' : Option Addr) (cap cap' : Nat) (n : GN) (w : World) (hl : n.vals.length ≤ maxLen) (ha : ValsAt w.heap.size w a n.vals) (ha' : ValsAt w.heap.size w a' n.vals) :
    Calls Try.prog 141 #[.agg #[.int .i64 n.tag, .slice a n.vals.length cap], .agg #[.int .i64 n.tag, .slice a' n.vals.length cap']] w fun e w' => e = .returned (.bool true) ∧ Below w.heap.size w w' := by
  go_enter Try.func141, Try.ntmps141
  go_wp2_with (go_at_call 156; refine (eqValS_same a a' cap cap' n.vals _ hl (ha.grow (gal (gal (gre _) _) _)) (ha'.grow (gal (gal (gre _) _) _))).mono ?_; rintro e w' ⟨rfl, hb'⟩)
  go_ret
  exact ⟨rfl, gca (gal (gal (gre _) _) _) hb'⟩

set_option maxRecDepth 100000 in
theorem eqNodeS_same (a a' : Option Addr) (cap cap' : Nat) (ns : List GN) (w : World) (hl : ns.length ≤ maxLen) (hv : ∀ n, n ∈ ns → n.vals.length ≤ maxLen) (ha : NodesAt w.heap.size w a ns) (ha' : NodesAt w.heap.size w a' ns) :
    Calls Try.prog 105 #[.slice a ns.length cap, .slice a' ns.length cap'] w fun e w' => e = .returned (.bool true) ∧ Below w.heap.size w w' := by
  unfold maxLen at hl
  go_enter Try.func105, Try.ntmps105
  go_wp2
  go_loopw [5] (fun i wr => ∃ k : Nat, k ≤ ns.length ∧ i = .int .i64 k ∧ Below w.heap.size w wr) (fun i _ => ns.length - (intOf i).toNat)
  case atStart => exact ⟨0, Nat.zero_le _, rfl, Below.refl _ _⟩
  case round =>
    obtain ⟨k, hk, rfl, hb⟩ := hrel
    by_cases hlt : k < ns.length
    · obtain ⟨n, b, off, av, cv, hvk, hvm, rfl, hbs, hva⟩ := ha.get hlt
      obtain ⟨n', b', off', av', cv', hvk', hvm', rfl, hbs', hva'⟩ := ha'.get hlt
      have e : n' = n := by rw [hvk.out, hvk'.out]
      subst e
      have hva := hva.below hb hbs
      have hva' := hva'.below hb hbs'
      have c0 := hva.tag
      have c1 := hva.sl
      have d0 := hva'.tag
      have d1 := hva'.sl
      have i0 : (0 : Int) ≤ (k : Int) := by omega
      have i1 : (k : Int) < (ns.length : Int) := by omega
      have hvl := hv n' hvm
      have hv1 : ValsAt wr.drew.heap.size wr.drew av n'.vals := (hva.vals.mono hb.size).grow (gdr (gre _))
      have hv2 : ValsAt wr.drew.heap.size wr.drew av' n'.vals := (hva'.vals.mono hb.size).grow (gdr (gre _))
      clear ha ha' hvk hvk' hva hva'
      go_wp2
      go_region_held3 (fun w' => w'.cell? ⟨b, off + k * 2, none⟩ = some (.int .i64 n'.tag) ∧ w'.cell? ⟨b, off + k * 2 + 1, none⟩ = some (.slice av n'.vals.length cv) ∧ w'.cell? ⟨b', off' + k * 2, none⟩ = some (.int .i64 n'.tag) ∧ w'.cell? ⟨b', off' + k * 2 + 1, none⟩ = some (.slice av' n'.vals.length cv')) (first | go_keep | (go_split_ands; refine ⟨?_, ?_, ?_, ?_⟩ <;> exact cell_later hb' (by assumption))) ((go_at_call 141; refine (eqNode_same av av' cv cv' n' _ hvl hv1 hv2).mono ?_; rintro e w' ⟨rfl, hb'⟩))
      go_wp2
      go_roundw
      case rel => exact ⟨k + 1, by omega, by go_num, gca (gdr hb) hb'⟩
      case measure => simp [intOf]; omega
    · go_wp2
      go_ret
      exact ⟨rfl, hb⟩

set_option maxRecDepth 100000 in
theorem eqGraph_same (a a' : Option Addr) (cap cap' : Nat) (g : GG) (w : World) (hg : g.Ok) (ha : NodesAt w.heap.size w a g.nodes) (ha' : NodesAt w.heap.size w a' g.nodes) :
    Calls Try.prog 45 #[g.val a cap, g.val a' cap'] w fun e w' => e = .returned (.bool true) ∧ Below w.heap.size w w' := by
  go_enter Try.func45, Try.ntmps45
  go_wp2_with (first | (go_at_call 104; refine (eqVal_same g.root _).mono ?_; rintro e w' ⟨rfl, hb'⟩; obtain ⟨hc, hf⟩ := bcell hb') | (go_at_call 105; refine (eqNodeS_same a a' cap cap' g.nodes _ hg.len (fun n hn => (hg.nodes n hn).len) (ha.grow (gca (gal (gal (gre _) _) _) hb')) (ha'.grow (gca (gal (gal (gre _) _) _) hb'))).mono ?_; rintro e w'' ⟨rfl, hb''⟩))
  go_ret
  exact ⟨rfl, gca (gca (gal (gal (gre _) _) _) hb') hb''⟩

end Go.Proofs.Ythjddpkegooobaa

/-
  SAME: whether two graphs are the same: the program's comparisons. Own work.
-/
namespace Go.Proofs.Ythjddpkegooobaa
open Go.RowKit

def sameV (v v' : GV) : Bool := decide (v.kind = v'.kind) && (decide (v.num = v'.num) && (decide (v.text.toList = v'.text.toList) && decide (v.node = v'.node)))

set_option maxRecDepth 100000 in
theorem text_inj {s t : ByteArray} (h : s.toList = t.toList) : s = t := by
  apply ByteArray.ext
  rw [ByteArray.toList_eq, ByteArray.toList_eq] at h
  exact Array.toList_inj.1 h
set_option maxRecDepth 100000 in
theorem sameV_iff (v v' : GV) : sameV v v' = true ↔ v = v' := by
  unfold sameV
  simp only [Bool.and_eq_true, decide_eq_true_eq]
  constructor
  · rintro ⟨h1, h2, h3, h4⟩
    cases v; cases v'
    simp only at h1 h2 h3 h4
    rw [h1, h2, text_inj h3, h4]
  · rintro rfl; exact ⟨rfl, rfl, rfl, rfl⟩
set_option maxRecDepth 100000 in
theorem sameV_self (v : GV) : sameV v v = true := (sameV_iff v v).2 rfl

theorem run_neq_val (v v' : GV) (u : World) : (binOp .neq 24 (.agg #[.int .i64 v.kind, .int .i64 v.num, .string v.text, .int .i64 v.node]) (.agg #[.int .i64 v'.kind, .int .i64 v'.num, .string v'.text, .int .i64 v'.node])).run Try.prog u = .ok (.bool (!(sameV v v'))) u := by
  simp only [sameV]
  simp [go_sem]
  repeat' split
  all_goals simp_all
set_option maxRecDepth 100000 in
theorem run_eql_val (v v' : GV) (u : World) : (binOp .eql 24 (.agg #[.int .i64 v.kind, .int .i64 v.num, .string v.text, .int .i64 v.node]) (.agg #[.int .i64 v'.kind, .int .i64 v'.num, .string v'.text, .int .i64 v'.node])).run Try.prog u = .ok (.bool (sameV v v')) u := by
  simp only [sameV]
  simp [go_sem]
  repeat' split
  all_goals simp_all

set_option maxRecDepth 100000 in
theorem take_ne {α : Type} [Inhabited α] {l l' : List α} {k : Nat} (_hk : k < l.length) (_hk' : k < l'.length) (h : l[k]! ≠ l'[k]!) : l ≠ l' := fun e => h (by rw [e])
theorem take_eq_succ {α : Type} [Inhabited α] {l l' : List α} {k : Nat} (hk : k < l.length) (hk' : k < l'.length) (h0 : l.take k = l'.take k) (h : l[k]! = l'[k]!) : l.take (k + 1) = l'.take (k + 1) := by
  rw [take_snoc l k hk, take_snoc l' k hk', h0, h]

set_option maxRecDepth 100000 in
theorem equalVals_any (a a' : Option Addr) (cap cap' : Nat) (vs vs' : List GV) (w : World) (hl : vs.length ≤ maxLen) (_hl' : vs'.length ≤ maxLen) (ha : ValsAt w.heap.size w a vs) (ha' : ValsAt w.heap.size w a' vs') :
    Calls Try.prog 115 #[.slice a vs.length cap, .slice a' vs'.length cap'] w fun e w' => ∃ b, e = .returned (.bool b) ∧ (b = true ↔ vs = vs') ∧ Below w.heap.size w w' := by
  unfold maxLen at hl
  by_cases hle : vs.length = vs'.length
  · rw [← hle]
    have hle' : Hid _ := hle
    clear hle
    go_enter Try.func115, Try.ntmps115
    go_wp2
    go_loopw [5, 13] (fun _ i wr => ∃ k : Nat, k ≤ vs.length ∧ i = .int .i64 k ∧ Hid (vs.take k = vs'.take k) ∧ Below w.heap.size w wr) (fun _ i _ => vs.length - (intOf i).toNat)
    case atStart => exact ⟨0, Nat.zero_le _, rfl, rfl, gre _⟩
    case round =>
      obtain ⟨k, hk, rfl, hall, hb⟩ := hrel
      by_cases hlt : k < vs.length
      · have hlt' : Hid (k < vs'.length) := by have := hle'.out; show k < vs'.length; omega
        obtain ⟨v, b, off, hvk, hvm, rfl, hbs, hva⟩ := ha.get hlt
        obtain ⟨v', b', off', hvk', hvm', rfl, hbs', hva'⟩ := ha'.get hlt'.out
        have hva := hva.below hb hbs
        have hva' := hva'.below hb hbs'
        have c0 := hva.kind
        have c1 := hva.num
        have c2 := hva.text
        have c3 := hva.node
        have d0 := hva'.kind
        have d1 := hva'.num
        have d2 := hva'.text
        have d3 := hva'.node
        have i0 : (0 : Int) ≤ (k : Int) := by omega
        have i1 : (k : Int) < (vs.length : Int) := by omega
        have hne := run_neq_val v v'
        clear ha ha' hva hva'
        cases hs : sameV v v' with
        | true =>
          have hvv : v = v' := (sameV_iff v v').1 hs
          have hnext : Hid (vs.take (k + 1) = vs'.take (k + 1)) := take_eq_succ hlt hlt'.out hall.out (by rw [← hvk.out, ← hvk'.out, hvv])
          rw [hs] at hne
          simp only [Bool.not_true] at hne
          clear hvv hs
          go_wp2
          go_quiet (fail)
          go_wp2
          go_roundw
          case rel => exact ⟨k + 1, by omega, by go_num, hnext, below_drewN hb _⟩
          case measure => simp [intOf]; omega
        | false =>
          have hvv : Hid (¬ vs = vs') := take_ne hlt hlt'.out (fun e => by rw [← hvk.out, ← hvk'.out] at e; rw [(sameV_iff v v').2 e] at hs; cases hs)
          rw [hs] at hne
          simp only [Bool.not_false] at hne
          clear hs
          go_wp2
          go_quiet (fail)
          go_wp2
          go_ret
          exact ⟨false, rfl, ⟨fun h => (by cases h), fun h => absurd h hvv.out⟩, below_drewN hb _⟩
      · have hvv : Hid (vs = vs') := by
          have h1 := hall.out
          have h2 := hle'.out
          rwa [List.take_of_length_le (by omega), List.take_of_length_le (by omega)] at h1
        go_wp2
        go_ret
        exact ⟨true, rfl, ⟨fun _ => hvv.out, fun _ => rfl⟩, hb⟩
  · have hd : ¬ ((vs.length : Int) = (vs'.length : Int)) := by omega
    go_enter Try.func115, Try.ntmps115
    go_wp2
    go_ret
    exact ⟨false, rfl, ⟨fun h => (by cases h), fun h => absurd (by rw [h]) hle⟩, gre _⟩

end Go.Proofs.Ythjddpkegooobaa

/-
  SAME2: whether two lists of nodes are the same: the program's comparison. Own work.
-/
namespace Go.Proofs.Ythjddpkegooobaa
open Go.RowKit

set_option maxRecDepth 100000 in
theorem gn_ext {n n' : GN} (h1 : n.tag = n'.tag) (h2 : n.vals = n'.vals) : n = n' := by cases n; cases n'; simp only at h1 h2; rw [h1, h2]

theorem sameNode_any (a a' : Option Addr) (cap cap' : Nat) (n n' : GN) (w : World) (hl : n.vals.length ≤ maxLen) (hl' : n'.vals.length ≤ maxLen) (ha : ValsAt w.heap.size w a n.vals) (ha' : ValsAt w.heap.size w a' n'.vals) :
    Calls Try.prog 59 #[.agg #[.int .i64 n.tag, .slice a n.vals.length cap], .agg #[.int .i64 n'.tag, .slice a' n'.vals.length cap']] w fun e w' => ∃ b, e = .returned (.bool b) ∧ (b = true ↔ n = n') ∧ Below w.heap.size w w' := by
  by_cases ht : n.tag = n'.tag
  · rw [← ht]
    have ht' : Hid _ := ht
    clear ht
    go_enter Try.func59, Try.ntmps59
    go_wp2_with (go_at_call 115; refine (equalVals_any a a' cap cap' n.vals n'.vals _ hl hl' (ha.grow (gal (gal (gre _) _) _)) (ha'.grow (gal (gal (gre _) _) _))).mono ?_; rintro e w' ⟨b, rfl, hbi, hb'⟩)
    go_ret
    exact ⟨b, rfl, hbi.trans ⟨fun h => gn_ext ht'.out h, fun h => by rw [h]⟩, gca (gal (gal (gre _) _) _) hb'⟩
  · have hd : decide (n.tag = n'.tag) = false := decide_eq_false ht
    go_enter Try.func59, Try.ntmps59
    go_wp2
    go_ret
    exact ⟨false, rfl, ⟨fun h => (by cases h), fun h => absurd (by rw [h]) ht⟩, gal (gal (gre _) _) _⟩

set_option maxRecDepth 100000 in
theorem equalNodes_any (a a' : Option Addr) (cap cap' : Nat) (ns ns' : List GN) (w : World) (hl : ns.length ≤ maxLen) (_hl' : ns'.length ≤ maxLen) (hv : ∀ n, n ∈ ns → n.vals.length ≤ maxLen) (hv' : ∀ n, n ∈ ns' → n.vals.length ≤ maxLen) (ha : NodesAt w.heap.size w a ns) (ha' : NodesAt w.heap.size w a' ns') :
    Calls Try.prog 58 #[.slice a ns.length cap, .slice a' ns'.length cap', .func (.func 59) #[] #[]] w fun e w' => ∃ b, e = .returned (.bool b) ∧ (b = true ↔ ns = ns') ∧ Below w.heap.size w w' := by
  unfold maxLen at hl
  by_cases hle : ns.length = ns'.length
  · rw [← hle]
    have hle' : Hid _ := hle
    clear hle
    go_enter Try.func58, Try.ntmps58
    go_wp2
    go_loopw [7, 8, 9, 17] (fun _ _ _ i wr => ∃ k : Nat, k ≤ ns.length ∧ i = .int .i64 k ∧ Hid (ns.take k = ns'.take k) ∧ Below w.heap.size w wr) (fun _ _ _ i _ => ns.length - (intOf i).toNat)
    case atStart => exact ⟨0, Nat.zero_le _, rfl, rfl, gre _⟩
    case round =>
      obtain ⟨k, hk, rfl, hall, hb⟩ := hrel
      by_cases hlt : k < ns.length
      · have hlt' : Hid (k < ns'.length) := by have := hle'.out; show k < ns'.length; omega
        obtain ⟨n, b, off, av, cv, hvk, hvm, rfl, hbs, hva⟩ := ha.get hlt
        obtain ⟨n', b', off', av', cv', hvk', hvm', rfl, hbs', hva'⟩ := ha'.get hlt'.out
        have hva := hva.below hb hbs
        have hva' := hva'.below hb hbs'
        have c0 := hva.tag
        have c1 := hva.sl
        have d0 := hva'.tag
        have d1 := hva'.sl
        have i0 : (0 : Int) ≤ (k : Int) := by omega
        have i1 : (k : Int) < (ns.length : Int) := by omega
        have hvl := hv n hvm
        have hvl' := hv' n' hvm'
        have hv1 : ValsAt wr.heap.size wr av n.vals := hva.vals.mono hb.size
        have hv2 : ValsAt wr.heap.size wr av' n'.vals := hva'.vals.mono hb.size
        have e0 := cell_later (gal (gre wr) (.cells #[.int .i64 n.tag, .slice av n.vals.length cv] 84)) d0
        have e1 := cell_later (gal (gre wr) (.cells #[.int .i64 n.tag, .slice av n.vals.length cv] 84)) d1
        clear ha ha' hva hva'
        go_wp2_with (go_at_call 59; refine (sameNode_any av av' cv cv' n n' _ hvl hvl' (hv1.grow (gal (gal (gre _) _) _)) (hv2.grow (gal (gal (gre _) _) _))).mono ?_; rintro e w' ⟨bb, rfl, hbi0, hb'⟩; have hbi : Hid (bb = true ↔ n = n') := hbi0; clear hbi0; cases bb)
        · have hvv : Hid (¬ ns = ns') := take_ne hlt hlt'.out (fun e => by rw [← hvk.out, ← hvk'.out] at e; have := hbi.out.2 e; cases this)
          go_wp2
          go_ret
          exact ⟨false, rfl, ⟨fun h => (by cases h), fun h => absurd h hvv.out⟩, gca (gal (gal hb _) _) hb'⟩
        · have hnext : Hid (ns.take (k + 1) = ns'.take (k + 1)) := take_eq_succ hlt hlt'.out hall.out (by rw [← hvk.out, ← hvk'.out, hbi.out.1 (by trivial)])
          go_wp2
          go_roundw
          case rel => exact ⟨k + 1, by omega, by go_num, hnext, gca (gal (gal hb _) _) hb'⟩
          case measure => simp [intOf]; omega
      · have hvv : Hid (ns = ns') := by
          have h1 := hall.out
          have h2 := hle'.out
          rwa [List.take_of_length_le (by omega), List.take_of_length_le (by omega)] at h1
        go_wp2
        go_ret
        exact ⟨true, rfl, ⟨fun _ => hvv.out, fun _ => rfl⟩, hb⟩
  · have hd : ¬ ((ns.length : Int) = (ns'.length : Int)) := by omega
    go_enter Try.func58, Try.ntmps58
    go_wp2
    go_ret
    exact ⟨false, rfl, ⟨fun h => (by cases h), fun h => absurd (by rw [h]) hle⟩, gre _⟩

end Go.Proofs.Ythjddpkegooobaa

/-
  SAME3: whether two graphs are the same: the specification's comparison. Own work.
-/
namespace Go.Proofs.Ythjddpkegooobaa
open Go.RowKit

set_option maxRecDepth 100000 in
theorem gg_ext {g g' : GG} (h1 : g.root = g'.root) (h2 : g.nodes = g'.nodes) : g = g' := by cases g; cases g'; simp only at h1 h2; rw [h1, h2]

theorem l1same_any (a a' : Option Addr) (cap cap' : Nat) (g g' : GG) (w : World) (hl : g.nodes.length ≤ maxLen) (_hl' : g'.nodes.length ≤ maxLen) (hv : ∀ n, n ∈ g.nodes → n.vals.length ≤ maxLen) (hv' : ∀ n, n ∈ g'.nodes → n.vals.length ≤ maxLen) (ha : NodesAt w.heap.size w a g.nodes) (ha' : NodesAt w.heap.size w a' g'.nodes) :
    Calls Try.prog 77 #[g.val a cap, g'.val a' cap'] w fun e w' => ∃ b, e = .returned (.bool b) ∧ (b = true ↔ g = g') ∧ Below w.heap.size w w' := by
  unfold maxLen at hl
  have hne := run_neq_val g.root g'.root
  cases hs : sameV g.root g'.root with
  | false =>
    rw [hs] at hne
    simp only [Bool.not_false] at hne
    have hrr : Hid (¬ g = g') := fun e => by rw [e, sameV_self] at hs; cases hs
    clear hs
    go_enter Try.func77, Try.ntmps77
    go_wp2
    go_ret
    exact ⟨false, rfl, ⟨fun h => (by cases h), fun h => absurd h hrr.out⟩, gal (gal (gre _) _) _⟩
  | true =>
    rw [hs] at hne
    simp only [Bool.not_true] at hne
    have hrr : Hid (g.root = g'.root) := (sameV_iff _ _).1 hs
    clear hs
    by_cases hle : g.nodes.length = g'.nodes.length
    · have hle' : Hid _ := hle
      have hX0 := (GBox.new w g a cap 27).grow (gal (gre _) (.cells #[.int .i64 g'.root.kind, .int .i64 g'.root.num, .string g'.root.text, .int .i64 g'.root.node, .slice a' g'.nodes.length cap'] 27))
      have hY0 := GBox.new (w.alloc (.cells #[.int .i64 g.root.kind, .int .i64 g.root.num, .string g.root.text, .int .i64 g.root.node, .slice a g.nodes.length cap] 27)) g' a' cap' 27
      rw [show (w.alloc (.cells #[.int .i64 g.root.kind, .int .i64 g.root.num, .string g.root.text, .int .i64 g.root.node, .slice a g.nodes.length cap] 27)).heap.size = w.heap.size + 1 by simp] at hY0
      clear hle
      have hd : ((g.nodes.length : Int) != (g'.nodes.length : Int)) = false := by rw [hle'.out]; simp
      go_enter Try.func77, Try.ntmps77
      go_wp2
      go_loopw [5, 6, 24] (fun _ _ i wr => ∃ k : Nat, k ≤ g.nodes.length ∧ i = .int .i64 k ∧ Hid (g.nodes.take k = g'.nodes.take k) ∧ GBox wr w.heap.size g a cap ∧ GBox wr (w.heap.size + 1) g' a' cap' ∧ Below w.heap.size w wr) (fun _ _ i _ => g.nodes.length - (intOf i).toNat)
      case atStart => exact ⟨0, Nat.zero_le _, rfl, rfl, hX0, hY0, gal (gal (gre _) _) _⟩
      case round =>
        obtain ⟨k, hk, rfl, hall, hX, hY, hb⟩ := hrel
        clear hX0 hY0 hne
        by_cases hlt : k < g.nodes.length
        · have hlt2 : k < g'.nodes.length := by have := hle'.out; omega
          have hlt' : Hid (k < g'.nodes.length) := hlt2
          obtain ⟨n, b, off, av, cv, hvk, hvm, rfl, hbs, hva⟩ := ha.get hlt
          obtain ⟨n', b', off', av', cv', hvk', hvm', rfl, hbs', hva'⟩ := ha'.get hlt2
          have hva := hva.below hb hbs
          have hva' := hva'.below hb hbs'
          have c0 := hva.tag
          have c1 := hva.sl
          have d0 := hva'.tag
          have d1 := hva'.sl
          have x4 := hX.sl
          have y4 := hY.sl
          have i0 : (0 : Int) ≤ (k : Int) := by omega
          have i1 : (k : Int) < (g.nodes.length : Int) := by omega
          have i2 : (k : Int) < (g'.nodes.length : Int) := by omega
          have hvl := hv n hvm
          have hvl' := hv' n' hvm'
          unfold maxLen at hvl hvl'
          have hv1 : ValsAt wr.heap.size wr av n.vals := hva.vals.mono hb.size
          have hv2 : ValsAt wr.heap.size wr av' n'.vals := hva'.vals.mono hb.size
          clear ha ha' hva hva'
          have hdiff : Hid (n ≠ n' → ¬ g = g') := fun h e => take_ne hlt hlt2 (fun e2 => h (by rw [hvk.out, hvk'.out, e2])) (by rw [e])
          by_cases ht : n.tag = n'.tag
          · have ht' : Hid _ := ht
            have ht2 : (n.tag != n'.tag) = false := by rw [ht]; simp
            clear ht
            by_cases hvle : n.vals.length = n'.vals.length
            · have hvle' : Hid _ := hvle
              have hvl2 : ((n.vals.length : Int) != (n'.vals.length : Int)) = false := by rw [hvle]; simp
              clear hvle
              go_wp2
              go_quiet (fail)
              go_wp2
              rename World => wo
              go_loopw [6, 64] (fun _ i ws => ∃ j : Nat, j ≤ n.vals.length ∧ i = .int .i64 j ∧ Hid (n.vals.take j = n'.vals.take j) ∧ Below wo.heap.size wo ws) (fun _ i _ => n.vals.length - (intOf i).toNat)
              case atStart => exact ⟨0, Nat.zero_le _, rfl, rfl, below_drewN (gre _) _⟩
              case round =>
                obtain ⟨j, hj, rfl, hallj, hbj⟩ := hrel
                have x4' := cell_later hbj x4
                have y4' := cell_later hbj y4
                have c1' := cell_later hbj c1
                have d1' := cell_later hbj d1
                by_cases hjt : j < n.vals.length
                · have hjt2 : j < n'.vals.length := by have := hvle'.out; omega
                  have hjt' : Hid (j < n'.vals.length) := hjt2
                  obtain ⟨v, vb, voff, hjk, hjm, rfl, hvbs, hvva⟩ := hv1.get hjt
                  obtain ⟨v', vb', voff', hjk', hjm', rfl, hvbs', hvva'⟩ := hv2.get hjt2
                  have hvva := hvva.below hbj hvbs
                  have hvva' := hvva'.below hbj hvbs'
                  have p0 := hvva.kind
                  have p1 := hvva.num
                  have p2 := hvva.text
                  have p3 := hvva.node
                  have q0 := hvva'.kind
                  have q1 := hvva'.num
                  have q2 := hvva'.text
                  have q3 := hvva'.node
                  have j0 : (0 : Int) ≤ (j : Int) := by omega
                  have j1 : (j : Int) < (n.vals.length : Int) := by omega
                  have j2 : (j : Int) < (n'.vals.length : Int) := by omega
                  have hne := run_neq_val v v'
                  clear hv1 hv2 hvva hvva' x4 y4 c0 c1 d0 d1
                  cases hs : sameV v v' with
                  | true =>
                    have hvv : v = v' := (sameV_iff v v').1 hs
                    have hnext : Hid (n.vals.take (j + 1) = n'.vals.take (j + 1)) := take_eq_succ hjt hjt2 hallj.out (by rw [← hjk.out, ← hjk'.out, hvv])
                    rw [hs] at hne
                    simp only [Bool.not_true] at hne
                    clear hvv hs
                    go_wp2
                    go_quiet (fail)
                    go_wp2
                    go_roundw
                    case rel => exact ⟨j + 1, by omega, by go_num, hnext, below_drewN hbj _⟩
                    case measure => simp [intOf]; omega
                  | false =>
                    have hvv : Hid (¬ n = n') := fun e => take_ne hjt hjt2 (fun e2 => by rw [← hjk.out, ← hjk'.out] at e2; rw [(sameV_iff v v').2 e2] at hs; cases hs) (by rw [e])
                    rw [hs] at hne
                    simp only [Bool.not_false] at hne
                    clear hs
                    go_wp2
                    go_quiet (fail)
                    go_wp2
                    go_ret
                    exact ⟨false, rfl, ⟨fun h => (by cases h), fun h => absurd h (hdiff.out hvv.out)⟩, hb.trans ((below_drewN hbj _).mono hb.size)⟩
                · have hnn : n = n' := by
                    have h1 := hallj.out
                    have h2 := hvle'.out
                    rw [List.take_of_length_le (by omega), List.take_of_length_le (by omega)] at h1
                    exact gn_ext ht'.out h1
                  have hnext : Hid (g.nodes.take (k + 1) = g'.nodes.take (k + 1)) := take_eq_succ hlt hlt2 hall.out (by rw [← hvk.out, ← hvk'.out, hnn])
                  clear hnn x4 y4 c0 c1 d0 d1
                  go_wp2
                  go_roundw
                  case rel => exact ⟨k + 1, by omega, by go_num, hnext, hX.grow hbj, hY.grow hbj, hb.trans (hbj.mono hb.size)⟩
                  case measure => simp [intOf]; omega
            · have hd2 : ((n.vals.length : Int) != (n'.vals.length : Int)) = true := by simp; omega
              go_wp2
              go_quiet (fail)
              go_wp2
              go_ret
              exact ⟨false, rfl, ⟨fun h => (by cases h), fun h => absurd h (hdiff.out (fun e => hvle (by rw [e])))⟩, below_drewN hb _⟩
          · have ht2 : (n.tag != n'.tag) = true := by simp [ht]
            go_wp2
            go_quiet (fail)
            go_wp2
            go_ret
            exact ⟨false, rfl, ⟨fun h => (by cases h), fun h => absurd h (hdiff.out (fun e => ht (by rw [e])))⟩, below_drewN hb _⟩
        · have hvv : Hid (g = g') := by
            have h1 := hall.out
            have h2 := hle'.out
            rw [List.take_of_length_le (by omega), List.take_of_length_le (by omega)] at h1
            exact gg_ext hrr.out h1
          go_wp2
          go_ret
          exact ⟨true, rfl, ⟨fun _ => hvv.out, fun _ => rfl⟩, hb⟩
    · have hd : ¬ ((g.nodes.length : Int) = (g'.nodes.length : Int)) := by omega
      go_enter Try.func77, Try.ntmps77
      go_wp2
      go_ret
      exact ⟨false, rfl, ⟨fun h => (by cases h), fun h => absurd (by rw [h]) hle⟩, gal (gal (gre _) _) _⟩

end Go.Proofs.Ythjddpkegooobaa
