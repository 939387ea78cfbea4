/-
  IPUT: the program's Put. Own work.
-/
import Derived.Test.YthjddpkegooobabSPut
import Derived.Test.YthjddpkegooobabISyncA
namespace Go.Proofs.Ythjddpkegooobab
open Go.RowKit

set_option maxHeartbeats 1000000 in
set_option maxRecDepth 100000 in
theorem drvPut_no (x : DW) (a : Option Addr) (cap p : Nat) (bl : List (List Nat)) (pa : Option Addr) (pc : Nat) (ws : List DW) (kv : Value) (w : World) (hb : I64 x.block) (hkl : x.bytes.length ≤ maxLen) (_hw : ws.length ≤ 201) (hno : wrOk x = false ∨ ws.length = 200) (hDr : Dr w p bl pa pc ws kv) :
    Calls Try.prog 105 #[.pointer (some ⟨p, 0, none⟩), x.val a cap] w fun e w' => e = .returned (.bool false) ∧ Below w.heap.size w w' := by
  have hA := gal (gre w) (.cells #[.int .i64 x.block, .slice a x.bytes.length cap] 133)
  have hY0 := VB.new_at w (.int .i64 x.block) (.slice a x.bytes.length cap) 133 w.heap.size rfl
  cases hwr : wrOk x with
  | false =>
    have hwr' : Hid _ := hwr
    clear hwr hno
    obtain ⟨y0, y1, yf⟩ := id hY0
    go_enter Try.func105, Try.ntmps105
    go_wp2_with (go_at_call 101; refine (writeOk_any x a cap _ hb hkl).mono ?_; rintro e w3 ⟨rfl, hb3⟩; rw [hwr'.out])
    go_ret
    exact ⟨rfl, gca hA hb3⟩
  | true =>
    have g3 : ws.length = 200 := hno.resolve_left (by rw [hwr]; simp)
    have t3 : ((ws.length : Int) == 200) = true := by simp; omega
    have hwr' : Hid _ := hwr
    clear hwr hno g3
    obtain ⟨y0, y1, yf⟩ := id hY0
    go_enter Try.func105, Try.ntmps105
    go_wp2_with (go_at_call 101; refine (writeOk_any x a cap _ hb hkl).mono ?_; rintro e w3 ⟨rfl, hb3⟩; rw [hwr'.out]; have x0 := ((hDr.d.grow hA).grow hb3).ws)
    go_ret
    exact ⟨rfl, gca hA hb3⟩

set_option maxHeartbeats 1000000 in
set_option maxRecDepth 100000 in
theorem drvPutK_yes (x : DW) (a : Option Addr) (cap p : Nat) (bl : List (List Nat)) (pa : Option Addr) (pc : Nat) (ws : List DW) (kv : Value) (w : World) (hb : I64 x.block) (hkl : x.bytes.length ≤ maxLen) (hw : ws.length ≤ 200) (hwr : wrOk x = true) (g3 : ws.length ≠ 200) (ha : BytesAt w a x.bytes) (hfar : ∀ b off, a = some ⟨b, off, none⟩ → b < p) (hDr : Dr w p bl pa pc ws kv) :
    Calls Try.prog 105 #[.pointer (some ⟨p, 0, none⟩), x.val a cap] w fun e w' => e = .returned (.bool true) ∧ ∃ pa' pc', Dr w' p bl pa' pc' (ws ++ [x]) kv ∧ Kept (fun z => z = p ∨ (Value.slice pa ws.length pc).ownBlock = some z) w w' := by
  have hA := gal (gre w) (.cells #[.int .i64 x.block, .slice a x.bytes.length cap] 133)
  have hY0 := VB.new_at w (.int .i64 x.block) (.slice a x.bytes.length cap) 133 w.heap.size rfl
  have t3 : ((ws.length : Int) == 200) = false := by simp; omega
  have hn64 : Hid (x.bytes.length = 64) := by have := hwr; simp only [wrOk, Bool.and_eq_true, decide_eq_true_eq] at this; exact this.2
  have hwr' : Hid _ := hwr
  clear hwr g3
  obtain ⟨y0, y1, yf⟩ := id hY0
  go_enter Try.func105, Try.ntmps105
  go_wp2_with (first
    | (go_at_call 101; refine (writeOk_any x a cap _ hb hkl).mono ?_; rintro e w3 ⟨rfl, hb3⟩; rw [hwr'.out]; have x0 := ((hDr.d.grow hA).grow hb3).ws; obtain ⟨y0, y1, yf⟩ := hY0.grow hb3)
    | (go_at_call 155; refine (takeK_any x a cap p bl pa pc ws kv _ hn64.out hw (ha.grow (gca hA hb3)) hfar (hDr.grow (gca hA hb3))).mono ?_; rintro e w5 ⟨rfl, pa5, pc5, hDr5, hK5⟩))
  go_ret
  exact ⟨rfl, pa5, pc5, hDr5, (Kept.of_below (gca hA hb3) _).trans hK5 (fun _ _ e => e)⟩

theorem drvPut_yes (x : DW) (a : Option Addr) (cap p : Nat) (bl : List (List Nat)) (pa : Option Addr) (pc : Nat) (ws : List DW) (kv : Value) (w : World) (hb : I64 x.block) (hkl : x.bytes.length ≤ maxLen) (hw : ws.length ≤ 200) (hwr : wrOk x = true) (g3 : ws.length ≠ 200) (ha : BytesAt w a x.bytes) (hfar : ∀ b off, a = some ⟨b, off, none⟩ → b < p) (hDr : Dr w p bl pa pc ws kv) :
    Calls Try.prog 105 #[.pointer (some ⟨p, 0, none⟩), x.val a cap] w fun e w' => e = .returned (.bool true) ∧ ∃ pa' pc', Dr w' p bl pa' pc' (ws ++ [x]) kv ∧ Kept (fun b => p ≤ b) w w' :=
  (drvPutK_yes x a cap p bl pa pc ws kv w hb hkl hw hwr g3 ha hfar hDr).mono fun _ _ ⟨he, pa', pc', hD, hK⟩ => ⟨he, pa', pc', hD, hK.mono (fun z _ e => by
    rcases e with e | e
    · omega
    · have := (hDr.own.lt z e).1; omega)⟩

theorem put_tame {d : DD} {b : Int} {ks : List Nat} (hd : d.Ok) (hb : I64 b) (hk : BOk ks) : (d.put b ks).Ok ∧ (d.put b ks = zeroD ∨ (d.put b ks).Fit) := by
  cases hok : d.ok with
  | false => rw [put_no1 hok]; exact ⟨⟨Nat.zero_le _, fun b hb => (by cases hb), Nat.zero_le _, fun x hx => (by cases hx), fun x hx => (by cases hx)⟩, Or.inl rfl⟩
  | true =>
    cases hwr : wrOk ⟨b, ks⟩ with
    | false => rw [put_no2 hwr]; exact ⟨⟨Nat.zero_le _, fun b hb => (by cases hb), Nat.zero_le _, fun x hx => (by cases hx), fun x hx => (by cases hx)⟩, Or.inl rfl⟩
    | true =>
      by_cases h : d.waiting.length = 200
      · rw [put_no3 h]; exact ⟨⟨Nat.zero_le _, fun b hb => (by cases hb), Nat.zero_le _, fun x hx => (by cases hx), fun x hx => (by cases hx)⟩, Or.inl rfl⟩
      · have hf := DD.fit hok
        rw [put_yes hok hwr h]
        have hl : (d.waiting ++ [(⟨b, ks⟩ : DW)]).length = d.waiting.length + 1 := by simp
        have hw := hf.wl
        have hwr2 : 0 ≤ b ∧ b < 130 ∧ ks.length = 64 := by
          simp only [wrOk, Bool.and_eq_true, decide_eq_true_eq] at hwr
          exact ⟨hwr.1.1, hwr.1.2, hwr.2⟩
        refine ⟨⟨hd.bl, hd.bb, by show (d.waiting ++ [(⟨b, ks⟩ : DW)]).length ≤ maxLen; rw [hl]; unfold maxLen; omega, fun x hx => ?_, fun x hx => ?_⟩, Or.inr ⟨hf.bl, by show (d.waiting ++ [(⟨b, ks⟩ : DW)]).length ≤ 200; rw [hl]; omega, hf.bb, fun x hx => ?_⟩⟩
        all_goals
          rcases List.mem_append.1 hx with e | e
        · exact hd.wi x e
        · obtain rfl : x = (⟨b, ks⟩ : DW) := by simpa using e
          exact hb
        · exact hd.wb x e
        · obtain rfl : x = (⟨b, ks⟩ : DW) := by simpa using e
          exact hk
        · exact hf.wb x e
        · obtain rfl : x = (⟨b, ks⟩ : DW) := by simpa using e
          exact hwr2

end Go.Proofs.Ythjddpkegooobab
