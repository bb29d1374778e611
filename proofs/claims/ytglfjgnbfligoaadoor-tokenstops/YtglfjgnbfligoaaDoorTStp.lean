/-
  TokenStops: what stands ahead of the place at which a text is refused is tokens.
-/
import Derived.Test.YtglfjgnbfligoaaDoorTkW
namespace Go.Proofs.YtglfjgnbfligoaaDoor
open Go.RowKit

theorem tsR_stops (s : ByteArray) (h : tsC (tsR s) = 100) : ∃ k : Nat, tsA (tsR s) = (k : Int) ∧ k < s.size ∧ ∃ ts, tsR (s.extract 0 k) = .good ts := by
  unfold tsR at h ⊢
  split at h
  · simp [tsC] at h
  · rename_i hb
    rw [if_neg hb]
    cases hR : toks s.data.toList 0 0 with
    | good ts => rw [hR] at h; simp [tsC] at h
    | bad k c =>
      rw [hR] at h
      simp only [tsC] at h
      subst h
      obtain ⟨h1, h2, ts, h3⟩ := toks_stops _ 0 0 k hR
      rw [Nat.zero_add, size_list] at h2
      refine ⟨k, rfl, h2, ts, ?_⟩
      rw [if_neg (by rw [ByteArray.size_extract]; omega), ext_to, txt_list]
      exact h3
set_option maxHeartbeats 2000000 in
set_option maxRecDepth 100000 in
theorem stops_walk (s : ByteArray) (w : World) (hs : s.size ≤ 9223372036854775807) (hT : TbW w) :
    Calls Tryd.prog 8 #[.string s] w fun e w' => e = .returned (.bool true) ∧ Kp [] w w' := by
  have hlow := hT.low
  have TK := fun W hW => tokens_at s W hW hs
  have HST := hide (tsR_stops s)
  by_cases hc : tsC (tsR s) = 100
  · obtain ⟨k, ha, hk, ts, hr⟩ := unhide HST hc
    have TK2 := fun W hW => tokens_at (s.extract 0 k) W hW (by rw [ByteArray.size_extract]; omega)
    rw [hr] at TK2
    rw [hc, ha] at TK
    generalize tsL s.size (tsR s) = L at *
    have HTK := hide TK
    have hl2 : 0 < (tsL (s.extract 0 k).size (.good ts)).length := by simp [tsL]
    generalize tsL (s.extract 0 k).size (.good ts) = L2 at *
    have HTK2 : Hid (∀ W, TbW W → Calls Tryd.prog 9 #[.string (s.extract 0 k)] W fun e w' => ∃ ad cp, e = .returned (.tuple #[.slice ad L2.length cp, .agg #[.int .i64 0, .int .i64 0]]) ∧ Below W.heap.size W w') := hide (fun W hW => (TK2 W hW).mono fun e w' ⟨ad, cp, h1, _, _, _, h2⟩ => ⟨ad, cp, h1, h2⟩)
    clear TK TK2 HST hc ha hr
    generalize L2.length = n2 at *
    generalize L.length = n1 at *
    go_enter Tryd.func8, Tryd.ntmps8
    go_wp2_with fail
    refine (tworks_any w hT).mono ?_
    rintro e w1 ⟨rfl, hb1⟩
    have hT1 := hT.below hb1 hlow
    have hl1 := hb1.size
    go_wp2_with fail
    refine (unhide HTK _ hT1).mono ?_
    rintro e w2 ⟨a2, c2, rfl, _, _, _, hb2⟩
    have hT2 := (hT1.below hb2 hT1.low).alloc (.cells #[.int .i64 (k : Int), .int .i64 100] 25)
    have hb12 : Below w.heap.size w w2 := hb1.trans (hb2.mono hl1)
    have hl2' := hb12.size
    have HB2 := hide hb12
    clear hb1 hb2 hb12 hT1
    go_wp2_with fail
    refine (unhide HTK2 _ hT2).mono ?_
    rintro e w3 ⟨a3, c3, rfl, hb3⟩
    have HB3 : Hid (Kp [] w (w3.alloc (.cells #[.int .i64 0, .int .i64 0] 25))) := hide (Kp.ofBelow ((((unhide HB2).alloc hl2' _).trans (hb3.mono (by simp; omega))).alloc (by have := hb3.size; simp at this; omega) _))
    clear hb3
    go_wp2
    go_ret
    exact ⟨rfl, unhide HB3⟩
  · have g : (tsC (tsR s) != 100) = true := by simpa using hc
    generalize tsL s.size (tsR s) = L at *
    generalize tsA (tsR s) = A at *
    generalize tsC (tsR s) = C at *
    have HTK := hide TK
    clear TK HST hc
    generalize L.length = n1 at *
    go_enter Tryd.func8, Tryd.ntmps8
    go_wp2_with fail
    refine (tworks_any w hT).mono ?_
    rintro e w1 ⟨rfl, hb1⟩
    have hT1 := hT.below hb1 hlow
    have hl1 := hb1.size
    go_wp2_with fail
    refine (unhide HTK _ hT1).mono ?_
    rintro e w2 ⟨a2, c2, rfl, _, _, _, hb2⟩
    have hb12 : Below w.heap.size w w2 := hb1.trans (hb2.mono hl1)
    have HB2 : Hid (Kp [] w (w2.alloc (.cells #[.int .i64 A, .int .i64 C] 25))) := hide (Kp.ofBelow (hb12.alloc hb12.size _))
    clear hb1 hb2 hb12 hT1
    go_wp2
    go_ret
    exact ⟨rfl, unhide HB2⟩
end Go.Proofs.YtglfjgnbfligoaaDoor
