/-
  TokenParts: any text is parted into the tokens of the document.
-/
import Derived.Test.YtglfjgnbfligoaaDoorTkW
import Derived.Test.YtglfjgnbfligoaaDoorRkF
import Derived.Deep.QuietTactic
namespace Go.Proofs.YtglfjgnbfligoaaDoor
open Go.RowKit

set_option maxHeartbeats 1000000 in
theorem same_eq (ad bd : Option Addr) (ca cb : Nat) (l : List Tk) (w : World) (hl : l.length ≤ 9223372036854775807) (hA : TksAt w ad l) (hB : TksAt w bd l) :
    Calls Tryd.prog 12 #[.slice ad l.length ca, .slice bd l.length cb] w fun e w' => e = .returned (.bool true) ∧ Kp [] w w' := by
  have HA := hide hA
  have HB := hide hB
  clear hA hB
  go_enter Tryd.func12, Tryd.ntmps12
  go_wp2
  go_loopw [5] (fun i wr => ∃ k : Nat, k ≤ l.length ∧ i = .int .i64 (k : Int) ∧ Kp [] w wr) (fun i _ => l.length - (intOf i).toNat)
  case atStart => exact ⟨0, Nat.zero_le _, rfl, Kp.refl _ _⟩
  case round =>
    obtain ⟨k, hk, rfl, hkp⟩ := hrel
    have HKP := hide hkp
    by_cases hlt : k < l.length
    · obtain ⟨b, off, rfl, _, x0, x1, x2, x3⟩ := ((unhide HA).kp hkp).at k hlt
      obtain ⟨b', off', rfl, _, y0, y1, y2, y3⟩ := ((unhide HB).kp hkp).at k hlt
      generalize l[k].kd = kd at *
      generalize l[k].s = ks at *
      generalize l[k].n = kn at *
      generalize l[k].pl = kp at *
      clear hkp
      go_wp2_with fail
      go_quiet (fail)
      go_wp2
      go_roundw
      case rel => exact ⟨k + 1, by omega, by go_num, (unhide HKP).trans (Kp.drewQ _ _) (by simp)⟩
      case measure => simp [intOf]; omega
    · clear hkp
      go_wp2
      go_ret
      exact ⟨rfl, unhide HKP⟩
theorem names_any (w : World) : Calls Tryd.prog 11 #[] w fun e w' => e = .returned (.bool true) ∧ w' = w := by
  go_enter Tryd.func11, Tryd.ntmps11
  go_wp2
  go_ret
  exact ⟨rfl, rfl⟩
set_option maxHeartbeats 1000000 in
set_option maxRecDepth 100000 in
theorem parts_walk (s : ByteArray) (w : World) (hs : s.size ≤ 9223372036854775807) (hT : TbW w) :
    Calls Tryd.prog 3 #[.string s] w fun e w' => e = .returned (.bool true) ∧ Kp [] w w' := by
  have hlow := hT.low
  have TK := tokens_at s w hT hs
  have RT := fun W => rTokens_any s W hs
  have hlen := tsL_len s
  generalize tsA (tsR s) = A at *
  generalize tsC (tsR s) = C at *
  generalize tsL s.size (tsR s) = L at *
  have HTK : Hid (Calls Tryd.prog 9 #[.string s] w fun e w' => ∃ ad cp, e = .returned (.tuple #[.slice ad L.length cp, .agg #[.int .i64 A, .int .i64 C]]) ∧ TksAt w' ad L ∧ Below w.heap.size w w') := hide (TK.mono fun e w' ⟨ad, cp, h1, h2, _, _, h3⟩ => ⟨ad, cp, h1, h2, h3⟩)
  have HRT : Hid (∀ W, Calls Tryd.prog 10 #[.string s] W fun e w' => ∃ ad cp, e = .returned (.tuple #[.slice ad L.length cp, .agg #[.int .i64 A, .int .i64 C]]) ∧ TksAt w' ad L ∧ Below W.heap.size W w') := hide (fun W => (RT W).mono fun e w' ⟨v, h1, h2, h3⟩ => by
    obtain ⟨ad, cp, rfl, h4, _⟩ := h2.at
    exact ⟨ad, cp, h1, h4, h3⟩)
  clear TK RT
  go_enter Tryd.func3, Tryd.ntmps3
  go_wp2_with fail
  refine (unhide HTK).mono ?_
  rintro e w1 ⟨a1, c1, rfl, hA1, hb1⟩
  have hl1 := hb1.size
  have HB1 := hide hb1
  clear hb1 HTK
  go_wp2_with fail
  refine (unhide HRT _).mono ?_
  rintro e w2 ⟨a2, c2, rfl, hA2, hb2⟩
  have hl2 := hb2.size
  have hA12 : TksAt (w2.alloc (.cells #[.int .i64 A, .int .i64 C] 25)) a1 L := ((hA1.kp (Kp.alloc _ _)).kp (Kp.ofBelow hb2)).kp (Kp.alloc _ _)
  have hA22 : TksAt (w2.alloc (.cells #[.int .i64 A, .int .i64 C] 25)) a2 L := hA2.kp (Kp.alloc _ _)
  have q1 : CBox w1.heap.size #[.int .i64 A, .int .i64 C] 25 (w2.alloc (.cells #[.int .i64 A, .int .i64 C] 25)) := CBox.kp (CBox.kp (CBox.new w1 _ _) (Kp.ofBelow hb2) (by simp)) (Kp.alloc _ _) (by simp)
  have q2 : CBox w2.heap.size #[.int .i64 A, .int .i64 C] 25 (w2.alloc (.cells #[.int .i64 A, .int .i64 C] 25)) := CBox.new w2 _ _
  have hB2 : Below w.heap.size w (w2.alloc (.cells #[.int .i64 A, .int .i64 C] 25)) := (((unhide HB1).alloc hl1 _).trans (hb2.mono (by simp; omega))).alloc (by simp at hl2; omega) _
  have SE := same_eq a1 a2 c1 c2 L (w2.alloc (.cells #[.int .i64 A, .int .i64 C] 25)) (by omega) hA12 hA22
  have HSE := hide SE
  have HB2 := hide hB2
  have Q1 := hide q1
  have Q2 := hide q2
  clear SE hA1 hA2 hA12 hA22 hb2 HB1 HRT hB2 q1 q2
  go_wp2_with fail
  generalize w2.alloc (.cells #[.int .i64 A, .int .i64 C] 25) = W2 at *
  refine (names_any W2).mono ?_
  rintro e w3 ⟨rfl, rfl⟩
  go_wp2_with fail
  refine (unhide HSE).mono ?_
  rintro e w4 ⟨rfl, hk4⟩
  have q1 := CBox.kp (unhide Q1) hk4 (by simp)
  have q2 := CBox.kp (unhide Q2) hk4 (by simp)
  have x0 := CBox.cell (i := 0) (v := .int .i64 A) q1 rfl
  have x1 := CBox.cell (i := 1) (v := .int .i64 C) q1 rfl
  have y0 := CBox.cell (i := 0) (v := .int .i64 A) q2 rfl
  have y1 := CBox.cell (i := 1) (v := .int .i64 C) q2 rfl
  have hk5 : Kp [] w w4 := (Kp.ofBelow (unhide HB2)).trans hk4 (by simp)
  have hT4 := hT.kp hk5 (by simp)
  have HK5 := hide hk5
  clear q1 q2 hk4 hk5 Q1 Q2 HSE
  go_wp2_with fail
  refine (tworks_any _ hT4).mono ?_
  rintro e w5 ⟨rfl, hb5⟩
  have HK6 : Hid (Kp [] w w5) := hide ((unhide HK5).trans (Kp.ofBelow hb5) (by simp))
  clear hb5
  go_wp2
  go_ret
  exact ⟨rfl, unhide HK6⟩
end Go.Proofs.YtglfjgnbfligoaaDoor
