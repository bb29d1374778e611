/-
  The document's tokens: digits.
-/
import Derived.Test.YtglfjgnbfligoaaDoorTkF
import Derived.Test.YtglfjgnbfligoaaDoorRow0
namespace Go.Proofs.YtglfjgnbfligoaaDoor
open Go.RowKit

theorem one_string (w : World) (c : Nat) : (convert 50 9 (.slice (some ⟨w.heap.size, 0, none⟩) 1 1)).run Tryd.prog (w.alloc (.cells #[.int .u8 (c : Int)] 5)) = .ok (.string (txt [UInt8.ofNat c])) (w.alloc (.cells #[.int .u8 (c : Int)] 5)) := by
  have := run_convert_bytes_arg (P := Tryd.prog) (w.alloc (.cells #[.int .u8 (c : Int)] 5)) 50 5 Tryd.underlying50 Tryd.underlying5 w.heap.size 0 1 1 [(c : Int)] (by simp) (fun i hi => by
    obtain rfl : i = 0 := by simpa using hi
    simp) 9 Tryd.underlying9
  rw [show strOfNums [(c : Int)] = txt [UInt8.ofNat c] by unfold strOfNums txt; simp] at this
  exact this
theorem dec_step (m : Nat) (h : ¬ m < 10) : Lib.decDigits m = Lib.decDigits (m / 10) ++ [UInt8.ofNat (48 + m % 10)] := by rw [Lib.decDigits, dif_neg h]
set_option maxHeartbeats 400000 in
set_option maxRecDepth 100000 in
theorem rDigits_any (N : Nat) (w : World) (hN : N ≤ 9223372036854775807) :
    Calls Tryd.prog 43 #[.int .i64 (N : Int)] w fun e w' => e = .returned (.string (txt (Lib.decDigits N))) ∧ Below w.heap.size w w' := by
  have HLN : Hid ((Lib.decDigits N).length ≤ 21) := hide (by have := Lib.itoa_length_le (N : Int) (by omega) (by omega); rw [itoa_nat] at this; exact this)
  go_enter Tryd.func43, Tryd.ntmps43
  go_wp2
  go_loopw [0, 3] (fun n s wr => ∃ (m : Nat) (D : List UInt8), n = .int .i64 (m : Int) ∧ s = .string (txt D) ∧ m ≤ 9223372036854775807 ∧ Hid (Lib.decDigits N = Lib.decDigits m ++ D) ∧ Below w.heap.size w wr) (fun n _ _ => (intOf n).toNat)
  case atStart => exact ⟨N, [], rfl, rfl, hN, hide (by simp), Below.refl _ _⟩
  case round =>
    obtain ⟨m, D, rfl, rfl, hm, HD, hbe⟩ := hrel
    have hDl : D.length ≤ 21 := by have := congrArg List.length (unhide HD); have := unhide HLN; simp at *; omega
    have hr : (m : Int) % 10 = ((m % 10 : Nat) : Int) := by omega
    have hq : (m : Int) / 10 = ((m / 10 : Nat) : Int) := by omega
    have hr10 : m % 10 < 10 := by omega
    have hq10 : m / 10 ≤ m := by omega
    have OS := one_string wr (48 + m % 10)
    rw [show ((48 + m % 10 : Nat) : Int) = 48 + ((m % 10 : Nat) : Int) by omega] at OS
    have b1 : (9223372036854775807 < (txt [UInt8.ofNat (48 + m % 10)]).size + (txt D).size) = False := eq_false (by rw [txt_size, txt_size]; simp; omega)
    have HB : Hid (Below w.heap.size w (wr.alloc (.cells #[.int .u8 (48 + ((m % 10 : Nat) : Int))] 5))) := hide (hbe.alloc hbe.size _)
    have HT : Hid (txt [UInt8.ofNat (48 + m % 10)] ++ txt D = txt (UInt8.ofNat (48 + m % 10) :: D)) := hide (by apply ByteArray.ext; apply Array.ext'; simp [txt])
    by_cases hs : m < 10
    · have HE : Hid (Lib.decDigits N = UInt8.ofNat (48 + m % 10) :: D) := hide (by rw [unhide HD, Lib.decDigits_one hs, Nat.mod_eq_of_lt hs]; rfl)
      have h0 : m / 10 = 0 := by omega
      rw [h0] at hq
      have hq' : (m : Int) / 10 = 0 := hq
      clear hq h0
      generalize UInt8.ofNat (48 + m % 10) = c8 at *
      generalize m % 10 = r at *
      clear hDl hbe
      go_wp2
      go_ret
      exact ⟨by rw [unhide HE, ← unhide HT]; rfl, unhide HB⟩
    · have HE : Hid (Lib.decDigits N = Lib.decDigits (m / 10) ++ (UInt8.ofNat (48 + m % 10) :: D)) := hide (by rw [unhide HD, dec_step m hs]; simp)
      have hqp : 0 < m / 10 := by omega
      have hql : m / 10 < m := by omega
      generalize UInt8.ofNat (48 + m % 10) = c8 at *
      generalize m % 10 = r at *
      generalize m / 10 = q at *
      have g0 : ((q : Int) == 0) = false := by simp; omega
      clear hDl hbe
      go_wp2
      go_roundw
      case rel => exact ⟨q, _, rfl, by rw [unhide HT], by omega, HE, unhide HB⟩
      case measure => simp [intOf]; omega
end Go.Proofs.YtglfjgnbfligoaaDoor
