/-
  The document's answer for numbers (turned, back, Number) is the plain functions'.
-/
import Derived.Test.YtijckimjcogfjaaChecked
import Derived.Test.YtijckimjcogfjaaOwn
import Derived.Test.YtijckimjcogfjaaNum
import Derived.WalkLawsBesides
import Derived.Lib.SmallJoins
namespace Go.Proofs.Ytijckimjcogfjaa
open Go.RowKit

set_option maxHeartbeats 400000 in
set_option maxRecDepth 100000 in
theorem turned_any (n : Int) (w : World) (h0 : -9223372036854775808 ≤ n) (h1 : n < 9223372036854775808) :
    Calls Try.prog 75 #[.int .i64 n] w fun e w' => e = .returned (.int .u64 (zig n : Nat)) ∧ w' = w := by
  by_cases hn : n < 0
  · have e := zig_neg hn
    go_enter Try.func75, Try.ntmps75
    go_wp2
    all_goals go_ret
    all_goals exact ⟨ret_int (by omega), rfl⟩
  · have hn' : 0 ≤ n := by omega
    have e := zig_pos hn'
    go_enter Try.func75, Try.ntmps75
    go_wp2
    all_goals go_ret
    all_goals exact ⟨ret_int (by omega), rfl⟩
set_option maxHeartbeats 400000 in
set_option maxRecDepth 100000 in
theorem back_any (u : Nat) (w : World) (h1 : u < 18446744073709551616) :
    Calls Try.prog 74 #[.int .u64 (u : Int)] w fun e w' => e = .returned (.int .i64 (unzig u)) ∧ w' = w := by
  by_cases hu : u % 2 = 1
  · have hb : (((u : Int) % 2) == 1) = true := beq_iff_eq.2 (by omega)
    have e : unzig u = -((u / 2 : Nat) : Int) - 1 := by unfold unzig; rw [if_pos hu]
    go_enter Try.func74, Try.ntmps74
    go_wp2
    all_goals go_ret
    all_goals exact ⟨ret_int (by omega), rfl⟩
  · have hb : (((u : Int) % 2) == 1) = false := beq_eq_false_iff_ne.2 (by omega)
    have e : unzig u = ((u / 2 : Nat) : Int) := by unfold unzig; rw [if_neg hu]
    go_enter Try.func74, Try.ntmps74
    go_wp2
    all_goals go_ret
    all_goals exact ⟨ret_int (by omega), rfl⟩
/-- A row of one byte as a string. -/
theorem conv1 (w : World) (c : Nat) (_hc : c < 256) : (convert 82 9 (.slice (some ⟨w.heap.size, 0, none⟩) 1 1)).run Try.prog (w.alloc (.cells #[.int .u8 (c : Int)] 5)) = .ok (.string ⟨#[UInt8.ofNat c]⟩) (w.alloc (.cells #[.int .u8 (c : Int)] 5)) := by
  have := run_convert_bytes_arg (P := Try.prog) (w.alloc (.cells #[.int .u8 (c : Int)] 5)) 82 5 Try.underlying82 Try.underlying5 w.heap.size 0 1 1 [(c : Int)] rfl (fun i hi => by
    match i, hi with
    | 0, _ => simp) 9 Try.underlying9
  rw [show strOfNums [(c : Int)] = ⟨#[UInt8.ofNat c]⟩ by simp [strOfNums]] at this
  exact this
set_option maxHeartbeats 1000000 in
set_option maxRecDepth 100000 in
theorem refNumber_any (n : Int) (w : World) (h0 : -9223372036854775808 ≤ n) (h1 : n < 9223372036854775808) :
    Calls Try.prog 71 #[.int .i64 n] w fun e w' => e = .returned (.string ⟨(numB (zig n)).toArray⟩) ∧ Below w.heap.size w w' := by
  have hu : zig n < 18446744073709551616 := zig_lt h0 h1
  have ht := turned_any n w h0 h1
  have hnl := (numB_length (u := zig n) hu).2
  generalize zig n = u at *
  have HT := hide ht
  clear ht h0 h1
  obtain ⟨c, hc, ec, hd⟩ : ∃ c : Nat, c < 128 ∧ (u : Int) % 128 = (c : Int) ∧ numB u = hiB (u / 128) ++ [UInt8.ofNat c] := ⟨u % 128, by omega, by omega, rfl⟩
  have hcv := conv1 w c (by omega)
  generalize hR : numB u = R at *
  have HD := hide hd
  clear hd hR
  go_enter Try.func71, Try.ntmps71
  go_wp2_with fail
  refine (unhide HT).mono ?_
  rintro e w1 ⟨rfl, rfl⟩
  go_wp2_with fail
  go_loopw [3, 4] (fun u s wr => ∃ (U : Nat) (S : ByteArray), U < 18446744073709551616 ∧ u = .int .u64 (U : Int) ∧ s = .string S ∧ Below w1.heap.size w1 wr ∧ Hid (R = hiB U ++ S.data.toList)) (fun u _ _ => (intOf u).toNat)
  case atStart => exact ⟨u / 128, _, by omega, rfl, rfl, (Below.refl _ _).alloc (Nat.le_refl _) _, HD⟩
  case round =>
    clear hcv ec hc HD HT hu
    obtain ⟨U, S, hU, rfl, rfl, hbel, HS⟩ := hrel
    have hsz := hbel.size
    have hS : S.size ≤ 10 := by
      have := congrArg List.length (unhide HS)
      have e : S.data.toList.length = S.size := Array.length_toList
      rw [List.length_append] at this
      omega
    by_cases h0 : U = 0
    · subst h0
      go_wp2
      go_ret
      exact ⟨by rw [unhide HS, hiB_zero]; rfl, hbel⟩
    · obtain ⟨d, hd, ed, hst⟩ : ∃ d : Nat, d < 256 ∧ (U : Int) % 128 + 128 = (d : Int) ∧ hiB U = hiB (U / 128) ++ [UInt8.ofNat d] := ⟨U % 128 + 128, by omega, by omega, hiB_step h0⟩
      have hcv := conv1 wr d hd
      have hpos : (0 : Int) < (U : Int) := by omega
      have q1 : ({ data := #[UInt8.ofNat d] } : ByteArray).size + S.size ≤ 9223372036854775807 := by
        have : ({ data := #[UInt8.ofNat d] } : ByteArray).size = 1 := rfl
        omega
      have q2 : 1 + S.size ≤ 9223372036854775807 := by omega
      have HN : Hid (R = hiB (U / 128) ++ (({ data := #[UInt8.ofNat d] } : ByteArray) ++ S).data.toList) := hide (by
        rw [Joins.data_append, unhide HS, hst, List.append_assoc])
      clear hst HS h0
      go_wp2
      go_roundw
      case rel => exact ⟨U / 128, _, by omega, by go_num, rfl, hbel.alloc hsz _, HN⟩
      case measure => simp [intOf]; omega
end Go.Proofs.Ytijckimjcogfjaa
