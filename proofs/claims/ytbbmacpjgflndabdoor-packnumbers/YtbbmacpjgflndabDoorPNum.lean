/-
  PackNumbers: whatever the number, the law returns true; nothing that was there has changed.
-/
import Derived.Test.YtbbmacpjgflndabDoorWorks
namespace Go.Proofs.YtbbmacpjgflndabDoor
open Go.RowKit

/-- How many bytes stand ahead of the last one. -/
def hlen (u : Nat) : Nat := (hiB u).length
theorem hlen_step {u : Nat} (h : u ≠ 0) : hlen u = hlen (u / 128) + 1 := by unfold hlen; rw [hiB_step h]; simp
theorem hlen_zero : hlen 0 = 0 := by unfold hlen; rw [hiB_zero]; rfl
/-- A number without its side. -/
def mag (n : Int) : Nat := if n < 0 then (-1 - n).toNat else n.toNat
theorem zig_mag (n : Int) : zig n / 128 = mag n / 64 := by unfold zig mag; split <;> omega
theorem numB_len (n : Int) : (numB (zig n)).length = hlen (mag n / 64) + 1 := by unfold numB hlen; rw [List.length_append, zig_mag]; rfl
theorem mag_other (n : Int) : mag (-1 - n) = mag n := by unfold mag; split <;> split <;> omega
theorem mag_lt {n : Int} (h0 : -9223372036854775808 ≤ n) (h1 : n < 9223372036854775808) : mag n < 9223372036854775808 := by unfold mag; split <;> omega
/-- The list of one number. -/
def oneN (n : Int) : List It := [⟨false, n, ⟨#[]⟩⟩]
def oneS (n : Int) : ByteArray := ⟨(1 :: numB (zig n)).toArray⟩
theorem oneS_size (n : Int) : (oneS n).size = hlen (mag n / 64) + 2 := by
  unfold oneS; show (List.toArray _).size = _; rw [List.size_toArray, List.length_cons, numB_len]
theorem oneN_enc {n : Int} (h0 : -9223372036854775808 ≤ n) (h1 : n < 9223372036854775808) : encE (oneN n) = 0 ∧ encS (oneN n) = oneS n := by
  have hb : listB (oneN n) = 1 :: numB (zig n) := by simp [listB, oneN, It.b, itemB]
  have hl := (numB_length (zig_lt h0 h1)).2
  have h : encE (oneN n) = 0 := by
    unfold encE
    rw [if_neg (by simp [oneN]), if_neg (by simp [oneN, It.may, mayB]), hb, if_neg (by simp only [List.length_cons]; omega)]
  exact ⟨h, by unfold encS; rw [if_pos h, hb]; rfl⟩
theorem oneN_call {n : Int} (w : World) (h0 : -9223372036854775808 ≤ n) (h1 : n < 9223372036854775808) :
    Calls Tryd.prog 6 #[.slice (some ⟨w.heap.size, 0, none⟩) 1 1] (w.alloc (.cells #[.bool false, .int .i64 n, .string ⟨#[]⟩] 27)) fun e w' => e = .returned (.tuple #[.string (oneS n), .int .i64 0]) ∧ Below w.heap.size w w' := by
  have h := encode_any (some ⟨w.heap.size, 0, none⟩) 1 (oneN n) (w.alloc (.cells #[.bool false, .int .i64 n, .string ⟨#[]⟩] 27)) (by simp [oneN]) (fun _ => ⟨_, _, rfl, by simp, fun i hi => by
    obtain rfl : i = 0 := by simp [oneN] at hi; exact hi
    simp [oneN]⟩) (by
    intro x hx
    unfold oneN at hx
    simp only [List.mem_cons, List.not_mem_nil, or_false] at hx
    subst hx
    exact ⟨h0, h1, Nat.zero_le _⟩)
  rw [(oneN_enc h0 h1).1, (oneN_enc h0 h1).2] at h
  refine h.mono fun e w' ⟨h1, h2⟩ => ⟨h1, ?_⟩
  exact ((Below.refl _ _).alloc (Nat.le_refl _) _).trans (h2.mono (by simp))
theorem oneS_last (n : Int) (i : Nat) (hi : i < (oneS n).size) (he : i + 1 = (oneS n).size) : ((oneS n)[i]'hi).toNat < 128 := by
  have hl : (numB (zig n)).length = (hiB (zig n / 128)).length + 1 := by unfold numB; rw [List.length_append]; rfl
  have hs : (oneS n).size = (numB (zig n)).length + 1 := by unfold oneS; show (List.toArray _).size = _; rw [List.size_toArray, List.length_cons]
  have hg : (oneS n)[i]'hi = (1 :: numB (zig n))[i]'(by rw [List.length_cons]; omega) := rfl
  rw [hg]
  obtain ⟨k, rfl⟩ : ∃ k, i = k + 1 := ⟨i - 1, by omega⟩
  rw [List.getElem_cons_succ]
  obtain rfl : k = (hiB (zig n / 128)).length := by omega
  unfold numB
  rw [List.getElem_append_right (Nat.le_refl _)]
  simp only [Nat.sub_self, List.getElem_cons_zero]
  rw [UInt8.toNat_ofNat']; omega
set_option maxHeartbeats 2000000 in
theorem packNumbers_walk (n : Int) (w : World) (h0 : -9223372036854775808 ≤ n) (h1 : n < 9223372036854775808) (hT : TabW w) :
    Calls Tryd.prog 3 #[.int .i64 n] w fun e w' => e = .returned (.bool true) ∧ Below w.heap.size w w' := by
  have hw := works_any w hT
  have HW := hide hw
  clear hw hT
  have c1 := fun W => oneN_call W h0 h1
  have c2 := fun W => oneN_call (n := -1 - n) W (by omega) (by omega)
  have s1 := oneS_size n
  have hsz : 2 ≤ (oneS n).size ∧ (oneS n).size ≤ 11 := by have := (numB_length (zig_lt h0 h1)).2; rw [numB_len] at this; omega
  have s2 := oneS_size (-1 - n)
  rw [mag_other] at s2
  have hm := mag_lt h0 h1
  have hlast := oneS_last n
  have C1 := hide c1
  have C2 := hide c2
  clear c1 c2
  generalize oneS n = S at *
  generalize oneS (-1 - n) = T at *
  have hm1 : n < 0 → ((mag n : Nat) : Int) = -1 - n := fun h => by unfold mag; rw [if_pos h]; omega
  have hm2 : 0 ≤ n → ((mag n : Nat) : Int) = n := fun h => by unfold mag; rw [if_neg (by omega)]; omega
  generalize mag n = M at *
  have hst : ((S.size : Int) != (T.size : Int)) = false := by simp; omega
  have S1 := hide s1
  have HL := hide hlast
  have HM1 := hide hm1
  have HM2 := hide hm2
  clear s1 s2 hlast hm1 hm2
  go_enter Tryd.func3, Tryd.ntmps3
  go_wp2_with fail
  refine (unhide HW).mono ?_
  rintro e w1 ⟨rfl, hb1⟩
  go_wp2_with fail
  refine (unhide C1 w1).mono ?_
  rintro e w2 ⟨rfl, hb2⟩
  go_wp2_with fail
  refine (unhide C2 w2).mono ?_
  rintro e w3 ⟨rfl, hb3⟩
  have hb : Below w.heap.size w w3 := (hb1.trans (hb2.mono hb1.size)).trans (hb3.mono (Nat.le_trans hb1.size hb2.size))
  clear hb1 hb2 hb3
  have hin : (n < 0 ∧ (M : Int) = -1 - n) ∨ (0 ≤ n ∧ (M : Int) = n) := by
    rcases Int.lt_or_le n 0 with h | h
    · exact Or.inl ⟨h, unhide HM1 h⟩
    · exact Or.inr ⟨h, unhide HM2 h⟩
  clear HM1 HM2
  rcases hin with ⟨hn, hU⟩ | ⟨hn, hU⟩
  all_goals
    have HU := hide hU
    clear hU
    go_wp2_with fail
    go_loop [7, 8] (fun u k => ∃ U K : Nat, u = .int .u64 (U : Int) ∧ k = .int .i64 (K : Int) ∧ U < 9223372036854775808 ∧ K ≤ S.size ∧ Hid (K + hlen (U / 64) = S.size)) (fun u _ => (intOf u).toNat)
    case atStart => exact ⟨M, 2, by rw [unhide HU], rfl, hm, by have := unhide S1; omega, hide (by have := unhide S1; omega)⟩
    case round =>
      obtain ⟨U, K, rfl, rfl, hUl, hKl, hK⟩ := hrel
      by_cases hge : 64 ≤ U
      · have hst2 := hlen_step (u := U / 64) (by omega)
        rw [Nat.div_div_eq_div_mul, show 64 * 128 = 128 * 64 from rfl, ← Nat.div_div_eq_div_mul] at hst2
        have hK2 : K + 1 + hlen (U / 128 / 64) = S.size := by have := unhide hK; omega
        have HK2 := hide hK2
        clear hst2 hK2 hK
        go_wp2
        go_round
        case rel => exact ⟨U / 128, K + 1, by go_num, by go_num, by omega, by have := unhide HK2; omega, HK2⟩
        case measure => simp [intOf]; omega
      · have hz : hlen (U / 64) = 0 := by rw [Nat.div_eq_of_lt (by omega)]; exact hlen_zero
        have he : K = S.size := by have := unhide hK; omega
        clear hz hK
        subst he
        have hl := unhide HL (S.size - 1) (by omega) (by omega)
        go_wp2
        go_ret
        exact ⟨congrArg (fun b => Ending.returned (Value.bool b)) (decide_eq_true (by omega)), hb⟩
end Go.Proofs.YtbbmacpjgflndabDoor
