/-
  readNumber: a number is read from a place on as the plain function has it.
-/
import Derived.Test.YtijckimjcogfjaaLeaf0
namespace Go.Proofs.Ytijckimjcogfjaa
open Go.RowKit

/-- Bytes that are left, what has come together, how many have been read: what has come together, how many were read, what is wrong. -/
def rdN : List UInt8 → Nat → Nat → Nat × Nat × Int
  | [], _, _ => (0, 0, 11)
  | c :: r, u, k => if (k = 0 ∧ c.toNat = 128) ∨ 144115188075855872 ≤ u then (0, 0, 3) else if c.toNat < 128 then (u * 128 + c.toNat % 128, k + 1, 0) else rdN r (u * 128 + c.toNat % 128) (k + 1)
def rnV (r : Nat × Nat × Int) : Int := if r.2.2 = 0 then unzig r.1 else 0
def rnE (at_ : Nat) (r : Nat × Nat × Int) : Int := if r.2.2 = 0 then ((at_ + r.2.1 : Nat) : Int) else 0
theorem drop_get (b : ByteArray) (i : Nat) (h : i < b.size) : b.data.toList.drop i = b[i] :: b.data.toList.drop (i + 1) := by
  rw [List.drop_eq_getElem_cons (by simpa using h)]; rfl
theorem byte_and128 (c : Nat) (h : c < 256) : bits .and .u8 (c : Int) 128 = if c < 128 then 0 else 128 := by
  have := u8_and_nat c 128 h (by omega)
  rw [show (128 : Nat) = 2 ^ 7 from rfl, nat_bit 7 c] at this
  rw [show ((2 ^ 7 : Nat) : Int) = 128 from rfl] at this
  rw [this]
  split <;> omega
theorem byte_and127 (c : Nat) (h : c < 256) : bits .and .u8 (c : Int) 127 = ((c % 128 : Nat) : Int) := by
  have := u8_and_nat c 127 h (by omega)
  rw [nat_mask7] at this
  exact this
theorem join7 (U c : Nat) (hU : U < 144115188075855872) : ∃ V : Nat, V < 18446744073709551616 ∧ bits .or .u64 ((U : Int) * 128) ((c : Int) % 128) = (V : Int) ∧ U * 128 + c % 128 = V := by
  have := u64_or_nat (U * 128) (c % 128) (by omega) (by omega)
  rw [nat_join 7 (U * 128) (c % 128) (by omega) (by omega)] at this
  exact ⟨_, by omega, by rw [← this]; congr 1, rfl⟩
theorem rn_ok (at_ j V : Nat) (h : at_ ≤ j) : rnV (V, j - at_ + 1, 0) = unzig V ∧ rnE at_ (V, j - at_ + 1, 0) = (j : Int) + 1 := by
  refine ⟨rfl, ?_⟩
  unfold rnE; dsimp only; rw [if_pos rfl]; omega
set_option maxHeartbeats 2000000 in
theorem readNumber_any (b : ByteArray) (at_ : Nat) (w : World) (hat : at_ ≤ b.size) (hb : b.size ≤ 140737488351232) :
    Calls Try.prog 72 #[.string b, .int .i64 (at_ : Int)] w fun e w' =>
      e = .returned (.tuple #[.int .i64 (rnV (rdN (b.data.toList.drop at_) 0 0)), .int .i64 (rnE at_ (rdN (b.data.toList.drop at_) 0 0)), .int .i64 (rdN (b.data.toList.drop at_) 0 0).2.2]) ∧ w' = w := by
  generalize hR : rdN (b.data.toList.drop at_) 0 0 = R
  have HR := hide hR
  clear hR
  go_enter Try.func72, Try.ntmps72
  go_wp2
  go_loop [7, 8] (fun u i => ∃ j U : Nat, at_ ≤ j ∧ j ≤ b.size ∧ i = .int .i64 (j : Int) ∧ u = .int .u64 (U : Int) ∧ U < 18446744073709551616 ∧ Hid (rdN (b.data.toList.drop j) U (j - at_) = R)) (fun _ i => b.size - (intOf i).toNat)
  case atStart => exact ⟨at_, 0, by omega, by omega, rfl, rfl, by omega, hide (by rw [Nat.sub_self]; exact unhide HR)⟩
  case round =>
    obtain ⟨j, U, haj, hj, rfl, rfl, hU, HK⟩ := hrel
    by_cases hlt : j < b.size
    · have hd := drop_get b j hlt
      have hK := unhide HK
      rw [hd, rdN] at hK
      clear hd HK
      have hc : (b[j]).toNat < 256 := (b[j]).toNat_lt
      have ha7 := byte_and127 _ hc
      have ha8 := byte_and128 _ hc
      by_cases hbad : (j - at_ = 0 ∧ (b[j]).toNat = 128) ∨ 144115188075855872 ≤ U
      · rw [if_pos hbad] at hK
        subst hK
        clear HR ha7 ha8
        rcases Nat.lt_or_ge U 144115188075855872 with h57 | h57
        · obtain ⟨b1, b2⟩ : (((j : Int) == (at_ : Int)) = true) ∧ ((((b[j]).toNat : Int) == 128) = true) := by
            rcases hbad with ⟨q1, q2⟩ | q
            · exact ⟨beq_iff_eq.2 (by omega), beq_iff_eq.2 (by omega)⟩
            · omega
          clear hbad
          go_wp2
          go_ret3
          exact ⟨rfl, rfl⟩
        · clear hbad
          have hge : decide ((144115188075855872 : Int) ≤ (U : Int)) = true := decide_eq_true (by omega)
          clear h57
          by_cases b1 : j = at_
          · have b1' : ((j : Int) == (at_ : Int)) = true := beq_iff_eq.2 (by omega)
            clear b1
            by_cases b2 : (b[j]).toNat = 128
            · have b2' : (((b[j]).toNat : Int) == 128) = true := beq_iff_eq.2 (by omega)
              clear b2
              go_wp2
              all_goals go_ret3
              all_goals exact ⟨rfl, rfl⟩
            · have b2' : (((b[j]).toNat : Int) == 128) = false := beq_eq_false_iff_ne.2 (by omega)
              clear b2
              go_wp2
              all_goals go_ret3
              all_goals exact ⟨rfl, rfl⟩
          · have b1' : ((j : Int) == (at_ : Int)) = false := beq_eq_false_iff_ne.2 (by omega)
            clear b1
            go_wp2
            all_goals go_ret3
            all_goals exact ⟨rfl, rfl⟩
      · rw [if_neg hbad] at hK
        have h57 : U < 144115188075855872 := by omega
        have hge : decide ((144115188075855872 : Int) ≤ (U : Int)) = false := decide_eq_false (by omega)
        obtain ⟨V, hV, hor, eV⟩ := join7 U (b[j]).toNat h57
        rw [eV] at hK
        clear eV
        have HK := hide hK
        have Hbad := hide hbad
        clear hK hbad
        by_cases hlow : (b[j]).toNat < 128
        · have hz : bits .and .u8 ((b[j]).toNat : Int) 128 = 0 := by rw [ha8, if_pos hlow]
          clear ha8
          have hK := unhide HK
          rw [if_pos hlow] at hK
          have HK2 := hide hK
          clear hK HK HR
          have hok := rn_ok at_ j V haj
          rw [unhide HK2] at hok
          have HR2 : Hid (R.2.2 = 0) := by rw [← unhide HK2]; exact rfl
          have HOK := hide hok
          clear hok HK2
          by_cases b1 : j = at_
          · have b1' : ((j : Int) == (at_ : Int)) = true := beq_iff_eq.2 (by omega)
            have b2' : (((b[j]).toNat : Int) == 128) = false := beq_eq_false_iff_ne.2 (by omega)
            clear b1 hlow
            go_wp2_with fail
            refine (unfold_any V _ hV).mono ?_
            rintro e w1 ⟨rfl, rfl⟩
            go_wp2
            go_ret3
            exact ⟨by rw [(unhide HOK).1, (unhide HOK).2, unhide HR2]; rfl, rfl⟩
          · have b1' : ((j : Int) == (at_ : Int)) = false := beq_eq_false_iff_ne.2 (by omega)
            clear b1
            go_wp2_with fail
            refine (unfold_any V _ hV).mono ?_
            rintro e w1 ⟨rfl, rfl⟩
            go_wp2
            go_ret3
            exact ⟨by rw [(unhide HOK).1, (unhide HOK).2, unhide HR2]; rfl, rfl⟩
        · have hz : bits .and .u8 ((b[j]).toNat : Int) 128 = 128 := by rw [ha8, if_neg hlow]
          clear ha8
          have hK := unhide HK
          rw [if_neg hlow, show j - at_ + 1 = (j + 1) - at_ by omega] at hK
          have HK2 := hide hK
          clear hK HK HR
          by_cases b1 : j = at_
          · have b1' : ((j : Int) == (at_ : Int)) = true := beq_iff_eq.2 (by omega)
            have b2' : (((b[j]).toNat : Int) == 128) = false := beq_eq_false_iff_ne.2 (fun h => unhide Hbad (Or.inl ⟨by omega, by omega⟩))
            clear b1 hlow
            go_wp2
            go_round
            case rel => exact ⟨j + 1, V, by omega, by omega, by go_num, rfl, hV, unhide HK2⟩
            case measure => simp [intOf]; omega
          · have b1' : ((j : Int) == (at_ : Int)) = false := beq_eq_false_iff_ne.2 (by omega)
            clear b1
            go_wp2
            go_round
            case rel => exact ⟨j + 1, V, by omega, by omega, by go_num, rfl, hV, unhide HK2⟩
            case measure => simp [intOf]; omega
    · have hj' : j = b.size := by omega
      have hK := unhide HK
      rw [List.drop_of_length_le (by simp; omega), rdN] at hK
      subst hK
      clear hj' HR HK
      go_wp2
      go_ret3
      exact ⟨rfl, rfl⟩
end Go.Proofs.Ytijckimjcogfjaa
