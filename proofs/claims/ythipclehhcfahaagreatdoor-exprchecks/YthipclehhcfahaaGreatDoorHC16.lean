/-
  Which words a stage may have as its name; the kind of a leaf.
-/
import Derived.Test.YthipclehhcfahaaGreatDoorHC15
namespace Go.Proofs.YthipclehhcfahaaGreatDoor
open Go.RowKit

set_option maxHeartbeats 1000000 in
set_option maxRecDepth 100000 in
theorem isFree_any (s : ByteArray) (w : World) (hT : TbE w) : Calls Tryz.prog 93 #[.string s] w fun e w' => e = .returned (.bool (freeW s.data.toList)) ∧ w' = w := by
  have tl := toList_data s
  have HF := hide (fieldOf_any s w hT)
  clear hT
  unfold freeW
  generalize hl : s.data.toList = l at tl HF ⊢
  clear hl
  by_cases e1 : l = [111, 114]
  · have g1 : (s.toList = [111, 114]) = True := by rw [tl, e1]; simp
    have g2 : (s.toList == [111, 114]) = true := by rw [tl, e1]; decide
    rw [decide_eq_true e1]
    clear tl e1 HF
    go_enter Tryz.func93, Tryz.ntmps93
    go_wp2
    go_ret
    exact ⟨rfl, rfl⟩
  have g1 : (s.toList = [111, 114]) = False := by rw [tl]; simp [e1]
  have g2 : (s.toList == [111, 114]) = false := by rw [tl]; simpa using e1
  rw [decide_eq_false e1]
  by_cases e2 : l = [97, 110, 100]
  · have g3 : (s.toList = [97, 110, 100]) = True := by rw [tl, e2]; simp
    have g4 : (s.toList == [97, 110, 100]) = true := by rw [tl, e2]; decide
    rw [decide_eq_true e2]
    clear tl e1 e2 HF
    go_enter Tryz.func93, Tryz.ntmps93
    go_wp2
    go_ret
    exact ⟨rfl, rfl⟩
  have g3 : (s.toList = [97, 110, 100]) = False := by rw [tl]; simp [e2]
  have g4 : (s.toList == [97, 110, 100]) = false := by rw [tl]; simpa using e2
  rw [decide_eq_false e2]
  by_cases e3 : l = [110, 111, 116]
  · have g5 : (s.toList = [110, 111, 116]) = True := by rw [tl, e3]; simp
    have g6 : (s.toList == [110, 111, 116]) = true := by rw [tl, e3]; decide
    rw [decide_eq_true e3]
    clear tl e1 e2 e3 HF
    go_enter Tryz.func93, Tryz.ntmps93
    go_wp2
    go_ret
    exact ⟨rfl, rfl⟩
  have g5 : (s.toList = [110, 111, 116]) = False := by rw [tl]; simp [e3]
  have g6 : (s.toList == [110, 111, 116]) = false := by rw [tl]; simpa using e3
  rw [decide_eq_false e3]
  generalize fldOf l = F at *
  clear tl e1 e2 e3
  go_enter Tryz.func93, Tryz.ntmps93
  go_wp2_with fail
  refine (unhide HF).mono ?_
  rintro e w1 ⟨rfl, rfl⟩
  go_wp2
  go_ret
  exact ⟨ret_bool (by simp), rfl⟩
theorem isSg_no {s : ByteArray} (h : s.size = 0 ∨ 32 < s.size ∨ (∃ h : 0 < s.size, isLet s[0] = false) ∨ spn isAln s.data.toList ≠ s.size) : isSg s = false := by
  unfold isSg
  rcases h with h | h | ⟨h0, h⟩ | h
  · rw [decide_eq_false (by omega)]; rfl
  · rw [decide_eq_false (p := s.size ≤ 32) (by omega)]; simp
  · have e : s.data.toList.head? = some s[0] := by
      rw [List.head?_eq_getElem?, List.getElem?_eq_getElem (by simpa using h0)]; rfl
    rw [e]
    simp [h]
  · rw [decide_eq_false h]; simp
theorem isSg_yes {s : ByteArray} (h1 : 0 < s.size) (h2 : s.size ≤ 32) (h3 : isLet s[0] = true) (h4 : spn isAln s.data.toList = s.size) : isSg s = freeW s.data.toList := by
  unfold isSg
  have e : s.data.toList.head? = some s[0] := by
    rw [List.head?_eq_getElem?, List.getElem?_eq_getElem (by simpa using h1)]; rfl
  rw [e, decide_eq_true h1, decide_eq_true h2, decide_eq_true h4]
  simp [h3]
set_option maxHeartbeats 1000000 in
set_option maxRecDepth 100000 in
theorem isStage_any (s : ByteArray) (w : World) (hT : TbE w) (hs : s.size ≤ 9223372036854775807) : Calls Tryz.prog 72 #[.string s] w fun e w' => e = .returned (.bool (isSg s)) ∧ w' = w := by
  have HF := hide (isFree_any s w hT)
  clear hT
  by_cases h0 : s.size = 0
  · rw [isSg_no (Or.inl h0)]
    have g : ((s.size : Int) == 0) = true := by simp [h0]
    have g' : ((s.size : Int) = 0) = True := by simp [h0]
    clear h0 HF
    go_enter Tryz.func72, Tryz.ntmps72
    go_wp2
    go_ret
    exact ⟨rfl, rfl⟩
  have g0 : ((s.size : Int) == 0) = false := beq_eq_false_iff_ne.2 (by omega)
  by_cases h1 : 32 < s.size
  · rw [isSg_no (Or.inr (Or.inl h1))]
    go_enter Tryz.func72, Tryz.ntmps72
    go_wp2
    go_ret
    exact ⟨rfl, rfl⟩
  have hp : 0 < s.size := by omega
  have LT := hide (fun (k : Nat) (hk : k < s.size) => isLetter_any s[k] w)
  have DG := hide (fun (k : Nat) (hk : k < s.size) => isDigit_any s[k] w)
  by_cases h2 : isLet s[0] = true
  · generalize hR : isSg s = R
    have HR := hide hR
    have HY := hide (isSg_yes hp (by omega) h2)
    have L0 : Hid (Calls Tryz.prog 91 #[.int .u8 (s[0].toNat : Int)] w fun e w' => e = .returned (.bool true) ∧ w' = w) := hide (by have := unhide LT 0 hp; rw [h2] at this; exact this)
    clear hR h2
    go_enter Tryz.func72, Tryz.ntmps72
    go_wp2_with fail
    refine (unhide L0).mono ?_
    rintro e w1 ⟨rfl, rfl⟩
    go_wp2
    go_loopw [20] (fun i wr => wr = w1 ∧ ∃ k : Nat, k ≤ s.size ∧ Hid (k ≤ spn isAln s.data.toList) ∧ i = .int .i64 (k : Int)) (fun i _ => s.size - (intOf i).toNat)
    case atStart => exact ⟨rfl, 0, Nat.zero_le _, hide (Nat.zero_le _), rfl⟩
    case round =>
      obtain ⟨rfl, k, hk, HN, rfl⟩ := hrel
      by_cases hlt : k < s.size
      · have A1 := hide (unhide LT k hlt)
        have A2 := hide (unhide DG k hlt)
        have hmo : (isLet s[k] || isDig s[k]) = true → k + 1 ≤ spn isAln s.data.toList := fun h => spn_more (unhide HN) (by simpa using hlt) h
        have hst : (isLet s[k] || isDig s[k]) = false → k = spn isAln s.data.toList := fun h => spn_stop (unhide HN) (fun _ => h)
        cases c1 : isLet s[k] with
        | true =>
          have HN2 : Hid (k + 1 ≤ spn isAln s.data.toList) := hide (hmo (by rw [c1]; rfl))
          rw [c1] at A1
          clear hmo hst c1 A2
          go_wp2_with fail
          refine (unhide A1).mono ?_
          rintro e w2 ⟨rfl, rfl⟩
          go_wp2
          go_roundw
          case rel => exact ⟨trivial, k + 1, by omega, HN2, by go_num⟩
          case measure => simp [intOf]; omega
        | false =>
          rw [c1] at A1
          cases c2 : isDig s[k] with
          | true =>
            have HN2 : Hid (k + 1 ≤ spn isAln s.data.toList) := hide (hmo (by rw [c1, c2]; rfl))
            rw [c2] at A2
            clear hmo hst c1 c2
            go_wp2_with fail
            refine (unhide A1).mono ?_
            rintro e w2 ⟨rfl, rfl⟩
            go_wp2_with fail
            refine (unhide A2).mono ?_
            rintro e w3 ⟨rfl, rfl⟩
            go_wp2
            go_roundw
            case rel => exact ⟨trivial, k + 1, by omega, HN2, by go_num⟩
            case measure => simp [intOf]; omega
          | false =>
            have HS : Hid (R = false) := hide (by
              have := hst (by rw [c1, c2]; rfl)
              rw [← unhide HR]
              exact isSg_no (Or.inr (Or.inr (Or.inr (by omega)))))
            rw [c2] at A2
            clear hmo hst c1 c2
            go_wp2_with fail
            refine (unhide A1).mono ?_
            rintro e w2 ⟨rfl, rfl⟩
            go_wp2_with fail
            refine (unhide A2).mono ?_
            rintro e w3 ⟨rfl, rfl⟩
            go_wp2
            go_ret
            exact ⟨ret_bool (unhide HS).symm, rfl⟩
      · obtain rfl : k = s.size := by omega
        have HS : Hid (R = freeW s.data.toList) := hide (by
          have h1 := unhide HN
          have h2 : spn isAln s.data.toList ≤ s.size := spn_le isAln s.data.toList
          rw [← unhide HR]
          exact unhide HY (by omega))
        go_wp2_with fail
        refine (unhide HF).mono ?_
        rintro e w2 ⟨rfl, rfl⟩
        go_wp2
        go_ret
        exact ⟨ret_bool (unhide HS).symm, rfl⟩
  · have h2' : isLet s[0] = false := by simpa using h2
    rw [isSg_no (Or.inr (Or.inr (Or.inl ⟨hp, h2'⟩)))]
    have L0 : Hid (Calls Tryz.prog 91 #[.int .u8 (s[0].toNat : Int)] w fun e w' => e = .returned (.bool false) ∧ w' = w) := hide (by have := unhide LT 0 hp; rw [h2'] at this; exact this)
    clear h2 h2'
    go_enter Tryz.func72, Tryz.ntmps72
    go_wp2_with fail
    refine (unhide L0).mono ?_
    rintro e w1 ⟨rfl, rfl⟩
    go_wp2
    go_ret
    exact ⟨rfl, rfl⟩
end Go.Proofs.YthipclehhcfahaaGreatDoor
