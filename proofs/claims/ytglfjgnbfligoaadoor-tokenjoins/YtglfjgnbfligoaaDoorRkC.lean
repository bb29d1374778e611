/-
  The document's tokens: text.
-/
import Derived.Test.YtglfjgnbfligoaaDoorRkB
namespace Go.Proofs.YtglfjgnbfligoaaDoor
open Go.RowKit

/-- What the document's text is, at a place. -/
def txV (at_ : Nat) : Option (Tk × Nat) → Value
  | none => .tuple #[.agg #[.int .i64 0, .string ⟨#[]⟩, .int .i64 0, .int .i64 0], .int .i64 0, .bool false]
  | some (t, m) => .tuple #[.agg #[.int .i64 3, .string t.s, .int .i64 0, .int .i64 (at_ : Int)], .int .i64 ((at_ + m : Nat) : Int), .bool true]
theorem tkT_none (s : ByteArray) (at_ E k : Nat) (hk : k = spn isIn (s.data.toList.drop (at_ + 1))) (he : at_ + 1 + k = E) (h : (∀ hE : E < s.size, ¬ s[E].toNat = 39) ∨ 256 < k) : tkT (s.data.toList.drop (at_ + 1)) = none := by
  unfold tkT
  rw [← hk]
  by_cases h256 : 256 < k
  · rw [if_pos h256]
  · rw [if_neg h256]
    rw [if_neg]
    intro e
    rw [List.drop_drop, he] at e
    rcases Nat.lt_or_ge E s.size with hE | hE
    · rw [drop_get s E hE] at e
      rcases h with h | h
      · apply h hE
        simp at e
        rw [e]
        rfl
      · omega
    · rw [List.drop_eq_nil_of_le (by rw [size_list]; exact hE)] at e
      cases e
theorem tkT_some (s : ByteArray) (at_ E k : Nat) (hk : k = spn isIn (s.data.toList.drop (at_ + 1))) (he : at_ + 1 + k = E) (hE : E < s.size) (h39 : s[E].toNat = 39) (h256 : ¬ 256 < k) : tkT (s.data.toList.drop (at_ + 1)) = some (⟨3, s.extract (at_ + 1) E, 0, 0⟩, k + 2) := by
  unfold tkT
  rw [← hk, if_neg h256, if_pos, ← he, ext_seg]
  rw [List.drop_drop, he, drop_get s E hE, List.head?_cons, Option.some.injEq]
  exact UInt8.toNat_inj.1 h39
set_option maxHeartbeats 400000 in
set_option maxRecDepth 100000 in
theorem rText_any (s : ByteArray) (at_ : Nat) (w : World) (hat : at_ < s.size) (hs : s.size ≤ 140737488351232) :
    Calls Tryd.prog 39 #[.string s, .int .i64 (at_ : Int)] w fun e w' => e = .returned (txV at_ (tkT (s.data.toList.drop (at_ + 1)))) ∧ Below w.heap.size w w' := by
  have HNO := hide (tkT_none s at_)
  have HSO := hide (tkT_some s at_)
  generalize tkT (s.data.toList.drop (at_ + 1)) = Q at *
  go_enter Tryd.func39, Tryd.ntmps39
  go_wp2
  go_loop [7] (fun i => ∃ k : Nat, at_ + 1 + k ≤ s.size ∧ Hid (k ≤ spn isIn (s.data.toList.drop (at_ + 1))) ∧ i = .int .i64 ((at_ + 1 + k : Nat) : Int)) (fun i => s.size - (intOf i).toNat)
  case atStart => exact ⟨0, hat, hide (Nat.zero_le _), by go_num⟩
  case round =>
    obtain ⟨k, hk, HK, rfl⟩ := hrel
    generalize hE : at_ + 1 + k = E at *
    by_cases hlt : E < s.size
    · have hkl : k < (s.data.toList.drop (at_ + 1)).length := by rw [List.length_drop, size_list]; omega
      have hget : (s.data.toList.drop (at_ + 1))[k] = s[E] := by obtain ⟨h', e⟩ := drop_at s (at_ + 1) k hkl; rw [e]; congr 1
      have hea : at_ + 1 ≤ E := by omega
      have hek : ((E : Int) - (at_ : Int)) - 1 = (k : Int) := by omega
      by_cases h39 : s[E].toNat = 39
      · have g39 : ((s[E].toNat : Int) != 39) = false := by simp [h39]
        have g10 : ((s[E].toNat : Int) == 10) = false := by simp [h39]
        have g10' : ((s[E].toNat : Int) != 10) = true := by simp [h39]
        have HN : Hid (k = spn isIn (s.data.toList.drop (at_ + 1))) := hide (spn_stop (unhide HK) (fun _ => by rw [hget]; unfold isIn; simp [h39]))
        have gl : ((E : Int) == (s.size : Int)) = false := by simp; omega
        by_cases h256 : 256 < k
        · have hq := unhide HNO E k (unhide HN) hE (Or.inr h256)
          subst hq
          have HE := hide hE
          clear hE hget h39 hkl
          go_wp2
          exact bodyPost_ret (v := txV at_ none) (by simp [results, Tryd.results39, go_sem, txV]) rfl ⟨rfl, (Below.refl _ _).alloc (Nat.le_refl _) _⟩
        · have hq := unhide HSO E k (unhide HN) hE hlt h39 h256
          subst hq
          have hem : ((at_ + (k + 2) : Nat) : Int) = (E : Int) + 1 := by omega
          have HEM := hide hem
          have HE := hide hE
          clear hE hget h39 hkl hem
          go_wp2
          exact bodyPost_ret (v := .tuple #[.agg #[.int .i64 3, .string (s.extract (at_ + 1) E), .int .i64 0, .int .i64 (at_ : Int)], .int .i64 ((E : Int) + 1), .bool true]) (by simp [results, Tryd.results39, go_sem]) rfl ⟨by unfold txV; dsimp only; rw [unhide HEM], (Below.refl _ _).alloc (Nat.le_refl _) _⟩
      · have g39 : ((s[E].toNat : Int) != 39) = true := by simp; omega
        by_cases h10 : s[E].toNat = 10
        · have g10 : ((s[E].toNat : Int) == 10) = true := by simp [h10]
          have g10' : ((s[E].toNat : Int) != 10) = false := by simp [h10]
          have HN : Hid (k = spn isIn (s.data.toList.drop (at_ + 1))) := hide (spn_stop (unhide HK) (fun _ => by rw [hget]; unfold isIn; simp [h10]))
          have gl : ((E : Int) == (s.size : Int)) = false := by simp; omega
          have hq := unhide HNO E k (unhide HN) hE (Or.inl fun _ => h39)
          subst hq
          have HE := hide hE
          clear hE hget h39 h10 hkl
          go_wp2
          exact bodyPost_ret (v := txV at_ none) (by simp [results, Tryd.results39, go_sem, txV]) rfl ⟨rfl, (Below.refl _ _).alloc (Nat.le_refl _) _⟩
        · have g10' : ((s[E].toNat : Int) != 10) = true := by simp; omega
          have HN : Hid (k + 1 ≤ spn isIn (s.data.toList.drop (at_ + 1))) := hide (spn_more (unhide HK) hkl (by rw [hget]; unfold isIn; simp [h39, h10]))
          have HE := hide hE
          clear hE hget h39 h10 hkl
          go_wp2
          go_round
          case rel => exact ⟨k + 1, by have := unhide HE; omega, HN, by have := unhide HE; go_num⟩
          case measure => simp [intOf]; omega
    · have HN : Hid (k = spn isIn (s.data.toList.drop (at_ + 1))) := hide (spn_stop (unhide HK) (fun h => by rw [List.length_drop, size_list] at h; omega))
      have hq := unhide HNO E k (unhide HN) hE (Or.inl fun h => absurd h hlt)
      subst hq
      have gl : ((E : Int) == (s.size : Int)) = true := by simp; omega
      have HE := hide hE
      clear hE
      go_wp2
      exact bodyPost_ret (v := txV at_ none) (by simp [results, Tryd.results39, go_sem, txV]) rfl ⟨rfl, (Below.refl _ _).alloc (Nat.le_refl _) _⟩
end Go.Proofs.YtglfjgnbfligoaaDoor
