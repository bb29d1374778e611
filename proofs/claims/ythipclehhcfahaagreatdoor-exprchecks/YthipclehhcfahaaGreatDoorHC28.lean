/-
  How a leaf is written.
-/
import Derived.Test.YthipclehhcfahaaGreatDoorHC27
namespace Go.Proofs.YthipclehhcfahaaGreatDoor
open Go.RowKit

theorem fld_cell {w : World} (hT : TbE w) (k : Nat) (hk : k < 6) : w.cell? ⟨0, k, none⟩ = some (.string (txt (fldN (k : Int)))) := by
  obtain ⟨h0, h1, h2, h3, h4, h5⟩ := hT.fds
  match k, hk with
  | 0, _ => exact h0
  | 1, _ => exact h1
  | 2, _ => exact h2
  | 3, _ => exact h3
  | 4, _ => exact h4
  | 5, _ => exact h5
theorem fldN_len (k : Nat) : (fldN (k : Int)).length ≤ 4 := by
  match k with
  | 0 => decide
  | 1 => decide
  | 2 => decide
  | 3 => decide
  | 4 => decide
  | 5 => decide
  | k + 6 => unfold fldN fldW; rw [Int.toNat_natCast, List.getD_eq_getElem?_getD, List.getElem?_eq_none (by simp)]; decide
theorem emptyB_eq {s : ByteArray} (h : emptyB s = true) : s = ⟨#[]⟩ := by
  unfold emptyB at h
  apply ByteArray.ext
  apply Array.ext'
  have h1 : s.size = 0 := by simpa using h
  have h2 : s.data.toList.length = 0 := by rw [Array.length_toList]; exact h1
  show s.data.toList = []
  exact List.length_eq_zero_iff.1 h2
theorem emptyB_ne {s : ByteArray} (h : emptyB s = false) : s.toList.isEmpty = false := by
  unfold emptyB at h
  have h1 : s.size ≠ 0 := by simpa using h
  rw [toList_data]
  cases he : s.data.toList with
  | nil =>
    have : s.data.toList.length = s.size := Array.length_toList
    rw [he] at this
    exact absurd this.symm h1
  | cons a r => rfl
/-- A leaf that may be. -/
theorem lfK_cases {p : Pt} (h : lfK p ≠ 0) : (p.kd = 1 ∧ 0 ≤ p.n) ∨ (p.kd = 2 ∧ p.s.size ≤ 256) ∨ (p.kd = 3 ∧ (emptyB p.st = true ∨ p.st.size ≤ 32) ∧ 0 ≤ p.fl ∧ p.fl < 6) := by
  unfold lfK at h
  split at h
  · rename_i h1; exact Or.inl ⟨h1.1, h1.2.2.2.2⟩
  · split at h
    · rename_i _ h1
      have := h1.2.2.2.2
      unfold isTx at this
      simp only [Bool.and_eq_true, decide_eq_true_eq] at this
      exact Or.inr (Or.inl ⟨h1.1, this.1⟩)
    · split at h
      · rename_i _ _ h1
        refine Or.inr (Or.inr ⟨h1.1, ?_, ?_⟩)
        · rcases h1.2.2.2 with h2 | h2
          · exact Or.inl h2
          · unfold isSg at h2
            simp only [Bool.and_eq_true, decide_eq_true_eq] at h2
            exact Or.inr h2.1.1.1.2
        · unfold fldK at h
          split at h
          · omega
          · split at h
            · omega
            · exact absurd rfl h
      · exact absurd rfl h
set_option maxHeartbeats 2000000 in
set_option maxRecDepth 100000 in
theorem writtenLeaf_any (p : Pt) (w : World) (hT : TbE w) (hk : lfK p ≠ 0) (hn : p.n ≤ 9223372036854775807) : Calls Tryz.prog 47 #[p.v] w fun e w' => e = .returned (.string (txt (lfB p))) ∧ Below w.heap.size w w' := by
  have hc := lfK_cases hk
  clear hk
  unfold lfB Pt.v
  obtain ⟨kd, n, s, st, fl⟩ := p
  dsimp only at *
  rcases hc with ⟨rfl, h0⟩ | ⟨rfl, hs⟩ | ⟨rfl, hst, hf0, hf6⟩
  · rw [if_pos rfl]
    have FM := hide (format_any n (by omega) hn _ (hT.tok.alloc (.cells #[.int .i64 1, .int .i64 n, .string s, .string st, .int .i64 fl] 53)))
    clear hT
    go_enter Tryz.func47, Tryz.ntmps47
    go_wp2_with fail
    refine (unhide FM).mono ?_
    rintro e w1 ⟨rfl, hb⟩
    have HB : Hid (Below w.heap.size w w1) := hide (((Below.refl _ _).alloc (Nat.le_refl _) _).trans (hb.mono (by simp)))
    clear hb FM
    go_wp2
    exact bodyPost_ret (results_tmp rfl _ _ _) rfl ⟨rfl, unhide HB⟩
  · rw [if_neg (by decide), if_pos rfl, ← quo_size]
    have D1 : ∀ W, (Op.stringOp .add { data := #[39] } s).run Tryz.prog W = .ok (.string (⟨#[39]⟩ ++ s)) W := fun W => run_string_add_sum W _ _ (by have : (⟨#[39]⟩ : ByteArray).size = 1 := rfl; omega)
    have D2 : ∀ W, (Op.stringOp .add (⟨#[39]⟩ ++ s) { data := #[39] }).run Tryz.prog W = .ok (.string (⟨#[39]⟩ ++ s ++ ⟨#[39]⟩)) W := fun W => run_string_add_sum W _ _ (by rw [ByteArray.size_append]; have : (⟨#[39]⟩ : ByteArray).size = 1 := rfl; omega)
    generalize (⟨#[39]⟩ ++ s ++ ⟨#[39]⟩ : ByteArray) = Z at *
    generalize (⟨#[39]⟩ ++ s : ByteArray) = Y at *
    clear hT
    go_enter Tryz.func47, Tryz.ntmps47
    go_wp2
    exact bodyPost_ret (results_tmp rfl _ _ _) rfl ⟨rfl, (Below.refl _ _).alloc (Nat.le_refl _) _⟩
  · rw [if_neg (by decide), if_neg (by decide)]
    obtain ⟨k, rfl⟩ : ∃ k : Nat, fl = k := ⟨fl.toNat, by omega⟩
    have hk6 : k < 6 := by omega
    have c := fld_cell (hT.alloc (.cells #[.int .i64 3, .int .i64 n, .string s, .string st, .int .i64 (k : Int)] 53)) k hk6
    have c' := fld_cell (hT.alloc (.cells #[.int .i64 3, .int .i64 n, .string s, .string st, .int .i64 (k : Int)] 53)).drew k hk6
    have hl := fldN_len k
    have hlow : ¬ 0 = w.heap.size := by have := hT.low; omega
    clear hT hf0 hf6
    cases he : emptyB st with
    | true =>
      obtain rfl := emptyB_eq he
      rw [if_pos rfl]
      clear c' hl
      generalize txt (fldN (k : Int)) = f at *
      go_enter Tryz.func47, Tryz.ntmps47
      go_wp2
      exact bodyPost_ret (results_tmp rfl _ _ _) rfl ⟨rfl, (Below.refl _ _).alloc (Nat.le_refl _) _⟩
    | false =>
      have hne := emptyB_ne he
      have hst2 : st.size ≤ 32 := by rcases hst with h | h; rw [h] at he; cases he; exact h
      rw [if_neg (by simp)]
      have e1 : txt (st.data.toList ++ ([32, 46, 32] ++ fldN (k : Int))) = st ++ ⟨#[32, 46, 32]⟩ ++ txt (fldN (k : Int)) := by
        apply ByteArray.ext
        apply Array.ext'
        simp [txt]
      rw [e1]
      have z3 : (⟨#[32, 46, 32]⟩ : ByteArray).size = 3 := rfl
      have D1 : ∀ W, (Op.stringOp .add st { data := #[32, 46, 32] }).run Tryz.prog W = .ok (.string (st ++ ⟨#[32, 46, 32]⟩)) W := fun W => run_string_add_sum W _ _ (by omega)
      have D2 : ∀ W, (Op.stringOp .add (st ++ ⟨#[32, 46, 32]⟩) (txt (fldN (k : Int)))).run Tryz.prog W = .ok (.string (st ++ ⟨#[32, 46, 32]⟩ ++ txt (fldN (k : Int)))) W := fun W => run_string_add_sum W _ _ (by rw [ByteArray.size_append, txt_size]; omega)
      generalize (st ++ ⟨#[32, 46, 32]⟩ ++ txt (fldN (k : Int)) : ByteArray) = Z at *
      generalize (st ++ ⟨#[32, 46, 32]⟩ : ByteArray) = Y at *
      generalize txt (fldN (k : Int)) = f at *
      clear he hst hst2 z3 hl e1
      go_enter Tryz.func47, Tryz.ntmps47
      go_wp2
      go_region
      all_goals (go_wp2; exact bodyPost_ret (results_tmp rfl _ _ _) rfl ⟨rfl, ((Below.refl _ _).alloc (Nat.le_refl _) _).trans ⟨rfl, rfl, rfl, Nat.le_refl _, fun _ _ => rfl⟩⟩)
end Go.Proofs.YthipclehhcfahaaGreatDoor
