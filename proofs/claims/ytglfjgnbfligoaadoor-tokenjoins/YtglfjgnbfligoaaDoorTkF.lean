/-
  spell and write: a token as it is written, and whether it can come out; two tokens held against one another.
-/
import Derived.Test.YtglfjgnbfligoaaDoorTkE
import Derived.Lib.AppendIntMem
namespace Go.Proofs.YtglfjgnbfligoaaDoor
open Go.RowKit

/-- Two tokens held against one another. -/
theorem eqT (d : Nat) (a b : Tk) (w : World) : (Op.equalIn (d + 2) 35 a.v b.v).run Tryd.prog w = .ok (tkEq a b) w := by
  obtain ⟨k, s, n, p⟩ := a
  obtain ⟨k', s', n', p'⟩ := b
  have hi := fun (a b : Int) (w : World) => run_equalIn_int (P := Tryd.prog) w d 3 .i64 .i64 a b Tryd.underlying3
  have hi6 := fun (a b : Int) (w : World) => run_equalIn_int (P := Tryd.prog) w d 2 .i64 .i64 a b Tryd.underlying2
  have hs := fun (a b : ByteArray) (w : World) => run_equalIn_string (P := Tryd.prog) w d 9 a b Tryd.underlying9
  unfold Op.equalIn Tk.v tkEq
  simp only [Sem.run_bind, run_underlying Tryd.underlying35, Result.andThen_ok]
  simp [part, Tryd.sizeOf3, Tryd.sizeOf2, Tryd.sizeOf9, go_sem, hi, hi6, hs, ByteArray.toList_eq]
  by_cases h0 : k = k' <;> by_cases h1 : s.data = s'.data <;> by_cases h2 : n = n' <;> by_cases h3 : p = p' <;> simp [h0, h1, h2, h3]
theorem quo_size (s : ByteArray) : (⟨#[39]⟩ ++ s ++ ⟨#[39]⟩ : ByteArray) = txt (39 :: (s.data.toList ++ [39])) := by
  apply ByteArray.ext
  apply Array.ext'
  simp [txt]
theorem format_any (n : Int) (h0 : -9223372036854775808 ≤ n) (h1 : n ≤ 9223372036854775807) (w : World) (hT : TbW w) :
    Calls Tryd.prog 46 #[.int .i64 n, .int .i64 10] w fun e w' => e = .returned (.string (txt (Lib.itoa n))) ∧ Below w.heap.size w w' := by
  refine (Tryd.strconv_FormatInt_10 n h0 h1 w hT.pow).mono ?_
  rintro e w1 ⟨rfl, kk, os, rfl⟩
  exact ⟨rfl, Lib.below_grow _ _ (Nat.le_refl _) _ _⟩
set_option maxHeartbeats 1000000 in
theorem spell_any (t : Tk) (w : World) (hT : TbW w) (hs : t.s.size ≤ 140737488351232) (h0 : -9223372036854775808 ≤ t.n) (h1 : t.n ≤ 9223372036854775807) :
    Calls Tryd.prog 41 #[t.v] w fun e w' => e = .returned (.string (txt (spell t))) ∧ Below w.heap.size w w' := by
  obtain ⟨k, s, n, p⟩ := t
  dsimp only at hs h0 h1
  unfold Tk.v
  dsimp only
  by_cases hk2 : k = 2
  · subst hk2
    rw [spell_n]
    go_enter Tryd.func41, Tryd.ntmps41
    go_wp2_with fail
    refine (format_any n h0 h1 _ (hT.alloc _)).mono ?_
    rintro e w1 ⟨rfl, hb⟩
    have HB : Hid (Below w.heap.size w w1) := hide (((Below.refl _ _).alloc (Nat.le_refl _) _).trans (hb.mono (by simp)))
    clear hb
    go_wp2
    go_ret
    exact ⟨rfl, unhide HB⟩
  · have g2 : (k == 2) = false := by simpa using hk2
    by_cases hk3 : k = 3
    · subst hk3
      rw [spell_t, ← quo_size]
      have b1 : (9223372036854775807 < (⟨#[39]⟩ : ByteArray).size + s.size) = False := eq_false (by rw [show (⟨#[39]⟩ : ByteArray).size = 1 from rfl]; omega)
      have b2 : (9223372036854775807 < (⟨#[39]⟩ ++ s : ByteArray).size + (⟨#[39]⟩ : ByteArray).size) = False := eq_false (by rw [ByteArray.size_append, show (⟨#[39]⟩ : ByteArray).size = 1 from rfl]; omega)
      go_enter Tryd.func41, Tryd.ntmps41
      go_wp2
      go_ret
      exact ⟨rfl, (Below.refl _ _).alloc (Nat.le_refl _) _⟩
    · have g3 : (k == 3) = false := by simpa using hk3
      rw [spell_s hk2 hk3, txt_self]
      go_enter Tryd.func41, Tryd.ntmps41
      go_wp2
      go_ret
      exact ⟨rfl, (Below.refl _ _).alloc (Nat.le_refl _) _⟩
end Go.Proofs.YtglfjgnbfligoaaDoor
