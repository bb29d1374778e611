/-
  A meter: how it lies, its leaves: may a count be, does a raise fit, a count read, a count changed.
-/
import Derived.Test.YtmeoiljjfmlmgaaProg
import Derived.Test.YtmeoiljjfmlmgaaKp0
import Derived.Tactics
import Derived.Tactics2
import Derived.Laws.Pointers
import Derived.Laws.LoneSync
namespace Go.Proofs.Ytmeoiljjfmlmgaa
open Go.RowKit

/-- Eight counts as cells. -/
def mC (c : Nat → Int) : Array Value := #[.int .i64 (c 0), .int .i64 (c 1), .int .i64 (c 2), .int .i64 (c 3), .int .i64 (c 4), .int .i64 (c 5), .int .i64 (c 6), .int .i64 (c 7)]
/-- One of them set. -/
def up (c : Nat → Int) (k : Nat) (x : Int) : Nat → Int := fun i => if i = k then x else c i
theorem mC_at (c : Nat → Int) (k : Nat) (hk : k < 8) : (mC c)[k]? = some (.int .i64 (c k)) := by
  match k, hk with
  | 0, _ => rfl
  | 1, _ => rfl
  | 2, _ => rfl
  | 3, _ => rfl
  | 4, _ => rfl
  | 5, _ => rfl
  | 6, _ => rfl
  | 7, _ => rfl
theorem mC_up (c : Nat → Int) (k : Nat) (x : Int) (hk : k < 8) : (mC c).setIfInBounds k (.int .i64 x) = mC (up c k x) := by
  match k, hk with
  | 0, _ => rfl
  | 1, _ => rfl
  | 2, _ => rfl
  | 3, _ => rfl
  | 4, _ => rfl
  | 5, _ => rfl
  | 6, _ => rfl
  | 7, _ => rfl
theorem mC_ext {c d : Nat → Int} (h : ∀ k, k < 8 → c k = d k) : mC c = mC d := by
  unfold mC
  rw [h 0 (by decide), h 1 (by decide), h 2 (by decide), h 3 (by decide), h 4 (by decide), h 5 (by decide), h 6 (by decide), h 7 (by decide)]
/-- A meter lies there: eight counts. -/
structure Mt (t b : Nat) (c : Nat → Int) (w : World) : Prop where
  box : CBox b (mC c) t w
  low : ∀ k, k < 8 → 0 ≤ c k
  top : ∀ k, k < 8 → c k ≤ 4611686018427387904
theorem Mt.cell {t b : Nat} {c : Nat → Int} {w : World} (h : Mt t b c w) (k : Nat) (hk : k < 8) : w.cell? ⟨b, k, none⟩ = some (.int .i64 (c k)) := h.box.cell (mC_at c k hk)
theorem Mt.kp {t b : Nat} {c : Nat → Int} {w w' : World} {F : List Nat} (h : Mt t b c w) (hk : Kp F w w') (hF : b ∉ F) : Mt t b c w' := ⟨h.box.kp hk hF, h.low, h.top⟩
theorem Mt.ext {t b : Nat} {c d : Nat → Int} {w : World} (h : Mt t b c w) (e : ∀ k, k < 8 → c k = d k) : Mt t b d w :=
  ⟨by rw [← mC_ext e]; exact h.box, fun k hk => by rw [← e k hk]; exact h.low k hk, fun k hk => by rw [← e k hk]; exact h.top k hk⟩
theorem Mt.lt {t b : Nat} {c : Nat → Int} {w : World} (h : Mt t b c w) : b < w.heap.size := (Array.getElem?_eq_some_iff.1 h.box).1
theorem Mt.set {t b : Nat} {c : Nat → Int} {w : World} (h : Mt t b c w) (k : Nat) (hk : k < 8) (x : Int) (h0 : 0 ≤ x) (h1 : x ≤ 4611686018427387904) : Mt t b (up c k x) (w.setCell ⟨b, k, none⟩ (.int .i64 x)) :=
  ⟨by rw [← mC_up c k x hk]; exact h.box.set k _, fun i hi => by unfold up; split; exact h0; exact h.low i hi, fun i hi => by unfold up; split; exact h1; exact h.top i hi⟩
theorem kp_tr {a b c : World} (h : Kp [] a b) (k : Kp [] b c) : Kp [] a c := h.trans k (by simp)

/-- May a number be a count? -/
def mayC (n : Int) : Bool := decide (0 ≤ n ∧ n ≤ 4611686018427387904)
theorem meMay_any (n : Int) (w : World) : Calls Try.prog 26 #[.int .i64 n] w fun e w' => e = .returned (.bool (mayC n)) ∧ w' = w := by
  have HB : Hid (mayC n = true ↔ 0 ≤ n ∧ n ≤ 4611686018427387904) := hide (by unfold mayC; simp)
  generalize mayC n = B at *
  go_enter Try.func26, Try.ntmps26
  by_cases h1 : 0 ≤ n
  · by_cases h2 : n ≤ 4611686018427387904
    · go_wp2
      go_ret
      exact ⟨ret_bool (Bool.eq_iff_iff.2 (by rw [unhide HB]; simp; omega)), rfl⟩
    · go_wp2
      go_ret
      exact ⟨ret_bool (Bool.eq_iff_iff.2 (by rw [unhide HB]; simp; omega)), rfl⟩
  · go_wp2
    go_ret
    exact ⟨ret_bool (Bool.eq_iff_iff.2 (by rw [unhide HB]; simp; omega)), rfl⟩
/-- Is there such a count? -/
def inK (k : Int) : Bool := decide (0 ≤ k ∧ k < 8)
theorem meHas_any (b : Nat) (k : Int) (w : World) : Calls Try.prog 23 #[.pointer (some ⟨b, 0, none⟩), .int .i64 k] w fun e w' => e = .returned (.bool (inK k)) ∧ w' = w := by
  have HB : Hid (inK k = true ↔ 0 ≤ k ∧ k < 8) := hide (by unfold inK; simp)
  generalize inK k = B at *
  go_enter Try.func23, Try.ntmps23
  by_cases h1 : 0 ≤ k
  · by_cases h2 : k < 8
    · go_wp2
      go_ret
      exact ⟨ret_bool (Bool.eq_iff_iff.2 (by rw [unhide HB]; simp; omega)), rfl⟩
    · go_wp2
      go_ret
      exact ⟨ret_bool (Bool.eq_iff_iff.2 (by rw [unhide HB]; simp; omega)), rfl⟩
  · go_wp2
    go_ret
    exact ⟨ret_bool (Bool.eq_iff_iff.2 (by rw [unhide HB]; simp; omega)), rfl⟩
theorem meFits_any (x n : Int) (hn : 0 ≤ n) (hm : n ≤ 9223372036854775807) (w : World) : Calls Try.prog 25 #[.int .i64 x, .int .i64 n] w fun e w' => e = .returned (.bool (decide (x + n ≤ 4611686018427387904))) ∧ w' = w := by
  go_enter Try.func25, Try.ntmps25
  go_wp2
  go_ret
  exact ⟨ret_bool (Bool.eq_iff_iff.2 (by simp; omega)), rfl⟩
theorem aLoad (b k : Nat) (x : Int) (w : World) (hc : w.cell? ⟨b, k, none⟩ = some (.int .i64 x)) : Calls Try.prog 31 #[.pointer (some ⟨b, k, none⟩)] w fun e w' => e = .returned (.int .i64 x) ∧ w' = w := by
  have hl := run_call_load (P := Try.prog) Try.func33 (by kernel_rfl) (by kernel_rfl) (by kernel_rfl) .i64 (by kernel_rfl) hc
  go_enter Try.func31, Try.ntmps31
  go_wp2
  go_ret
  exact ⟨rfl, rfl⟩
theorem aHit (b k : Nat) (x y : Int) (w : World) (hc : w.cell? ⟨b, k, none⟩ = some (.int .i64 x)) (hz : w.frozen? ⟨b, k, none⟩ = false) : Calls Try.prog 32 #[.pointer (some ⟨b, k, none⟩), .int .i64 x, .int .i64 y] w fun e w' => e = .returned (.bool true) ∧ w' = w.setCell ⟨b, k, none⟩ (.int .i64 y) := by
  have hl := run_call_cas_hit (P := Try.prog) Try.func34 (by kernel_rfl) (by kernel_rfl) (by kernel_rfl) .i64 (by kernel_rfl) (y := y) hc hz
  go_enter Try.func32, Try.ntmps32
  go_wp2
  go_ret
  exact ⟨rfl, rfl⟩
theorem aMiss (b k : Nat) (x o y : Int) (w : World) (hc : w.cell? ⟨b, k, none⟩ = some (.int .i64 x)) (hz : w.frozen? ⟨b, k, none⟩ = false) (hne : ¬ x = o) : Calls Try.prog 32 #[.pointer (some ⟨b, k, none⟩), .int .i64 o, .int .i64 y] w fun e w' => e = .returned (.bool false) ∧ w' = w := by
  have hl := run_call_cas_miss (P := Try.prog) Try.func34 (by kernel_rfl) (by kernel_rfl) (by kernel_rfl) .i64 (by kernel_rfl) (y := y) hc hz hne
  go_enter Try.func32, Try.ntmps32
  go_wp2
  go_ret
  exact ⟨rfl, rfl⟩
theorem meCount_any (b k : Nat) (x : Int) (hk : k < 8) (w : World) (hc : w.cell? ⟨b, k, none⟩ = some (.int .i64 x)) : Calls Try.prog 22 #[.pointer (some ⟨b, 0, none⟩), .int .i64 (k : Int)] w fun e w' => e = .returned (.int .i64 x) ∧ w' = w := by
  have L := hide (aLoad b k x w hc)
  clear hc
  have h1 : (k : Int) < 8 := by omega
  go_enter Try.func22, Try.ntmps22
  go_wp2_with fail
  refine (unhide L).mono ?_
  rintro r w1 ⟨rfl, rfl⟩
  go_wp2
  go_ret
  exact ⟨rfl, rfl⟩
theorem meHit_any (b k : Nat) (x y : Int) (hk : k < 8) (w : World) (hc : w.cell? ⟨b, k, none⟩ = some (.int .i64 x)) (hz : w.frozen? ⟨b, k, none⟩ = false) : Calls Try.prog 28 #[.pointer (some ⟨b, 0, none⟩), .int .i64 (k : Int), .int .i64 x, .int .i64 y] w fun e w' => e = .returned (.bool true) ∧ w' = w.setCell ⟨b, k, none⟩ (.int .i64 y) := by
  have L := hide (aHit b k x y w hc hz)
  clear hc hz
  have h1 : (k : Int) < 8 := by omega
  go_enter Try.func28, Try.ntmps28
  go_wp2_with fail
  refine (unhide L).mono ?_
  rintro r w1 ⟨rfl, rfl⟩
  go_wp2
  go_ret
  exact ⟨rfl, rfl⟩
theorem meMiss_any (b k : Nat) (x o y : Int) (hk : k < 8) (w : World) (hc : w.cell? ⟨b, k, none⟩ = some (.int .i64 x)) (hz : w.frozen? ⟨b, k, none⟩ = false) (hne : ¬ x = o) : Calls Try.prog 28 #[.pointer (some ⟨b, 0, none⟩), .int .i64 (k : Int), .int .i64 o, .int .i64 y] w fun e w' => e = .returned (.bool false) ∧ w' = w := by
  have L := hide (aMiss b k x o y w hc hz hne)
  clear hc hz hne
  have h1 : (k : Int) < 8 := by omega
  go_enter Try.func28, Try.ntmps28
  go_wp2_with fail
  refine (unhide L).mono ?_
  rintro r w1 ⟨rfl, rfl⟩
  go_wp2
  go_ret
  exact ⟨rfl, rfl⟩
end Go.Proofs.Ytmeoiljjfmlmgaa
