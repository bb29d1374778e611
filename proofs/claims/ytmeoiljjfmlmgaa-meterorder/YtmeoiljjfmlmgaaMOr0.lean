/-
  MeterOrder: four meters; what counts come to.
-/
import Derived.Test.YtmeoiljjfmlmgaaMeW
import Derived.Test.YtmeoiljjfmlmgaaEq8
import Derived.Test.YtmeoiljjfmlmgaaCo8
namespace Go.Proofs.Ytmeoiljjfmlmgaa
open Go.RowKit

/-- Four meters of the call's own. -/
structure O4 (w0 w : World) (A B C D : Nat) (a b c d : Nat → Int) : Prop where
  ma : Mt 57 A a w
  mb : Mt 57 B b w
  mc : Mt 57 C c w
  md : Mt 57 D d w
  h0 : w0.heap.size ≤ A
  h1 : A < B
  h2 : B < C
  h3 : C < D
  kp : Kp [] w0 w
theorem O4.next {w0 w w' : World} {A B C D : Nat} {a b c d : Nat → Int} (h : O4 w0 w A B C D a b c d) (k : Kp [] w w') : O4 w0 w' A B C D a b c d :=
  ⟨h.ma.kp k (by simp), h.mb.kp k (by simp), h.mc.kp k (by simp), h.md.kp k (by simp), h.h0, h.h1, h.h2, h.h3, kp_tr h.kp k⟩
theorem O4.setA {w0 w w' : World} {A B C D : Nat} {a a' b c d : Nat → Int} (h : O4 w0 w A B C D a b c d) (m : Mt 57 A a' w') (k : Kp [A] w w') : O4 w0 w' A B C D a' b c d := by
  have h1 := h.h1
  have h2 := h.h2
  have h3 := h.h3
  exact ⟨m, h.mb.kp k (by simp; omega), h.mc.kp k (by simp; omega), h.md.kp k (by simp; omega), h.h0, h1, h2, h3, kp_own h.kp k h.h0⟩
theorem O4.setB {w0 w w' : World} {A B C D : Nat} {a b b' c d : Nat → Int} (h : O4 w0 w A B C D a b c d) (m : Mt 57 B b' w') (k : Kp [B] w w') : O4 w0 w' A B C D a b' c d := by
  have h0 := h.h0
  have h1 := h.h1
  have h2 := h.h2
  have h3 := h.h3
  exact ⟨h.ma.kp k (by simp; omega), m, h.mc.kp k (by simp; omega), h.md.kp k (by simp; omega), h0, h1, h2, h3, kp_own h.kp k (by omega)⟩
theorem O4.setC {w0 w w' : World} {A B C D : Nat} {a b c c' d : Nat → Int} (h : O4 w0 w A B C D a b c d) (m : Mt 57 C c' w') (k : Kp [C] w w') : O4 w0 w' A B C D a b c' d := by
  have h0 := h.h0
  have h1 := h.h1
  have h2 := h.h2
  have h3 := h.h3
  exact ⟨h.ma.kp k (by simp; omega), h.mb.kp k (by simp; omega), m, h.md.kp k (by simp; omega), h0, h1, h2, h3, kp_own h.kp k (by omega)⟩
theorem O4.setD {w0 w w' : World} {A B C D : Nat} {a b c d d' : Nat → Int} (h : O4 w0 w A B C D a b c d) (m : Mt 57 D d' w') (k : Kp [D] w w') : O4 w0 w' A B C D a b c d' := by
  have h0 := h.h0
  have h1 := h.h1
  have h2 := h.h2
  have h3 := h.h3
  exact ⟨h.ma.kp k (by simp; omega), h.mb.kp k (by simp; omega), h.mc.kp k (by simp; omega), m, h0, h1, h2, h3, kp_own h.kp k (by omega)⟩
/-- A raise that fits. -/
theorem addK (b k : Nat) (c : Nat → Int) (n : Int) (w : World) (hk : k < 8) (h0 : 0 ≤ n) (hs : c k + n ≤ 4611686018427387904) (h : Mt 57 b c w) : Calls Try.prog 12 #[.pointer (some ⟨b, 0, none⟩), .int .i64 (k : Int), .int .i64 n] w fun e w' => e = .returned (.tuple #[.int .i64 (c k + n), .int .i64 0]) ∧ Mt 57 b (up c k (c k + n)) w' ∧ Kp [b] w w' := by
  have hl := h.low k hk
  have e : adE c (k : Int) n = 0 := by
    unfold adE
    rw [inK_of k hk, if_pos rfl, if_neg (by omega), Int.toNat_natCast, if_pos hs]
  refine (add_any b c k n w (by omega) h).mono fun r w' hh => ?_
  unfold adN adC at hh
  rw [e, if_pos rfl, if_pos rfl, Int.toNat_natCast] at hh
  exact hh
/-- What one raise adds to a count. -/
def one (y : Co) (i : Nat) : Int := if (y.k % 8).toNat = i then y.n % 1099511627776 else 0
/-- What all raises come to. -/
def sm : List Co → Nat → Int
  | [], _ => 0
  | y :: t, i => one y i + sm t i
theorem one_nn (y : Co) (i : Nat) : 0 ≤ one y i ∧ one y i < 1099511627776 := by unfold one; split <;> omega
theorem sm_snoc (l : List Co) (y : Co) (i : Nat) : sm (l ++ [y]) i = sm l i + one y i := by
  induction l with
  | nil => simp [sm]
  | cons x t ih =>
    show one x i + sm (t ++ [y]) i = one x i + sm t i + one y i
    rw [ih]; omega
theorem sm_le (l : List Co) (i : Nat) : 0 ≤ sm l i ∧ sm l i ≤ (l.length : Int) * 1099511627776 := by
  induction l with
  | nil => simp [sm]
  | cons x t ih =>
    have := one_nn x i
    simp only [sm, List.length_cons]
    omega
theorem sm_take (l : List Co) (j : Nat) (hj : j < l.length) (i : Nat) : sm (l.take (j + 1)) i = sm (l.take j) i + one l[j] i := by
  rw [List.take_succ_eq_append_getElem hj, sm_snoc]
theorem sm_drop (l : List Co) (n j : Nat) (hj : j < n) (hn : n ≤ l.length) (i : Nat) : sm ((l.take n).drop j) i = one (l[j]'(by omega)) i + sm ((l.take n).drop (j + 1)) i := by
  have hlen : j < (l.take n).length := by simp; omega
  rw [List.drop_eq_getElem_cons hlen]
  simp [sm]
theorem sm_up (c : Nat → Int) (y : Co) (k : Nat) (hk : (y.k % 8) = (k : Int)) : up c k (c k + y.n % 1099511627776) = fun i => c i + one y i := by
  funext i
  unfold up one
  rw [hk, Int.toNat_natCast]
  by_cases h : i = k
  · rw [if_pos h, if_pos h.symm, h]
  · rw [if_neg h, if_neg (fun e => h e.symm)]; omega
theorem newB (w : World) : Calls Try.prog 7 #[] w fun e w' => ∃ b, e = .returned (.pointer (some ⟨b, 0, none⟩)) ∧ w.heap.size ≤ b ∧ b < w'.heap.size ∧ Mt 57 b c0 w' ∧ Kp [] w w' :=
  (new_any w).mono fun _ _ hh => ⟨_, hh.1, Nat.le_refl _, hh.2.1.lt, hh.2.1, hh.2.2⟩
/-- Behind j raises: a has them all, c and d between them. -/
structure OS (w0 w : World) (A B C D : Nat) (l : List Co) (j : Nat) (c d : Nat → Int) : Prop where
  st : O4 w0 w A B C D (sm (l.take j)) c0 c d
  sum : ∀ i, i < 8 → c i + d i = sm (l.take j) i
/-- Behind the raises from j on, in b. -/
structure OT (w0 w : World) (A B C D : Nat) (l : List Co) (n j : Nat) (c d : Nat → Int) : Prop where
  st : O4 w0 w A B C D (sm (l.take n)) (sm ((l.take n).drop j)) c d
  sum : ∀ i, i < 8 → c i + d i = sm (l.take n) i
theorem take_le (l : List Co) (j i : Nat) (hj : j < 200) : 0 ≤ sm (l.take j) i ∧ sm (l.take j) i + 1099511627776 ≤ 4611686018427387904 := by
  have h := sm_le (l.take j) i
  have hl : (l.take j).length ≤ j := by simp; omega
  refine ⟨h.1, ?_⟩
  have : ((l.take j).length : Int) ≤ 199 := by omega
  omega
theorem drop_le (l : List Co) (n j i : Nat) (hn : n ≤ 200) (hj : 0 < j) : 0 ≤ sm ((l.take n).drop j) i ∧ sm ((l.take n).drop j) i + 1099511627776 ≤ 4611686018427387904 := by
  have h := sm_le ((l.take n).drop j) i
  have hl : ((l.take n).drop j).length ≤ 199 := by simp; omega
  refine ⟨h.1, ?_⟩
  have : (((l.take n).drop j).length : Int) ≤ 199 := by omega
  omega
end Go.Proofs.Ytmeoiljjfmlmgaa
