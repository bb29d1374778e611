/-
  MeterOrder: each raise, and what is told at the end.
-/
import Derived.Test.YtmeoiljjfmlmgaaMOr0
namespace Go.Proofs.Ytmeoiljjfmlmgaa
open Go.RowKit

theorem OS.addA {w0 w : World} {A B C D : Nat} {l : List Co} {j : Nat} {c d : Nat → Int} (h : OS w0 w A B C D l j c d) (hj : j < l.length) (h200 : j < 200) (k : Nat) (hk8 : k < 8) (hk : l[j].k % 8 = (k : Int)) : Calls Try.prog 12 #[.pointer (some ⟨A, 0, none⟩), .int .i64 (k : Int), .int .i64 (l[j].n % 1099511627776)] w fun e w' => (∃ V, e = .returned (.tuple #[.int .i64 V, .int .i64 0])) ∧ O4 w0 w' A B C D (sm (l.take (j + 1))) c0 c d := by
  have b1 := take_le l j k h200
  refine (addK A k _ _ w hk8 (by omega) (by omega) h.st.ma).mono fun r w' hh => ⟨⟨_, hh.1⟩, h.st.setA ?_ hh.2.2⟩
  rw [sm_up _ _ _ hk] at hh
  exact hh.2.1.ext fun i _ => (sm_take l j hj i).symm
theorem O4.addC {w0 w : World} {A B C D : Nat} {l : List Co} {j : Nat} {c d : Nat → Int} (h : O4 w0 w A B C D (sm (l.take (j + 1))) c0 c d) (hs : ∀ i, i < 8 → c i + d i = sm (l.take j) i) (hj : j < l.length) (h200 : j < 200) (k : Nat) (hk8 : k < 8) (hk : l[j].k % 8 = (k : Int)) : Calls Try.prog 12 #[.pointer (some ⟨C, 0, none⟩), .int .i64 (k : Int), .int .i64 (l[j].n % 1099511627776)] w fun e w' => (∃ V, e = .returned (.tuple #[.int .i64 V, .int .i64 0])) ∧ ∃ c' d', OS w0 w' A B C D l (j + 1) c' d' := by
  have b1 := take_le l j k h200
  have b2 := h.md.low k hk8
  have b3 := hs k hk8
  refine (addK C k _ _ w hk8 (by omega) (by omega) h.mc).mono fun r w' hh => ⟨⟨_, hh.1⟩, (fun i => c i + one l[j] i), d, h.setC ?_ hh.2.2, fun i hi => ?_⟩
  · rw [sm_up _ _ _ hk] at hh
    exact hh.2.1
  · rw [sm_take l j hj i, ← hs i hi]
    omega
theorem O4.addD {w0 w : World} {A B C D : Nat} {l : List Co} {j : Nat} {c d : Nat → Int} (h : O4 w0 w A B C D (sm (l.take (j + 1))) c0 c d) (hs : ∀ i, i < 8 → c i + d i = sm (l.take j) i) (hj : j < l.length) (h200 : j < 200) (k : Nat) (hk8 : k < 8) (hk : l[j].k % 8 = (k : Int)) : Calls Try.prog 12 #[.pointer (some ⟨D, 0, none⟩), .int .i64 (k : Int), .int .i64 (l[j].n % 1099511627776)] w fun e w' => (∃ V, e = .returned (.tuple #[.int .i64 V, .int .i64 0])) ∧ ∃ c' d', OS w0 w' A B C D l (j + 1) c' d' := by
  have b1 := take_le l j k h200
  have b2 := h.mc.low k hk8
  have b3 := hs k hk8
  refine (addK D k _ _ w hk8 (by omega) (by omega) h.md).mono fun r w' hh => ⟨⟨_, hh.1⟩, c, (fun i => d i + one l[j] i), h.setD ?_ hh.2.2, fun i hi => ?_⟩
  · rw [sm_up _ _ _ hk] at hh
    exact hh.2.1
  · rw [sm_take l j hj i, ← hs i hi]
    omega
theorem OT.addB {w0 w : World} {A B C D : Nat} {l : List Co} {n j : Nat} {c d : Nat → Int} (h : OT w0 w A B C D l n (j + 1) c d) (hj : j < n) (hn : n ≤ l.length) (h200 : n ≤ 200) (k : Nat) (hk8 : k < 8) (hk : (l[j]'(by omega)).k % 8 = (k : Int)) : Calls Try.prog 12 #[.pointer (some ⟨B, 0, none⟩), .int .i64 (k : Int), .int .i64 ((l[j]'(by omega)).n % 1099511627776)] w fun e w' => (∃ V, e = .returned (.tuple #[.int .i64 V, .int .i64 0])) ∧ OT w0 w' A B C D l n j c d := by
  have b1 := drop_le l n (j + 1) k h200 (by omega)
  refine (addK B k _ _ w hk8 (by omega) (by omega) h.st.mb).mono fun r w' hh => ⟨⟨_, hh.1⟩, h.st.setB ?_ hh.2.2, h.sum⟩
  rw [sm_up _ _ _ hk] at hh
  exact hh.2.1.ext fun i _ => by rw [sm_drop l n j hj hn i]; omega
/-- Four meters, and a row of what one of them had. -/
structure OQ (w0 w : World) (A B C D Q : Nat) (a b c d : Nat → Int) : Prop where
  st : O4 w0 w A B C D a b c d
  box : CBox Q (mC d) 26 w
  q1 : Q ≠ C
theorem OQ.next {w0 w w' : World} {A B C D Q : Nat} {a b c d : Nat → Int} (h : OQ w0 w A B C D Q a b c d) (k : Kp [] w w') : OQ w0 w' A B C D Q a b c d := ⟨h.st.next k, h.box.kp k (by simp), h.q1⟩
theorem OQ.cells {w0 w : World} {A B C D Q : Nat} {a b c d : Nat → Int} (h : OQ w0 w A B C D Q a b c d) : w.cell? ⟨Q, 0, none⟩ = some (.int .i64 (d 0)) ∧ w.cell? ⟨Q, 1, none⟩ = some (.int .i64 (d 1)) ∧ w.cell? ⟨Q, 2, none⟩ = some (.int .i64 (d 2)) ∧ w.cell? ⟨Q, 3, none⟩ = some (.int .i64 (d 3)) ∧ w.cell? ⟨Q, 4, none⟩ = some (.int .i64 (d 4)) ∧ w.cell? ⟨Q, 5, none⟩ = some (.int .i64 (d 5)) ∧ w.cell? ⟨Q, 6, none⟩ = some (.int .i64 (d 6)) ∧ w.cell? ⟨Q, 7, none⟩ = some (.int .i64 (d 7)) :=
  ⟨h.box.cell rfl, h.box.cell rfl, h.box.cell rfl, h.box.cell rfl, h.box.cell rfl, h.box.cell rfl, h.box.cell rfl, h.box.cell rfl⟩
theorem OQ.allA {w0 w : World} {A B C D Q : Nat} {a b c d : Nat → Int} (h : OQ w0 w A B C D Q a b c d) : Calls Try.prog 10 #[.pointer (some ⟨A, 0, none⟩)] w fun x w' => x = .returned (.agg #[.int .i64 (a 0), .int .i64 (a 1), .int .i64 (a 2), .int .i64 (a 3), .int .i64 (a 4), .int .i64 (a 5), .int .i64 (a 6), .int .i64 (a 7)]) ∧ OQ w0 w' A B C D Q a b c d :=
  (all_any A a w h.st.ma).mono fun _ _ hh => ⟨hh.1, h.next hh.2.2⟩
theorem OQ.allB {w0 w : World} {A B C D Q : Nat} {a b c d : Nat → Int} (h : OQ w0 w A B C D Q a b c d) : Calls Try.prog 10 #[.pointer (some ⟨B, 0, none⟩)] w fun x w' => x = .returned (.agg #[.int .i64 (b 0), .int .i64 (b 1), .int .i64 (b 2), .int .i64 (b 3), .int .i64 (b 4), .int .i64 (b 5), .int .i64 (b 6), .int .i64 (b 7)]) ∧ OQ w0 w' A B C D Q a b c d :=
  (all_any B b w h.st.mb).mono fun _ _ hh => ⟨hh.1, h.next hh.2.2⟩
theorem OQ.allC {w0 w : World} {A B C D Q : Nat} {a b c d : Nat → Int} (h : OQ w0 w A B C D Q a b c d) : Calls Try.prog 10 #[.pointer (some ⟨C, 0, none⟩)] w fun x w' => x = .returned (.agg #[.int .i64 (c 0), .int .i64 (c 1), .int .i64 (c 2), .int .i64 (c 3), .int .i64 (c 4), .int .i64 (c 5), .int .i64 (c 6), .int .i64 (c 7)]) ∧ OQ w0 w' A B C D Q a b c d :=
  (all_any C c w h.st.mc).mono fun _ _ hh => ⟨hh.1, h.next hh.2.2⟩
theorem OQ.allD {w0 w : World} {A B C D Q : Nat} {a b c d : Nat → Int} (h : OQ w0 w A B C D Q a b c d) : Calls Try.prog 10 #[.pointer (some ⟨D, 0, none⟩)] w fun x w' => x = .returned (.agg #[.int .i64 (d 0), .int .i64 (d 1), .int .i64 (d 2), .int .i64 (d 3), .int .i64 (d 4), .int .i64 (d 5), .int .i64 (d 6), .int .i64 (d 7)]) ∧ OQ w0 w' A B C D Q a b c d :=
  (all_any D d w h.st.md).mono fun _ _ hh => ⟨hh.1, h.next hh.2.2⟩
theorem OQ.join {w0 w : World} {A B C D Q : Nat} {a b c d : Nat → Int} (h : OQ w0 w A B C D Q a b c d) (hs : ∀ i, i < 8 → c i + d i = a i) : Calls Try.prog 13 #[.pointer (some ⟨C, 0, none⟩), .pointer (some ⟨D, 0, none⟩)] w fun x w' => x = .returned (.int .i64 0) ∧ OQ w0 w' A B C D Q a b a d := by
  have hB : jnB c d = true := (jnB_iff c d).2 fun k hk => by rw [hs k hk]; exact h.st.ma.top k hk
  refine (join_any C D c d w h.st.mc h.st.md).mono fun _ _ hh => ?_
  unfold jnE jnC at hh
  rw [hB, if_pos rfl, if_pos rfl] at hh
  exact ⟨hh.1, h.st.setC (hh.2.1.ext hs) hh.2.2, h.box.kp hh.2.2 (by simpa using h.q1), h.q1⟩
end Go.Proofs.Ytmeoiljjfmlmgaa
