/-
  Two meters beside the document's: an act.
-/
import Derived.Test.YtmeoiljjfmlmgaaMeS
import Derived.Test.YtmeoiljjfmlmgaaMeW
import Derived.Test.YtmeoiljjfmlmgaaAc8
namespace Go.Proofs.Ytmeoiljjfmlmgaa
open Go.RowKit

/-- Two meters, and the document's two, each of its own counts; all of the call's own. -/
structure P4 (w0 w : World) (m o r p : Nat) (c d e f : Nat → Int) : Prop where
  mm : Mt 57 m c w
  mo : Mt 57 o d w
  mr : Mt 28 r e w
  mp : Mt 28 p f w
  n1 : m ≠ o
  n2 : r ≠ p
  n3 : m ≠ r
  n4 : m ≠ p
  n5 : o ≠ r
  n6 : o ≠ p
  b1 : w0.heap.size ≤ m
  b2 : w0.heap.size ≤ o
  b3 : w0.heap.size ≤ r
  b4 : w0.heap.size ≤ p
  kp : Kp [] w0 w
theorem P4.next {w0 w w' : World} {m o r p : Nat} {c d e f : Nat → Int} (h : P4 w0 w m o r p c d e f) (k : Kp [] w w') : P4 w0 w' m o r p c d e f :=
  ⟨h.mm.kp k (by simp), h.mo.kp k (by simp), h.mr.kp k (by simp), h.mp.kp k (by simp), h.n1, h.n2, h.n3, h.n4, h.n5, h.n6, h.b1, h.b2, h.b3, h.b4, kp_tr h.kp k⟩
theorem P4.setm {w0 w w' : World} {m o r p : Nat} {c c' d e f : Nat → Int} (h : P4 w0 w m o r p c d e f) (hm : Mt 57 m c' w') (k : Kp [m] w w') : P4 w0 w' m o r p c' d e f :=
  ⟨hm, h.mo.kp k (by simpa using h.n1.symm), h.mr.kp k (by simpa using h.n3.symm), h.mp.kp k (by simpa using h.n4.symm), h.n1, h.n2, h.n3, h.n4, h.n5, h.n6, h.b1, h.b2, h.b3, h.b4, kp_own h.kp k h.b1⟩
theorem P4.setr {w0 w w' : World} {m o r p : Nat} {c d e e' f : Nat → Int} (h : P4 w0 w m o r p c d e f) (hm : Mt 28 r e' w') (k : Kp [r] w w') : P4 w0 w' m o r p c d e' f :=
  ⟨h.mm.kp k (by simpa using h.n3), h.mo.kp k (by simpa using h.n5), hm, h.mp.kp k (by simpa using h.n2.symm), h.n1, h.n2, h.n3, h.n4, h.n5, h.n6, h.b1, h.b2, h.b3, h.b4, kp_own h.kp k h.b3⟩
theorem P4.swap {w0 w : World} {m o r p : Nat} {c d e f : Nat → Int} (h : P4 w0 w m o r p c d e f) : P4 w0 w o m p r d c f e :=
  ⟨h.mo, h.mm, h.mp, h.mr, h.n1.symm, h.n2.symm, h.n6, h.n5, h.n4, h.n3, h.b2, h.b1, h.b4, h.b3, h.kp⟩
/-- All four, and an act's box. -/
structure PB (w0 w : World) (m o r p g : Nat) (c d e f : Nat → Int) (a : A8) : Prop where
  st : P4 w0 w m o r p c d e f
  box : CBox g #[.int .i64 a.kind, .int .i64 a.which, .int .i64 a.k, .int .i64 a.n, .int .i64 a.m] 31 w
  ng : m ≠ g ∧ r ≠ g
theorem PB.next {w0 w w' : World} {m o r p g : Nat} {c d e f : Nat → Int} {a : A8} (h : PB w0 w m o r p g c d e f a) (k : Kp [] w w') : PB w0 w' m o r p g c d e f a := ⟨h.st.next k, h.box.kp k (by simp), h.ng⟩
theorem PB.setm {w0 w w' : World} {m o r p g : Nat} {c c' d e f : Nat → Int} {a : A8} (h : PB w0 w m o r p g c d e f a) (hm : Mt 57 m c' w') (k : Kp [m] w w') : PB w0 w' m o r p g c' d e f a := ⟨h.st.setm hm k, h.box.kp k (by simpa using h.ng.1.symm), h.ng⟩
theorem PB.setr {w0 w w' : World} {m o r p g : Nat} {c d e e' f : Nat → Int} {a : A8} (h : PB w0 w m o r p g c d e f a) (hm : Mt 28 r e' w') (k : Kp [r] w w') : PB w0 w' m o r p g c d e' f a := ⟨h.st.setr hm k, h.box.kp k (by simpa using h.ng.2.symm), h.ng⟩
theorem PB.cells {w0 w : World} {m o r p g : Nat} {c d e f : Nat → Int} {a : A8} (h : PB w0 w m o r p g c d e f a) : w.cell? ⟨g, 0, none⟩ = some (.int .i64 a.kind) ∧ w.cell? ⟨g, 1, none⟩ = some (.int .i64 a.which) ∧ w.cell? ⟨g, 2, none⟩ = some (.int .i64 a.k) ∧ w.cell? ⟨g, 3, none⟩ = some (.int .i64 a.n) ∧ w.cell? ⟨g, 4, none⟩ = some (.int .i64 a.m) :=
  ⟨h.box.cell rfl, h.box.cell rfl, h.box.cell rfl, h.box.cell rfl, h.box.cell rfl⟩
/-- What an act leaves. -/
def Stp (w0 w' : World) (m o r p : Nat) (d : Nat → Int) : Prop := ∃ c, P4 w0 w' m o r p c d c d
set_option maxHeartbeats 2000000 in
set_option maxRecDepth 100000 in
theorem step_any (m o r p : Nat) (c d : Nat → Int) (a : A8) (w0 w : World) (hok : a.ok) (h : P4 w0 w m o r p c d c d) : Calls Try.prog 9 #[.pointer (some ⟨m, 0, none⟩), .pointer (some ⟨o, 0, none⟩), .pointer (some ⟨r, 0, none⟩), .pointer (some ⟨p, 0, none⟩), .agg #[.int .i64 a.kind, .int .i64 a.which, .int .i64 a.k, .int .i64 a.n, .int .i64 a.m]] w fun e w' => e = .returned (.bool true) ∧ Stp w0 w' m o r p d := by
  have AM := hide (fun W => meAmong_any a.kind 7 W (by decide) (by decide))
  have hn2 : a.n ≤ 9223372036854775807 := hok.2.2.2.1.2
  have HB : Hid (PB w0 (w.alloc (.cells #[.int .i64 a.kind, .int .i64 a.which, .int .i64 a.k, .int .i64 a.n, .int .i64 a.m] 31)) m o r p w.heap.size c d c d a) :=
    hide ⟨h.next (Kp.alloc _ _), CBox.new w _ _, ⟨Nat.ne_of_lt h.mm.lt, Nat.ne_of_lt h.mr.lt⟩⟩
  clear h hok
  have hx0 : 0 ≤ a.kind % 7 := Int.emod_nonneg _ (by decide)
  have hx1 : a.kind % 7 < 7 := Int.emod_lt_of_pos _ (by decide)
  generalize a.kind % 7 = x at *
  go_enter Try.func9, Try.ntmps9
  go_wp2_with fail
  generalize w.heap.size = g at *
  refine (unhide AM _).mono ?_
  rintro _ w1 ⟨rfl, rfl⟩
  clear AM
  generalize w.alloc (.cells #[.int .i64 a.kind, .int .i64 a.which, .int .i64 a.k, .int .i64 a.n, .int .i64 a.m] 31) = W1 at *
  obtain ⟨x0, x1, x2, x3, x4⟩ := (unhide HB).cells
  rcases (by omega : x = 0 ∨ x = 1 ∨ x = 2 ∨ x = 3 ∨ x = 4 ∨ x = 5 ∨ x = 6) with rfl | rfl | rfl | rfl | rfl | rfl | rfl
  · have A1 := hide (add_any m c a.k a.n W1 hn2 (unhide HB).st.mm)
    have A2 := hide (fun W => radd_any r c a.k a.n W hn2)
    clear hx0 hx1 hn2
    generalize adC c a.k a.n = C' at *
    generalize adN c a.k a.n = V at *
    generalize adE c a.k a.n = E at *
    go_wp2_with fail
    refine (unhide A1).mono ?_
    rintro _ w2 ⟨rfl, hm, hk⟩
    have HB2 := hide ((unhide HB).setm hm hk)
    clear hm hk A1 HB x0 x1 x2 x3 x4
    obtain ⟨x0, x1, x2, x3, x4⟩ := (unhide HB2).cells
    go_wp2_with fail
    refine (unhide A2 w2 (unhide HB2).st.mr).mono ?_
    rintro _ w3 ⟨rfl, hm, hk⟩
    have HB3 := hide ((unhide HB2).setr hm hk)
    clear hm hk A2 HB2 x0 x1 x2 x3 x4
    go_wp2
    go_ret
    exact ⟨rfl, _, (unhide HB3).st⟩
  · have A1 := hide (most_any m c a.k a.n W1 (unhide HB).st.mm)
    have A2 := hide (fun W => rmost_any r c a.k a.n W)
    clear hx0 hx1 hn2
    generalize moC c a.k a.n = C' at *
    generalize moN c a.k a.n = V at *
    generalize moE a.k a.n = E at *
    go_wp2_with fail
    refine (unhide A1).mono ?_
    rintro _ w2 ⟨rfl, hm, hk⟩
    have HB2 := hide ((unhide HB).setm hm hk)
    clear hm hk A1 HB x0 x1 x2 x3 x4
    obtain ⟨x0, x1, x2, x3, x4⟩ := (unhide HB2).cells
    go_wp2_with fail
    refine (unhide A2 w2 (unhide HB2).st.mr).mono ?_
    rintro _ w3 ⟨rfl, hm, hk⟩
    have HB3 := hide ((unhide HB2).setr hm hk)
    clear hm hk A2 HB2 x0 x1 x2 x3 x4
    go_wp2
    go_ret
    exact ⟨rfl, _, (unhide HB3).st⟩
  · have A1 := hide (get_any m c a.k W1 (unhide HB).st.mm)
    have A2 := hide (fun W => rget_any r c a.k W)
    clear hx0 hx1 hn2
    generalize geN c a.k = V at *
    generalize geE a.k = E at *
    go_wp2_with fail
    refine (unhide A1).mono ?_
    rintro _ w2 ⟨rfl, hm, hk⟩
    have HB2 := hide ((unhide HB).next hk)
    clear hm hk A1 HB x0 x1 x2 x3 x4
    obtain ⟨x0, x1, x2, x3, x4⟩ := (unhide HB2).cells
    go_wp2_with fail
    refine (unhide A2 w2 (unhide HB2).st.mr).mono ?_
    rintro _ w3 ⟨rfl, hm, hk⟩
    have HB3 := hide ((unhide HB2).next hk)
    clear hm hk A2 HB2 x0 x1 x2 x3 x4
    go_wp2
    go_ret
    exact ⟨rfl, _, (unhide HB3).st⟩
  · have A1 := hide (swap_any m c a.k a.n a.m W1 (unhide HB).st.mm)
    have A2 := hide (fun W => rswap_any r c a.k a.n a.m W)
    clear hx0 hx1 hn2
    generalize swC c a.k a.n a.m = C' at *
    generalize swB c a.k a.n a.m = V at *
    generalize swE a.k a.n a.m = E at *
    go_wp2_with fail
    refine (unhide A1).mono ?_
    rintro _ w2 ⟨rfl, hm, hk⟩
    have HB2 := hide ((unhide HB).setm hm hk)
    clear hm hk A1 HB x0 x1 x2 x3 x4
    obtain ⟨x0, x1, x2, x3, x4⟩ := (unhide HB2).cells
    go_wp2_with fail
    refine (unhide A2 w2 (unhide HB2).st.mr).mono ?_
    rintro _ w3 ⟨rfl, hm, hk⟩
    have HB3 := hide ((unhide HB2).setr hm hk)
    clear hm hk A2 HB2 x0 x1 x2 x3 x4
    go_wp2
    go_ret
    exact ⟨rfl, _, (unhide HB3).st⟩
  · have A1 := hide (join_any m o c d W1 (unhide HB).st.mm (unhide HB).st.mo)
    have A2 := hide (fun W => rjoin_any r p c d W (unhide HB).st.n2.symm)
    clear hx0 hx1 hn2
    generalize jnC c d = C' at *
    generalize jnE c d = E at *
    go_wp2_with fail
    refine (unhide A1).mono ?_
    rintro _ w2 ⟨rfl, hm, hk⟩
    have HB2 := hide ((unhide HB).setm hm hk)
    clear hm hk A1 HB x0 x1 x2 x3 x4
    go_wp2_with fail
    refine (unhide A2 w2 (unhide HB2).st.mr (unhide HB2).st.mp).mono ?_
    rintro _ w3 ⟨rfl, hm, hk⟩
    have HB3 := hide ((unhide HB2).setr hm hk)
    clear hm hk A2 HB2
    go_wp2
    go_ret
    exact ⟨rfl, _, (unhide HB3).st⟩
  · have hr := (unhide HB).st.mr
    have y0 := hr.cell 0 (by decide)
    have y1 := hr.cell 1 (by decide)
    have y2 := hr.cell 2 (by decide)
    have y3 := hr.cell 3 (by decide)
    have y4 := hr.cell 4 (by decide)
    have y5 := hr.cell 5 (by decide)
    have y6 := hr.cell 6 (by decide)
    have y7 := hr.cell 7 (by decide)
    have HB1 : Hid (PB w0 (W1.alloc (.cells (mC c) 28)) m o r p g c d c d a ∧ Mt 28 W1.heap.size c (W1.alloc (.cells (mC c) 28)) ∧ W1.heap.size ≠ m ∧ W1.heap.size ≠ r) :=
      hide ⟨(unhide HB).next (Kp.alloc _ _), ⟨CBox.new W1 _ _, hr.low, hr.top⟩, Nat.ne_of_gt (unhide HB).st.mm.lt, Nat.ne_of_gt hr.lt⟩
    clear hr HB hx0 hx1 hn2
    go_wp2_with fail
    clear y0 y1 y2 y3 y4 y5 y6 y7 x0 x1 x2 x3 x4
    generalize W1.heap.size = q at *
    have A1 := hide (join_any m m c c _ (unhide HB1).1.st.mm (unhide HB1).1.st.mm)
    have A2 := hide (fun W => rjoin_any r q c c W (unhide HB1).2.2.2)
    generalize jnC c c = C' at *
    generalize jnE c c = E at *
    refine (unhide A1).mono ?_
    rintro _ w2 ⟨rfl, hm, hk⟩
    have HB2 : Hid (PB w0 w2 m o r p g C' d c d a ∧ Mt 28 q c w2) := hide ⟨(unhide HB1).1.setm hm hk, (unhide HB1).2.1.kp hk (by simpa using (unhide HB1).2.2.1)⟩
    clear hm hk A1 HB1
    go_wp2_with fail
    refine (unhide A2 w2 (unhide HB2).1.st.mr (unhide HB2).2).mono ?_
    rintro _ w3 ⟨rfl, hm, hk⟩
    have HB3 := hide ((unhide HB2).1.setr hm hk)
    clear hm hk A2 HB2
    go_wp2
    go_ret
    exact ⟨rfl, _, (unhide HB3).st⟩
  · have A1 := hide (join_none m W1)
    clear hx0 hx1 hn2
    go_wp2_with fail
    refine (unhide A1).mono ?_
    rintro _ w2 ⟨rfl, rfl⟩
    clear A1
    go_wp2
    go_ret
    exact ⟨rfl, _, (unhide HB).st⟩
end Go.Proofs.Ytmeoiljjfmlmgaa
