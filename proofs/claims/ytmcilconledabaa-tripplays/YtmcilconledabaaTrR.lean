/-
  The document's trip: how it lies; its calls.
-/
import Derived.Test.YtmcilconledabaaTrD
namespace Go.Proofs.Ytmcilconledabaa
open Go.RowKit

/-- Its cells: what is left, what is used, has it fallen, the reason. -/
def rrC (l u : Int) (d : Bool) (a c : Int) : Array Value := #[.int .i64 l, .int .i64 u, .bool d, .int .i64 a, .int .i64 c]
/-- It lies there. -/
def Rr (b : Nat) (s : TS) (w : World) : Prop := CBox b (rrC (s.room - s.used) s.used (decide (¬ s.code = 0)) s.pl s.code) 42 w
theorem Rr.kp {b : Nat} {s : TS} {w w' : World} {F : List Nat} (h : Rr b s w) (hk : Kp F w w') (hF : b ∉ F) : Rr b s w' := CBox.kp h hk hF
theorem Rr.lt {b : Nat} {s : TS} {w : World} (h : Rr b s w) : b < w.heap.size := (Array.getElem?_eq_some_iff.1 h).1
theorem rrNew_not (room : Int) (w : World) (hr : room < 0) : Calls Try.prog 8 #[.int .i64 room] w fun e w' => e = .returned (.tuple #[.pointer none, .int .i64 1]) ∧ w' = w := by
  go_enter Try.func8, Try.ntmps8
  go_wp2
  go_ret2
  exact ⟨rfl, rfl⟩
theorem rrNew_ok (room : Int) (w : World) (hr : 0 ≤ room) : Calls Try.prog 8 #[.int .i64 room] w fun e w' => e = .returned (.tuple #[.pointer (some ⟨w.heap.size, 0, none⟩), .int .i64 0]) ∧ Rr w.heap.size (nw room) w' ∧ Kp [] w w' := by
  have HN : Hid (Rr w.heap.size (nw room) (w.alloc (.cells (rrC room 0 false 0 0) 42))) := hide (by
    unfold Rr nw
    rw [show room - 0 = room by omega]
    exact CBox.new w _ _)
  go_enter Try.func8, Try.ntmps8
  go_wp2
  go_ret2
  exact ⟨rfl, unhide HN, Kp.alloc w _⟩
theorem rrFail_any (b : Nat) (s : TS) (code pl : Int) (w : World) (h : Rr b s w) : Calls Try.prog 11 #[.pointer (some ⟨b, 0, none⟩), .int .i64 code, .int .i64 pl] w fun e w' => e = .returned (.tuple #[.bool (faB s code), .int .i64 (faE code)]) ∧ Rr b (faS s code pl) w' ∧ Kp [b] w w' := by
  have HH := hide h
  by_cases hc : code = 0
  · subst hc
    have e1 : faB s 0 = false := by unfold faB; simp
    have e2 : faE 0 = 1 := rfl
    have e3 : faS s 0 pl = s := by unfold faS; simp
    rw [e1, e2, e3]
    clear h e1 e2 e3
    go_enter Try.func11, Try.ntmps11
    go_wp2
    go_ret2
    exact ⟨rfl, unhide HH, Kp.refl _ _⟩
  · have h2 := CBox.cell h (i := 2) (v := .bool (decide (¬ s.code = 0))) rfl
    have z2 := CBox.froz h 2
    have h3 := CBox.cell h (i := 3) (v := .int .i64 s.pl) rfl
    have z3 := CBox.froz h 3
    have h4 := CBox.cell h (i := 4) (v := .int .i64 s.code) rfl
    have z4 := CBox.froz h 4
    have e2 : faE code = 0 := if_neg hc
    by_cases hs : s.code = 0
    · have e1 : faB s code = true := by unfold faB; simp [hc, hs]
      have e3 : faS s code pl = { s with pl := pl, code := code } := if_pos ⟨hc, hs⟩
      have ST : Hid (Rr b { s with pl := pl, code := code } (((w.setCell ⟨b, 2, none⟩ (.bool true)).setCell ⟨b, 3, none⟩ (.int .i64 pl)).setCell ⟨b, 4, none⟩ (.int .i64 code))) := hide (by
        unfold Rr
        show CBox b (rrC (s.room - s.used) s.used (decide (¬ code = 0)) pl code) _ _
        rw [decide_eq_true hc]
        exact ((CBox.set h 2 _).set 3 _).set 4 _)
      rw [e1, e2, e3]
      rw [decide_eq_false (by simp [hs])] at h2
      clear h e1 e2 e3 hs
      generalize hu : { s with pl := pl, code := code } = s' at *
      clear hu
      go_enter Try.func11, Try.ntmps11
      go_wp2
      go_ret2
      exact ⟨rfl, unhide ST, ((Kp.set w b 2 _).trans (Kp.set _ b 3 _) (fun x hx => Or.inl hx)).trans (Kp.set _ b 4 _) (fun x hx => Or.inl hx)⟩
    · have e1 : faB s code = false := by unfold faB; simp [hs]
      have e3 : faS s code pl = s := if_neg (fun hh => hs hh.2)
      rw [e1, e2, e3]
      rw [decide_eq_true hs] at h2
      clear h e1 e2 e3 hs
      go_enter Try.func11, Try.ntmps11
      go_wp2
      go_ret2
      exact ⟨rfl, unhide HH, Kp.refl _ _⟩
theorem rrUse_any (b : Nat) (s : TS) (n pl : Int) (w : World) (h : Rr b s w) (a1 : 0 ≤ s.used) (a3 : s.room ≤ 9223372036854775807) : Calls Try.prog 13 #[.pointer (some ⟨b, 0, none⟩), .int .i64 n, .int .i64 pl] w fun e w' => e = .returned (.int .i64 (usE s n)) ∧ Rr b (usS s n pl) w' ∧ Kp [b] w w' := by
  have HH := hide h
  have h2 := CBox.cell h (i := 2) (v := .bool (decide (¬ s.code = 0))) rfl
  have h0 := CBox.cell h (i := 0) (v := .int .i64 (s.room - s.used)) rfl
  have z0 := CBox.froz h 0
  have h1 := CBox.cell h (i := 1) (v := .int .i64 s.used) rfl
  have z1 := CBox.froz h 1
  by_cases hs : s.code = 0
  · rw [decide_eq_false (by simp [hs])] at h2
    by_cases hn : n < 0
    · have e1 : usE s n = 1 := by unfold usE; simp [hs, hn]
      have e2 : usS s n pl = s := by unfold usS; simp [e1]
      rw [e1, e2]
      clear h e1 e2 hs
      go_enter Try.func13, Try.ntmps13
      go_wp2
      go_ret
      exact ⟨rfl, unhide HH, Kp.refl _ _⟩
    · by_cases hl : s.room - s.used < n
      · have e1 : usE s n = 32 := by unfold usE; simp [hs, hn, hl]
        have e2 : usS s n pl = faS s 32 pl := by unfold usS faS; simp [e1, hs]
        have FA := hide (rrFail_any b s 32 pl w h)
        rw [e1, e2]
        clear h e1 e2 hs
        generalize faS s 32 pl = s' at *
        generalize s.room - s.used = R at *
        go_enter Try.func13, Try.ntmps13
        go_wp2_with fail
        refine (unhide FA).mono ?_
        rintro e w1 ⟨rfl, hb, hk⟩
        have HH2 := hide (And.intro hb hk)
        clear hb hk FA
        go_wp2
        go_ret
        exact ⟨rfl, unhide HH2⟩
      · have e1 : usE s n = 0 := by unfold usE; simp [hs, hn, hl]
        have e2 : usS s n pl = { s with used := s.used + n } := by unfold usS; simp [e1]
        have ST : Hid (Rr b { s with used := s.used + n } ((w.setCell ⟨b, 0, none⟩ (.int .i64 (s.room - s.used - n))).setCell ⟨b, 1, none⟩ (.int .i64 (s.used + n)))) := hide (by
          unfold Rr
          show CBox b (rrC (s.room - (s.used + n)) (s.used + n) (decide (¬ s.code = 0)) s.pl s.code) _ _
          rw [show s.room - (s.used + n) = s.room - s.used - n by omega]
          exact (CBox.set h 0 _).set 1 _)
        rw [e1, e2]
        clear h e1 e2 hs
        generalize hu : { s with used := s.used + n } = s' at *
        clear hu
        generalize s.used = U at *
        generalize s.room = R at *
        go_enter Try.func13, Try.ntmps13
        go_wp2
        go_ret
        exact ⟨rfl, unhide ST, (Kp.set w b 0 _).trans (Kp.set _ b 1 _) (fun x hx => Or.inl hx)⟩
  · rw [decide_eq_true hs] at h2
    have e1 : usE s n = 90 := by unfold usE; simp [hs]
    have e2 : usS s n pl = s := by unfold usS; simp [e1]
    rw [e1, e2]
    clear h e1 e2 hs
    go_enter Try.func13, Try.ntmps13
    go_wp2
    go_ret
    exact ⟨rfl, unhide HH, Kp.refl _ _⟩
theorem rrBack_any (b : Nat) (s : TS) (n : Int) (w : World) (h : Rr b s w) (a2 : s.used ≤ s.room) (a3 : s.room ≤ 9223372036854775807) : Calls Try.prog 15 #[.pointer (some ⟨b, 0, none⟩), .int .i64 n] w fun e w' => e = .returned (.int .i64 (baE s n)) ∧ Rr b (baS s n) w' ∧ Kp [b] w w' := by
  have HH := hide h
  have h2 := CBox.cell h (i := 2) (v := .bool (decide (¬ s.code = 0))) rfl
  have h0 := CBox.cell h (i := 0) (v := .int .i64 (s.room - s.used)) rfl
  have z0 := CBox.froz h 0
  have h1 := CBox.cell h (i := 1) (v := .int .i64 s.used) rfl
  have z1 := CBox.froz h 1
  by_cases hs : s.code = 0
  · rw [decide_eq_false (by simp [hs])] at h2
    by_cases hn : n < 0
    · have e1 : baE s n = 1 := by unfold baE; simp [hs, hn]
      have e2 : baS s n = s := by unfold baS; simp [e1]
      rw [e1, e2]
      clear h e1 e2 hs
      go_enter Try.func15, Try.ntmps15
      go_wp2
      go_ret
      exact ⟨rfl, unhide HH, Kp.refl _ _⟩
    · by_cases hl : s.used < n
      · have e1 : baE s n = 1 := by unfold baE; simp [hs, hn, hl]
        have e2 : baS s n = s := by unfold baS; simp [e1]
        rw [e1, e2]
        clear h e1 e2 hs
        go_enter Try.func15, Try.ntmps15
        go_wp2
        go_ret
        exact ⟨rfl, unhide HH, Kp.refl _ _⟩
      · have e1 : baE s n = 0 := by unfold baE; simp [hs, hn, hl]
        have e2 : baS s n = { s with used := s.used - n } := by unfold baS; simp [e1]
        have ST : Hid (Rr b { s with used := s.used - n } ((w.setCell ⟨b, 0, none⟩ (.int .i64 (s.room - s.used + n))).setCell ⟨b, 1, none⟩ (.int .i64 (s.used - n)))) := hide (by
          unfold Rr
          show CBox b (rrC (s.room - (s.used - n)) (s.used - n) (decide (¬ s.code = 0)) s.pl s.code) _ _
          rw [show s.room - (s.used - n) = s.room - s.used + n by omega]
          exact (CBox.set h 0 _).set 1 _)
        rw [e1, e2]
        clear h e1 e2 hs
        generalize hu : { s with used := s.used - n } = s' at *
        clear hu
        generalize s.used = U at *
        generalize s.room = R at *
        go_enter Try.func15, Try.ntmps15
        go_wp2
        go_ret
        exact ⟨rfl, unhide ST, (Kp.set w b 0 _).trans (Kp.set _ b 1 _) (fun x hx => Or.inl hx)⟩
  · rw [decide_eq_true hs] at h2
    have e1 : baE s n = 90 := by unfold baE; simp [hs]
    have e2 : baS s n = s := by unfold baS; simp [e1]
    rw [e1, e2]
    clear h e1 e2 hs
    go_enter Try.func15, Try.ntmps15
    go_wp2
    go_ret
    exact ⟨rfl, unhide HH, Kp.refl _ _⟩
end Go.Proofs.Ytmcilconledabaa
