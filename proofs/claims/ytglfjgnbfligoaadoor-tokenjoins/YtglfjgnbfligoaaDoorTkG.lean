/-
  write: a token as it is written, and whether it can come out.
-/
import Derived.Test.YtglfjgnbfligoaaDoorTkF
import Derived.Deep.QuietTactic
import Derived.BigQuiet
namespace Go.Proofs.YtglfjgnbfligoaaDoor
open Go.RowKit

theorem bel_drewN {B : Nat} {w w' : World} (h : Below B w w') (n : Nat) : Below B w (w'.drewN n) := ⟨h.os, h.tape, h.output, h.size, h.block⟩
theorem spell_len (t : Tk) (hs : t.s.size ≤ 256) (h0 : -9223372036854775808 ≤ t.n) (h1 : t.n ≤ 9223372036854775807) : (spell t).length ≤ 258 := by
  unfold spell
  split
  · have := Lib.itoa_length_le t.n h0 h1; omega
  · split
    · simp only [List.length_cons, List.length_append, size_list, List.length_nil]; omega
    · rw [size_list]; omega
theorem wrOk_big (t : Tk) (h : 256 < t.s.size) : wrOk t = false := by unfold wrOk; rw [decide_eq_false (by omega)]; rfl
theorem wrOk_none (t : Tk) (h : tkR (spell t) = none) : wrOk t = false := by unfold wrOk; rw [h]; simp
theorem wrOk_some (t u : Tk) (m : Nat) (hs : t.s.size ≤ 256) (h : tkR (spell t) = some (u, m)) : wrOk t = tkEq u (t.out 0) := by unfold wrOk; rw [h, decide_eq_true hs]; simp
set_option maxHeartbeats 2000000 in
set_option maxRecDepth 100000 in
theorem write_any (t : Tk) (w : World) (hT : TbW w) (hs : t.s.size ≤ 9223372036854775807) (h0 : -9223372036854775808 ≤ t.n) (h1 : t.n ≤ 9223372036854775807) :
    Calls Tryd.prog 23 #[t.v] w fun e w' => ∃ b, e = .returned (.tuple #[.string b, .bool (wrOk t)]) ∧ (wrOk t = true → b = txt (spell t)) ∧ Below w.heap.size w w' := by
  by_cases hbig : 256 < t.s.size
  · rw [wrOk_big t hbig]
    obtain ⟨k, s, n, p⟩ := t
    dsimp only at hs hbig
    unfold Tk.v
    dsimp only
    go_enter Tryd.func23, Tryd.ntmps23
    go_wp2
    go_ret2
    exact ⟨⟨_, rfl⟩, (Below.refl _ _).alloc (Nat.le_refl _) _⟩
  · have hsl := spell_len t (by omega) h0 h1
    have SP := fun W hW => spell_any t W hW (by omega) h0 h1
    have RD := fun W hW => read_any (txt (spell t)) W hW (by rw [txt_size]; omega)
    rw [txt_list] at RD
    have HW1 := hide (wrOk_none t)
    have HW2 := hide (fun u m => wrOk_some t u m (by omega))
    generalize wrOk t = OK at *
    generalize hS : txt (spell t) = S at *
    clear hS
    have HSP := hide SP
    clear SP hsl
    cases hQ : tkR (spell t) with
    | none =>
      have e := unhide HW1 hQ
      subst e
      rw [hQ] at RD
      have HRD : Hid (∀ W, TbW W → Calls Tryd.prog 17 #[.string S] W fun e w' => e = .returned (.tuple #[.agg #[.int .i64 0, .string ⟨#[]⟩, .int .i64 0, .int .i64 0], .int .i64 0]) ∧ Below W.heap.size W w') := hide RD
      clear RD HW1 HW2 hQ
      obtain ⟨k, s, n, p⟩ := t
      unfold Tk.v at *
      dsimp only at *
      go_enter Tryd.func23, Tryd.ntmps23
      go_wp2_with fail
      refine (unhide HSP _ (hT.alloc _)).mono ?_
      rintro e w1 ⟨rfl, hb1⟩
      have hT1 : TbW w1 := (hT.alloc _).below hb1 (by have := hT.low; simp; omega)
      have q1 : CBox w.heap.size #[.int .i64 k, .string s, .int .i64 n, .int .i64 p] 35 w1 := by unfold CBox; rw [hb1.block _ (by simp)]; exact heap_alloc_new w _
      have hB1 : Below w.heap.size w w1 := ((Below.refl _ _).alloc (Nat.le_refl _) _).trans (hb1.mono (by simp))
      have hl1 : w.heap.size < w1.heap.size := by have := hb1.size; simp at this; omega
      clear hb1
      go_wp2_with fail
      refine (unhide HRD _ hT1).mono ?_
      rintro e w2 ⟨rfl, hb2⟩
      have hB2 : Below w.heap.size w w2 := hB1.trans (hb2.mono (by omega))
      have q2 : CBox w.heap.size #[.int .i64 k, .string s, .int .i64 n, .int .i64 p] 35 w2 := by unfold CBox; rw [hb2.block _ hl1]; exact q1
      have hl2 : w.heap.size < w2.heap.size := by have := hb2.size; omega
      have c3 := CBox.cell (i := 3) (v := .int .i64 p) q2 rfl
      have f3 := CBox.froz q2 3
      have HB2 := hide hB2
      clear hB2 hB1 q1 hb2 q2
      go_wp2_with fail
      go_quiet (fail)
      go_wp2
      go_ret2
      exact ⟨_, rfl, fun h => absurd h (by simp), bel_drewN (((unhide HB2).setCell (p := ⟨w.heap.size, 3, none⟩) (Nat.le_refl _) _).alloc (by simp; omega) _) _⟩
    | some q =>
      obtain ⟨u, m⟩ := q
      have e := unhide HW2 u m hQ
      have hm := (tkR_some hQ).1
      rw [hQ] at RD
      have EQ : ∀ W, (Op.equalIn 10000 35 u.v (t.out 0).v).run Tryd.prog W = .ok OK W := fun W => by rw [e]; exact eqT 9998 u (t.out 0) W
      clear e HW1 HW2 hQ
      obtain ⟨k, s, n, p⟩ := t
      obtain ⟨uk, us, un, up⟩ := u
      have HRD : Hid (∀ W, TbW W → Calls Tryd.prog 17 #[.string S] W fun e w' => e = .returned (.tuple #[.agg #[.int .i64 uk, .string us, .int .i64 un, .int .i64 up], .int .i64 (m : Int)]) ∧ Below W.heap.size W w') := hide RD
      have EQ2 : ∀ W, (Op.equalIn 10000 35 (.agg #[.int .i64 uk, .string us, .int .i64 un, .int .i64 up]) (.agg #[.int .i64 k, .string s, .int .i64 n, .int .i64 0])).run Tryd.prog W = .ok OK W := EQ
      clear RD EQ
      unfold Tk.v at *
      dsimp only at *
      have HEQ := hide EQ2
      clear EQ2
      go_enter Tryd.func23, Tryd.ntmps23
      go_wp2_with fail
      refine (unhide HSP _ (hT.alloc _)).mono ?_
      rintro e w1 ⟨rfl, hb1⟩
      have hT1 : TbW w1 := (hT.alloc _).below hb1 (by have := hT.low; simp; omega)
      have q1 : CBox w.heap.size #[.int .i64 k, .string s, .int .i64 n, .int .i64 p] 35 w1 := by unfold CBox; rw [hb1.block _ (by simp)]; exact heap_alloc_new w _
      have hB1 : Below w.heap.size w w1 := ((Below.refl _ _).alloc (Nat.le_refl _) _).trans (hb1.mono (by simp))
      have hl1 : w.heap.size < w1.heap.size := by have := hb1.size; simp at this; omega
      clear hb1
      go_wp2_with fail
      refine (unhide HRD _ hT1).mono ?_
      rintro e w2 ⟨rfl, hb2⟩
      have hB2 : Below w.heap.size w w2 := hB1.trans (hb2.mono (by omega))
      have q2 : CBox w.heap.size #[.int .i64 k, .string s, .int .i64 n, .int .i64 p] 35 w2 := by unfold CBox; rw [hb2.block _ hl1]; exact q1
      have hl2 : w.heap.size < w2.heap.size := by have := hb2.size; omega
      have c3 := CBox.cell (i := 3) (v := .int .i64 p) q2 rfl
      have f3 := CBox.froz q2 3
      have HB2 := hide hB2
      have Q2 := hide q2
      clear hB2 hB1 q1 hb2 q2
      go_wp2_with fail
      have q3 : CBox w.heap.size #[.int .i64 k, .string s, .int .i64 n, .int .i64 0] 35 ((w2.setCell ⟨w.heap.size, 3, none⟩ (.int .i64 0)).alloc (.cells #[.int .i64 uk, .string us, .int .i64 un, .int .i64 up] 35)) := CBox.kp ((unhide Q2).set 3 (.int .i64 0)) (Kp.alloc _ _) (by simp)
      have q4 : CBox w2.heap.size #[.int .i64 uk, .string us, .int .i64 un, .int .i64 up] 35 ((w2.setCell ⟨w.heap.size, 3, none⟩ (.int .i64 0)).alloc (.cells #[.int .i64 uk, .string us, .int .i64 un, .int .i64 up] 35)) := by
        have := CBox.new (w2.setCell ⟨w.heap.size, 3, none⟩ (.int .i64 0)) #[.int .i64 uk, .string us, .int .i64 un, .int .i64 up] 35
        simpa using this
      have HBF : Hid (Below w.heap.size w ((w2.setCell ⟨w.heap.size, 3, none⟩ (.int .i64 0)).alloc (.cells #[.int .i64 uk, .string us, .int .i64 un, .int .i64 up] 35))) := hide (((unhide HB2).setCell (Nat.le_refl _) _).alloc (by simp; omega) _)
      generalize (w2.setCell ⟨w.heap.size, 3, none⟩ (.int .i64 0)).alloc (.cells #[.int .i64 uk, .string us, .int .i64 un, .int .i64 up] 35) = W at *
      have a0 := CBox.cell (i := 0) (v := .int .i64 k) q3 rfl
      have a1 := CBox.cell (i := 1) (v := .string s) q3 rfl
      have a2 := CBox.cell (i := 2) (v := .int .i64 n) q3 rfl
      have a3 := CBox.cell (i := 3) (v := .int .i64 0) q3 rfl
      have b0 := CBox.cell (i := 0) (v := .int .i64 uk) q4 rfl
      have b1 := CBox.cell (i := 1) (v := .string us) q4 rfl
      have b2 := CBox.cell (i := 2) (v := .int .i64 un) q4 rfl
      have b3 := CBox.cell (i := 3) (v := .int .i64 up) q4 rfl
      clear q3 q4 c3 f3 Q2 HB2
      have EQ := unhide HEQ
      go_quiet (fail)
      go_wp2
      go_ret2
      exact ⟨_, rfl, fun _ => rfl, bel_drewN (unhide HBF) _⟩
end Go.Proofs.YtglfjgnbfligoaaDoor
