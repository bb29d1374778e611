/-
  The document's answer for events (May, Check, Items, Bytes, Encode) is the plain functions'.
-/
import Derived.Test.YtijckimjcogfjaaEvE
import Derived.Test.YtijckimjcogfjaaRefM
namespace Go.Proofs.Ytijckimjcogfjaa
open Go.RowKit

set_option maxHeartbeats 1000000 in
theorem refMayE_any (e : Ev) (w : World) (hok : e.ok) :
    Calls Try.prog 28 #[.agg e.c] w fun r w' => r = .returned (.bool e.may) ∧ w' = w.alloc (.cells e.c 24) := by
  obtain ⟨hk, ht, hx, _⟩ := hok
  obtain ⟨k, t, n0, n1, n2, n3, x⟩ := e
  unfold Ev.c Ev.may
  dsimp only at hk ht hx ⊢
  have nk := fun w => refNamed_any k w hk
  have nt := fun w => refNamed_any t w ht
  by_cases b1 : nameB k = true
  · by_cases b2 : nameB t = true
    · have e : mayE k t x = decide ((x.size : Int) ≤ 256) := by
        unfold mayE
        rw [b1, b2, Bool.true_and, Bool.true_and, decide_eq_decide]
        omega
      rw [e]
      simp only [b1] at nk
      simp only [b2] at nt
      have NK := hide nk
      have NT := hide nt
      clear nk nt b1 b2 e hk ht
      go_enter Try.func28, Try.ntmps28
      go_wp2_with fail
      refine (unhide NK _).mono ?_
      rintro e w1 ⟨rfl, rfl⟩
      go_wp2_with fail
      refine (unhide NT _).mono ?_
      rintro e w1 ⟨rfl, rfl⟩
      go_wp2
      go_ret
      exact ⟨rfl, rfl⟩
    · have b2' : nameB t = false := by simpa using b2
      have e : mayE k t x = false := by unfold mayE; simp [b2']
      rw [e]
      simp only [b1] at nk
      simp only [b2'] at nt
      have NK := hide nk
      have NT := hide nt
      clear nk nt b1 b2 b2' e hk ht
      go_enter Try.func28, Try.ntmps28
      go_wp2_with fail
      refine (unhide NK _).mono ?_
      rintro e w1 ⟨rfl, rfl⟩
      go_wp2_with fail
      refine (unhide NT _).mono ?_
      rintro e w1 ⟨rfl, rfl⟩
      go_wp2
      go_ret
      exact ⟨rfl, rfl⟩
  · have b1' : nameB k = false := by simpa using b1
    have e : mayE k t x = false := by unfold mayE; simp [b1']
    rw [e]
    simp only [b1'] at nk
    have NK := hide nk
    clear nk nt b1 b1' e hk ht
    go_enter Try.func28, Try.ntmps28
    go_wp2_with fail
    refine (unhide NK _).mono ?_
    rintro e w1 ⟨rfl, rfl⟩
    go_wp2
    go_ret
    exact ⟨rfl, rfl⟩
set_option maxHeartbeats 1000000 in
theorem refChk_any (e : Ev) (w : World) (hok : e.ok) :
    Calls Try.prog 13 #[.agg e.c] w fun r w' => r = .returned (.int .i64 e.chk) ∧ Below w.heap.size w w' := by
  have m := fun w => refMayE_any e w hok
  have hch : e.chk = if e.may = true then 0 else 20 := rfl
  rw [hch]
  generalize e.may = M at *
  have MM := hide m
  clear m hch hok
  obtain ⟨k, t, n0, n1, n2, n3, x⟩ := e
  unfold Ev.c at *
  dsimp only at *
  cases M
  all_goals
    go_enter Try.func13, Try.ntmps13
    go_wp2_with fail
    refine (unhide MM _).mono ?_
    rintro r w1 ⟨rfl, rfl⟩
    go_wp2
    go_ret
    exact ⟨rfl, ((Below.refl _ _).alloc (Nat.le_refl _) _).alloc (by simp) _⟩
set_option maxHeartbeats 4000000 in
set_option maxRecDepth 100000 in
theorem refItems_any (e : Ev) (w : World) :
    Calls Try.prog 53 #[.agg e.c] w fun r w' => ∃ v, r = .returned v ∧ OwnsI w.heap.size w' v e.l ∧ Below w.heap.size w w' := by
  have s0 : EncS w e (w.alloc (.cells e.c 24)) := ⟨(Below.refl _ _).alloc (Nat.le_refl _) _, heap_alloc_new w _⟩
  obtain ⟨k, t, n0, n1, n2, n3, x⟩ := e
  unfold Ev.c at *
  dsimp only at *
  have s1 := s0.alloc (.cells #[.bool true, .int .i64 0, .string k, .bool true, .int .i64 0, .string t] 50)
  have ow := OwnsI.built w.heap.size (w.alloc (.cells #[.string k, .string t, .int .i64 n0, .int .i64 n1, .int .i64 n2, .int .i64 n3, .string x] 24)) k t s0.bel.size
  have hsz : (w.alloc (.cells #[.string k, .string t, .int .i64 n0, .int .i64 n1, .int .i64 n2, .int .i64 n3, .string x] 24)).heap.size = w.heap.size + 1 := by simp
  rw [hsz] at ow
  have S1 := hide s1
  have OW := hide ow
  clear s0 s1 ow hsz
  go_enter Try.func53, Try.ntmps53
  go_wp2_with fail
  have s1 := unhide S1
  have ow := unhide OW
  clear S1 OW
  generalize (w.alloc (.cells #[.string k, .string t, .int .i64 n0, .int .i64 n1, .int .i64 n2, .int .i64 n3, .string x] 24)).alloc (.cells #[.bool true, .int .i64 0, .string k, .bool true, .int .i64 0, .string t] 50) = W1 at *
  go_loopw [3, 4] (fun v i wr => ∃ j : Nat, j ≤ 4 ∧ i = .int .i64 (j : Int) ∧ EncS w ⟨k, t, n0, n1, n2, n3, x⟩ wr ∧ OwnsI w.heap.size wr v ([tx k, tx t] ++ [nu n0, nu n1, nu n2, nu n3].take j)) (fun _ i _ => 4 - (intOf i).toNat)
  case atStart => exact ⟨0, by omega, rfl, s1, ow⟩
  case round =>
    clear s1 ow
    obtain ⟨j, hj, rfl, s4, ow⟩ := hrel
    have hz := s4.bel.size
    have f4 := s4.full.2
    dsimp only at f4
    rcases (by omega : j = 0 ∨ j = 1 ∨ j = 2 ∨ j = 3 ∨ j = 4) with rfl | rfl | rfl | rfl | rfl
    · have cc := cell3_new wr false n0 ⟨#[]⟩ 50
      have CC := hide cc
      clear cc
      go_wp2_with (at_builtin; refine wpList_item rfl _ _ rfl w.heap.size _ _ rfl (ow.alloc _) (nu n0) wr.heap.size rfl (unhide CC).1 (unhide CC).2.1 (unhide CC).2.2 (by simp) (by simp; omega) ?_)
      intro v5 w5 ow5 hf5
      have s5 := (s4.alloc _).fr hf5
      clear s4 ow hf5 CC f4
      go_wp2
      go_roundw
      case rel => exact ⟨1, by omega, by go_num, s5, by simpa using ow5⟩
      case measure => simp [intOf]
    · have cc := cell3_new wr false n1 ⟨#[]⟩ 50
      have CC := hide cc
      clear cc
      go_wp2_with (at_builtin; refine wpList_item rfl _ _ rfl w.heap.size _ _ rfl (ow.alloc _) (nu n1) wr.heap.size rfl (unhide CC).1 (unhide CC).2.1 (unhide CC).2.2 (by simp) (by simp; omega) ?_)
      intro v5 w5 ow5 hf5
      have s5 := (s4.alloc _).fr hf5
      clear s4 ow hf5 CC f4
      go_wp2
      go_roundw
      case rel => exact ⟨2, by omega, by go_num, s5, by simpa using ow5⟩
      case measure => simp [intOf]
    · have cc := cell3_new wr false n2 ⟨#[]⟩ 50
      have CC := hide cc
      clear cc
      go_wp2_with (at_builtin; refine wpList_item rfl _ _ rfl w.heap.size _ _ rfl (ow.alloc _) (nu n2) wr.heap.size rfl (unhide CC).1 (unhide CC).2.1 (unhide CC).2.2 (by simp) (by simp; omega) ?_)
      intro v5 w5 ow5 hf5
      have s5 := (s4.alloc _).fr hf5
      clear s4 ow hf5 CC f4
      go_wp2
      go_roundw
      case rel => exact ⟨3, by omega, by go_num, s5, by simpa using ow5⟩
      case measure => simp [intOf]
    · have cc := cell3_new wr false n3 ⟨#[]⟩ 50
      have CC := hide cc
      clear cc
      go_wp2_with (at_builtin; refine wpList_item rfl _ _ rfl w.heap.size _ _ rfl (ow.alloc _) (nu n3) wr.heap.size rfl (unhide CC).1 (unhide CC).2.1 (unhide CC).2.2 (by simp) (by simp; omega) ?_)
      intro v5 w5 ow5 hf5
      have s5 := (s4.alloc _).fr hf5
      clear s4 ow hf5 CC f4
      go_wp2
      go_roundw
      case rel => exact ⟨4, by omega, by go_num, s5, by simpa using ow5⟩
      case measure => simp [intOf]
    · have cc := cell3_new wr true 0 x 50
      have CC := hide cc
      clear cc
      go_wp2_with (at_builtin; refine wpList_item rfl _ _ rfl w.heap.size _ _ rfl (ow.alloc _) (tx x) wr.heap.size rfl (unhide CC).1 (unhide CC).2.1 (unhide CC).2.2 (by simp) (by simp; omega) ?_)
      intro v6 w6 ow6 hf6
      have s6 := (s4.alloc _).fr hf6
      clear s4 ow hf6 CC f4
      have ow7 : OwnsI w.heap.size w6 v6 (Ev.l ⟨k, t, n0, n1, n2, n3, x⟩) := by simpa [Ev.l] using ow6
      clear ow6
      go_wp2
      go_ret
      exact ⟨_, rfl, ow7, s6.bel⟩
set_option maxHeartbeats 1000000 in
set_option maxRecDepth 100000 in
theorem refEvBytes_any (e : Ev) (w : World) (hok : e.ok) (hm : e.may = true) :
    Calls Try.prog 29 #[.agg e.c] w fun r w' => r = .returned (.string e.s) ∧ Below w.heap.size w w' := by
  have it := fun w => refItems_any e w
  have by_ := fun ad cap w hA => refBytes_any ad cap e.l w (by unfold Ev.l; simp) hA (e.l_ok hok) (fun y hy => by
    obtain ⟨a, b, c⟩ := mayE_sizes hm
    unfold Ev.l at hy
    simp only [List.mem_cons, List.not_mem_nil, or_false] at hy
    have z : (⟨#[]⟩ : ByteArray).size ≤ 140737488351232 := by decide
    rcases hy with rfl | rfl | rfl | rfl | rfl | rfl | rfl
    · show e.k.size ≤ _; omega
    · show e.t.size ≤ _; omega
    · exact z
    · exact z
    · exact z
    · exact z
    · show e.x.size ≤ _; omega)
  have hl := e.l_len hm hok
  have hes : e.s = ⟨(listB e.l).toArray⟩ := if_pos hm
  rw [hes]
  have hln : e.l.length = 7 := rfl
  have hfull : ∀ k, k ≤ e.l.length → (k = e.l.length ∨ 262144 < (listB (e.l.take k)).length) → (⟨(listB (e.l.take k)).toArray⟩ : ByteArray) = ⟨(listB e.l).toArray⟩ := fun k hk h => by
    rcases h with h | h
    · rw [h, List.take_length]
    · have := listB_take_le e.l k
      omega
  have FU := hide hfull
  have IT := hide it
  have BY := hide by_
  clear it by_ hl hes hfull hok hm
  generalize e.l = L at *
  generalize (⟨(listB L).toArray⟩ : ByteArray) = Z at *
  obtain ⟨k, t, n0, n1, n2, n3, x⟩ := e
  unfold Ev.c at *
  dsimp only at *
  have hb0 : Below w.heap.size w (w.alloc (.cells #[.string k, .string t, .int .i64 n0, .int .i64 n1, .int .i64 n2, .int .i64 n3, .string x] 24)) := (Below.refl _ _).alloc (Nat.le_refl _) _
  go_enter Try.func29, Try.ntmps29
  go_wp2_with fail
  generalize w.alloc (.cells #[.string k, .string t, .int .i64 n0, .int .i64 n1, .int .i64 n2, .int .i64 n3, .string x] 24) = W0 at *
  refine (unhide IT W0).mono ?_
  rintro r w1 ⟨v1, rfl, ow, hb1⟩
  obtain ⟨a1, c1, rfl, hi1⟩ := ow.items
  have hb2 := hb0.trans (hb1.mono hb0.size)
  have b2 := unhide BY a1 c1 w1 hi1
  have B2 := hide b2
  clear b2 hi1 ow hb0 hb1
  rw [hln] at *
  go_wp2_with fail
  refine (unhide B2).mono ?_
  rintro r w2 ⟨q, hq, rfl, hor, hb3⟩
  have hb4 := hb2.trans (hb3.mono hb2.size)
  have eZ := unhide FU q hq hor
  rw [eZ]
  clear hb2 hb3 B2 hor eZ
  go_wp2
  go_ret
  exact ⟨rfl, hb4⟩
set_option maxHeartbeats 1000000 in
set_option maxRecDepth 100000 in
theorem refEvEncode_any (e : Ev) (w : World) (hok : e.ok) :
    Calls Try.prog 9 #[.agg e.c] w fun r w' => r = .returned (.tuple #[.string e.s, .int .i64 e.chk]) ∧ Below w.heap.size w w' := by
  have m := fun w => refMayE_any e w hok
  by_cases hm : e.may = true
  · have by_ := fun w => refEvBytes_any e w hok hm
    have hc : e.chk = 0 := if_pos hm
    rw [hm] at m
    rw [hc]
    have MM := hide m
    have BY := hide by_
    have s0 : EncS w e (w.alloc (.cells e.c 24)) := ⟨(Below.refl _ _).alloc (Nat.le_refl _) _, heap_alloc_new w _⟩
    clear m by_ hc hok hm
    generalize hS : e.s = S at *
    clear hS
    obtain ⟨k, t, n0, n1, n2, n3, x⟩ := e
    unfold Ev.c at *
    dsimp only at *
    go_enter Try.func9, Try.ntmps9
    go_wp2_with fail
    generalize w.alloc (.cells #[.string k, .string t, .int .i64 n0, .int .i64 n1, .int .i64 n2, .int .i64 n3, .string x] 24) = W0 at *
    refine (unhide MM W0).mono ?_
    rintro r w1 ⟨rfl, rfl⟩
    have s1 := s0.alloc (.cells #[.string k, .string t, .int .i64 n0, .int .i64 n1, .int .i64 n2, .int .i64 n3, .string x] 24)
    generalize W0.alloc (.cells #[.string k, .string t, .int .i64 n0, .int .i64 n1, .int .i64 n2, .int .i64 n3, .string x] 24) = W1 at *
    clear s0
    have f1 := s1.full.2
    dsimp only at f1
    go_wp2_with fail
    refine (unhide BY W1).mono ?_
    rintro r w2 ⟨rfl, hb2⟩
    have s2 := s1.next hb2
    clear f1 s1 hb2
    go_wp2
    go_ret2
    exact ⟨rfl, s2.bel⟩
  · have hc : e.chk = 20 := if_neg hm
    have hs : e.s = ⟨#[]⟩ := if_neg hm
    have hm' : e.may = false := by simpa using hm
    rw [hm'] at m
    rw [hc, hs]
    have MM := hide m
    clear m hc hs hm hm' hok
    obtain ⟨k, t, n0, n1, n2, n3, x⟩ := e
    unfold Ev.c at *
    dsimp only at *
    go_enter Try.func9, Try.ntmps9
    go_wp2_with fail
    refine (unhide MM _).mono ?_
    rintro r w1 ⟨rfl, rfl⟩
    go_wp2
    go_ret2
    exact ⟨rfl, ((Below.refl _ _).alloc (Nat.le_refl _) _).alloc (by simp) _⟩
end Go.Proofs.Ytijckimjcogfjaa
