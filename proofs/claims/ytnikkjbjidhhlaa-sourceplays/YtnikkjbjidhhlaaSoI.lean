/-
  A source: Read, Below.
-/
import Derived.Test.YtnikkjbjidhhlaaSoH
namespace Go.Proofs.Ytnikkjbjidhhlaa
open Go.RowKit

/-- A row of events that the call made. -/
def EvNew (w w' : World) (v : Value) (l : List Ev) : Prop := EvRow w' v l ∧ ∀ k, v.ownBlock = some k → w.heap.size ≤ k
theorem EvNew.nil (w w' : World) : EvNew w w' (.slice none 0 0) [] := ⟨EvRow.nil w', fun k hk => by simp [Value.ownBlock] at hk⟩
theorem EvNew.box {w w' : World} {b : Nat} {l : List Ev} (h : CBox b (evC l).toArray 45 w') (hb : w.heap.size ≤ b) (hl : l.length ≤ 4096) : EvNew w w' (.slice (some ⟨b, 0, none⟩) l.length l.length) l := by
  have hz := evC_length l
  refine ⟨⟨?_, Or.inr ⟨b, l.length, _, rfl, Nat.zero_le _, h, Nat.le_refl _, by unfold maxLen; omega, ?_, ?_⟩⟩, fun k hk => ?_⟩
  · rw [hz]
  · rw [List.size_toArray, hz]
  · rw [← hz]; simp
  · have e : b = k := by simpa [Value.ownBlock] using hk
    omega
theorem EvNew.pre {w w1 w' : World} {v : Value} {l : List Ev} (h : EvNew w1 w' v l) (hk : Kp [] w w1) : EvNew w w' v l := ⟨h.1, fun k hk1 => Nat.le_trans hk.size (h.2 k hk1)⟩
/-- The plain Read. -/
def rdE (ps : List (List Ev)) (i f c : Int) : Int := if 0 ≤ i ∧ i < (ps.length : Int) then (if 0 ≤ f ∧ f ≤ ((ps[i.toNat]?.getD []).length : Int) then (if 0 ≤ c then 0 else 1) else 50) else 1
def rdL (ps : List (List Ev)) (i f c : Int) : List Ev := if rdE ps i f c = 0 then ((ps[i.toNat]?.getD []).drop f.toNat).take c.toNat else []
def inW (n : Int) : Prop := -9223372036854775808 ≤ n ∧ n ≤ 9223372036854775807
set_option maxHeartbeats 2000000 in
set_option maxRecDepth 100000 in
theorem read_any (g q : Nat) (vs : List Value) (ps : List (List Ev)) (i f c : Int) (w : World) (h : SrcV w g q vs ps) (hi : inW i) (hf : inW f) :
    Calls Try.prog 18 #[.pointer (some ⟨g, 0, none⟩), .int .i64 i, .int .i64 f, .int .i64 c] w fun r w' => ∃ v, r = .returned (.tuple #[v, .int .i64 (rdE ps i f c)]) ∧ EvNew w w' v (rdL ps i f c) ∧ Kp [] w w' := by
  have c0 := h.cells
  have h2 := h.few
  by_cases h3 : 0 ≤ i
  · by_cases h4 : i < (ps.length : Int)
    · obtain ⟨j, rfl⟩ : ∃ j : Nat, i = (j : Int) := ⟨i.toNat, by omega⟩
      have hj : j < ps.length := by omega
      have IO := hide (isOffset_any g q vs ps j hj f w h)
      have hpj : (ps[((j : Nat) : Int).toNat]?.getD []) = ps[j] := by rw [Int.toNat_natCast, List.getElem?_eq_getElem hj]; rfl
      have hL : ps[j].length ≤ 4096 := h.lim _ (List.getElem_mem _)
      by_cases h5 : 0 ≤ f ∧ f ≤ (ps[j].length : Int)
      · have ho : offB ps[j].length f = true := by unfold offB; simp [h5]
        rw [ho] at IO
        by_cases h6 : 0 ≤ c
        · have hE : rdE ps (j : Int) f c = 0 := by unfold rdE; rw [hpj, if_pos ⟨h3, h4⟩, if_pos h5, if_pos h6]
          have hLL : rdL ps (j : Int) f c = (ps[j].drop f.toNat).take c.toNat := by unfold rdL; rw [if_pos hE, hpj]
          rw [hE, hLL]
          have EN := hide (end_any g q vs ps j hj w h)
          obtain ⟨ad, cap, c1, hv, hr⟩ := h.at j hj
          have hsm := h.sm _ (List.getElem_mem hj)
          obtain ⟨n, rfl⟩ : ∃ n : Nat, f = (n : Int) := ⟨f.toNat, by omega⟩
          rw [Int.toNat_natCast]
          have hn : n ≤ ps[j].length := by omega
          obtain ⟨m, hm, hmin⟩ : ∃ m : Nat, n + m ≤ ps[j].length ∧ (m : Int) = min c ((ps[j].length : Int) - (n : Int)) := ⟨(min c ((ps[j].length : Int) - (n : Int))).toNat, by omega, by omega⟩
          have htk : (ps[j].drop n).take c.toNat = (ps[j].drop n).take m := by
            by_cases hcm : c.toNat ≤ ps[j].length - n
            · rw [show c.toNat = m by omega]
            · rw [List.take_of_length_le (by rw [List.length_drop]; omega), List.take_of_length_le (by rw [List.length_drop]; omega)]
          rw [htk]
          obtain ⟨adx, capx, ex, hlc, hcm, hxx⟩ := hr.form
          injection ex with ex1 ex2 ex3
          subst ex3
          clear hxx ex1 ex2
          have hes : ∀ ad', (cap = n ∨ ad' = ad.map (·.add (n * 7))) → EvsAt w ad' ((ps[j].drop n).take m) := fun ad' hor => by
            rcases hor with hor | rfl
            · intro hl
              have : ps[j].drop n = [] := List.drop_of_length_le (by omega)
              rw [this] at hl
              simp at hl
            · exact hr.evs.sub n m hm
          have hlen : ((ps[j].drop n).take m).length ≤ 4096 := by rw [List.length_take, List.length_drop]; omega
          have hlm : ((ps[j].drop n).take m).length = m := by rw [List.length_take, List.length_drop]; omega
          have HC : Hid (∀ ad' cap' s, s = m → (cap = n ∨ ad' = ad.map (·.add (n * 7))) → Calls Try.prog 45 #[.slice ad' s cap'] w fun r w' => r = .returned (.slice (some ⟨w.heap.size, 0, none⟩) m m) ∧ EvNew w w' (.slice (some ⟨w.heap.size, 0, none⟩) m m) ((ps[j].drop n).take m) ∧ Kp [] w w') := hide (fun ad' cap' s hs hor => by
            subst hs
            have := clonesOf_any ad' cap' ((ps[j].drop n).take s) w hlen (hes ad' hor) (fun e he => hsm e (List.mem_of_mem_drop (List.mem_of_mem_take he)))
            rw [hlm] at this
            refine this.mono fun r w' hh => ⟨hh.1, ?_, hh.2.2⟩
            have := EvNew.box hh.2.1 (Nat.le_refl _) hlen
            rw [hlm] at this
            exact this)
          clear htk hes hr hv h hpj ho hE hLL hsm hlen hlm
          generalize (ps[j].drop n).take m = L at *
          generalize ps[j].length = N at *
          have hji : (j : Int) < (ps.length : Int) := by omega
          clear hj
          generalize ps.length = P at *
          go_enter Try.func18, Try.ntmps18
          go_wp2_with fail
          refine (unhide IO).mono ?_
          rintro r w1 ⟨rfl, rfl⟩
          go_wp2_with fail
          refine (unhide EN).mono ?_
          rintro r w2 ⟨rfl, rfl⟩
          go_wp2_with fail
          all_goals
            refine (unhide HC _ _ _ (by omega) (by first | exact Or.inr rfl | exact Or.inl (by omega))).mono ?_
            rintro r w3 ⟨rfl, hN, hK⟩
            have HNN := hide hN
            have HKK := hide hK
            clear hN hK HC
            go_wp2
            go_ret2
            exact ⟨_, rfl, unhide HNN, unhide HKK⟩
        · have hE : rdE ps (j : Int) f c = 1 := by unfold rdE; rw [hpj, if_pos ⟨h3, h4⟩, if_pos h5, if_neg h6]
          have hLL : rdL ps (j : Int) f c = [] := by unfold rdL; rw [hE]; rfl
          rw [hE, hLL]
          have hnn := EvNew.nil w w
          have HNN := hide hnn
          clear hpj ho hE hLL hL h5 h hnn hj
          generalize ps.length = P at *
          go_enter Try.func18, Try.ntmps18
          go_wp2_with fail
          refine (unhide IO).mono ?_
          rintro r w1 ⟨rfl, rfl⟩
          go_wp2
          go_ret2
          exact ⟨_, rfl, unhide HNN, Kp.refl _ _⟩
      · have ho : offB ps[j].length f = false := by unfold offB; rw [Bool.eq_false_iff]; intro hh; rw [Bool.and_eq_true, decide_eq_true_eq, decide_eq_true_eq] at hh; exact h5 hh
        rw [ho] at IO
        have hE : rdE ps (j : Int) f c = 50 := by unfold rdE; rw [hpj, if_pos ⟨h3, h4⟩, if_neg h5]
        have hLL : rdL ps (j : Int) f c = [] := by unfold rdL; rw [hE]; rfl
        rw [hE, hLL]
        have HNN := hide (EvNew.nil w w)
        clear hpj ho hE hLL hL h5 h hj
        generalize ps.length = P at *
        go_enter Try.func18, Try.ntmps18
        go_wp2_with fail
        refine (unhide IO).mono ?_
        rintro r w1 ⟨rfl, rfl⟩
        go_wp2
        go_ret2
        exact ⟨_, rfl, unhide HNN, Kp.refl _ _⟩
    · have hE : rdE ps i f c = 1 := by unfold rdE; rw [if_neg (fun hh => h4 hh.2)]
      have hLL : rdL ps i f c = [] := by unfold rdL; rw [hE]; rfl
      rw [hE, hLL]
      have HNN := hide (EvNew.nil w w)
      clear hE hLL h
      generalize ps.length = P at *
      go_enter Try.func18, Try.ntmps18
      go_wp2
      go_ret2
      exact ⟨_, rfl, unhide HNN, Kp.refl _ _⟩
  · have hE : rdE ps i f c = 1 := by unfold rdE; rw [if_neg (fun hh => h3 hh.1)]
    have hLL : rdL ps i f c = [] := by unfold rdL; rw [hE]; rfl
    rw [hE, hLL]
    have HNN := hide (EvNew.nil w w)
    clear hE hLL h
    generalize ps.length = P at *
    go_enter Try.func18, Try.ntmps18
    go_wp2
    go_ret2
    exact ⟨_, rfl, unhide HNN, Kp.refl _ _⟩
end Go.Proofs.Ytnikkjbjidhhlaa
