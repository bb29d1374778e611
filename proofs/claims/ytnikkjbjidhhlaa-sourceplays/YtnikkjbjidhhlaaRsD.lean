/-
  The document's source: Read, whole.
-/
import Derived.Test.YtnikkjbjidhhlaaRsC
namespace Go.Proofs.Ytnikkjbjidhhlaa
open Go.RowKit

set_option maxHeartbeats 2000000 in
set_option maxRecDepth 100000 in
theorem refRead_any (g q : Nat) (vs : List Value) (ps : List (List Ev)) (i f c : Int) (w : World) (h : RsV w g q vs ps) :
    Calls Try.prog 19 #[.pointer (some ⟨g, 0, none⟩), .int .i64 i, .int .i64 f, .int .i64 c] w fun r w' => ∃ v, r = .returned (.tuple #[v, .int .i64 (rdE ps i f c)]) ∧ EvNew w w' v (rdL ps i f c) ∧ Kp [] w w' := by
  have c0 := h.cells
  have h2 := h.few
  have HNN := hide (EvNew.nil w w)
  by_cases h3 : 0 ≤ i ∧ i < (ps.length : Int)
  · obtain ⟨j, rfl⟩ : ∃ j : Nat, i = (j : Int) := ⟨i.toNat, by omega⟩
    have hj : j < ps.length := by omega
    have hpj : (ps[((j : Nat) : Int).toNat]?.getD []) = ps[j] := by rw [Int.toNat_natCast, List.getElem?_eq_getElem hj]; rfl
    have hL : ps[j].length ≤ 4096 := h.lim _ (List.getElem_mem _)
    by_cases h5 : 0 ≤ f ∧ f ≤ (ps[j].length : Int)
    · obtain ⟨n, rfl⟩ : ∃ n : Nat, f = (n : Int) := ⟨f.toNat, by omega⟩
      by_cases h6 : 0 ≤ c
      · have hE : rdE ps (j : Int) (n : Int) c = 0 := by unfold rdE; rw [hpj, if_pos h3, if_pos h5, if_pos h6]
        have hLL : rdL ps (j : Int) (n : Int) c = (ps[j].drop n).take c.toNat := by unfold rdL; rw [if_pos hE, hpj, Int.toNat_natCast]
        rw [hE, hLL]
        exact refRead_ok g q vs ps j n c w h hj (by omega) h6
      · have hE : rdE ps (j : Int) (n : Int) c = 1 := by unfold rdE; rw [hpj, if_pos h3, if_pos h5, if_neg h6]
        have hLL : rdL ps (j : Int) (n : Int) c = [] := by unfold rdL; rw [hE]; rfl
        rw [hE, hLL]
        obtain ⟨ad, cap, c1, hx1, hx2⟩ := h.at j hj
        have hj1 := h3.2
        have hn1 := h5.2
        clear hpj hE hLL h hx1 hx2 h3 h5
        generalize ps[j].length = N at *
        clear hj
        generalize ps.length = P at *
        have hn2 : ¬ N < n := by omega
        go_enter Try.func19, Try.ntmps19
        go_wp2
        go_ret2
        exact ⟨_, rfl, unhide HNN, Kp.refl _ _⟩
    · have hE : rdE ps (j : Int) f c = 50 := by unfold rdE; rw [hpj, if_pos h3, if_neg h5]
      have hLL : rdL ps (j : Int) f c = [] := by unfold rdL; rw [hE]; rfl
      rw [hE, hLL]
      obtain ⟨ad, cap, c1, hx1, hx2⟩ := h.at j hj
      have hj1 := h3.2
      clear hpj hE hLL h hx1 hx2 h3
      generalize ps[j].length = N at *
      clear hj
      generalize ps.length = P at *
      by_cases hf0 : f < 0
      · go_enter Try.func19, Try.ntmps19
        go_wp2
        go_ret2
        exact ⟨_, rfl, unhide HNN, Kp.refl _ _⟩
      · have hf1 : (N : Int) < f := by omega
        clear h5
        go_enter Try.func19, Try.ntmps19
        go_wp2
        go_ret2
        exact ⟨_, rfl, unhide HNN, Kp.refl _ _⟩
  · have hE : rdE ps i f c = 1 := by unfold rdE; rw [if_neg h3]
    have hLL : rdL ps i f c = [] := by unfold rdL; rw [hE]; rfl
    rw [hE, hLL]
    clear hE hLL h
    generalize ps.length = P at *
    by_cases hi0 : i < 0
    · go_enter Try.func19, Try.ntmps19
      go_wp2
      go_ret2
      exact ⟨_, rfl, unhide HNN, Kp.refl _ _⟩
    · have hi1 : (P : Int) ≤ i := by omega
      clear h3
      go_enter Try.func19, Try.ntmps19
      go_wp2
      go_ret2
      exact ⟨_, rfl, unhide HNN, Kp.refl _ _⟩
end Go.Proofs.Ytnikkjbjidhhlaa
