/-
  Rows of events: two that are the same (SameEvents); one put at another's end.
-/
import Derived.Test.YtnikkjbjidhhlaaSoI
import Derived.Test.YtnikkjbjidhhlaaEq4
import Derived.Laws.AppendOwnNone
import Derived.Deep.AppendLies
namespace Go.Proofs.Ytnikkjbjidhhlaa
open Go.RowKit

theorem evC_one' (l : List Ev) : ∀ u ∈ evC l, u.oneCell' = true := fun u hu => by
  obtain ⟨e, _, h⟩ := List.mem_flatMap.1 hu
  exact ev_one e u h
theorem EvRow.shape {w : World} {v : Value} {l : List Ev} (h : EvRow w v l) : (v = .slice none 0 0 ∧ l = []) ∨ ∃ g cap, v = .slice (some ⟨g, 0, none⟩) l.length cap ∧ l.length ≤ cap ∧ cap ≤ 9223372036854775807 := by
  obtain ⟨_, ⟨rfl, h0⟩ | ⟨g, cap, cur, rfl, _, _, hn, hm, _⟩⟩ := h
  · exact Or.inl ⟨rfl, List.eq_nil_of_length_eq_zero h0⟩
  · exact Or.inr ⟨g, cap, rfl, hn, by unfold maxLen at hm; omega⟩
/-- A row of events put at the end of another one that is the call's own. -/
theorem appEvs {w : World} {hv ov : Value} {A l : List Ev} (h : EvRow w hv l) (ho : EvRow w ov A) (hov : ov ≠ .slice none 0 0) (hl : A.length + l.length ≤ 1000000) (ty : TypeId) :
    ∃ v' w', (Builtin.append_ #[51, 51] ty #[ov, hv]).run Try.prog w = .ok v' w' ∧ EvRow w' v' (A ++ l) ∧ w.grownBy w' ov.ownBlock ∧ (v'.ownBlock = ov.ownBlock ∨ v'.ownBlock = some w.heap.size) ∧ ∃ g cap, v' = .slice (some ⟨g, 0, none⟩) (A ++ l).length cap := by
  obtain ⟨i0, hi, hz0, hz1, hz2⟩ := info_parts info_event
  obtain ⟨e, _⟩ | ⟨g2, cap2, rfl, hc2, hm2⟩ := ho.shape
  · exact absurd e hov
  obtain ⟨rfl, rfl⟩ | ⟨g, cap, rfl, hc, hm⟩ := h.shape
  · refine ⟨_, w, run_append_owned_none (P := Try.prog) (w := w) 0 _ ty 45 i0 7 Try.underlying51 hi _ _ _ ho, by simpa using ho, World.grownBy.refl _ _, Or.inl rfl, g2, cap2, by simp⟩
  · by_cases h0 : l = []
    · subst h0
      refine ⟨.slice (some ⟨g2, 0, none⟩) A.length cap2, w, ?_, by simpa using ho, World.grownBy.refl _ _, Or.inl rfl, g2, cap2, by simp⟩
      have := run_append_room_cells (P := Try.prog) (w := w) 51 ty 45 i0 Try.underlying51 hi g2 0 A.length cap2 ⟨g, 0, none⟩ 0 cap [] (by simp) (fun j u hj => by simp at hj) (fun u hu => by cases hu) (by omega) (fun j hj => absurd hj (by simp)) (fun j hj => absurd hj (by simp))
      simpa [World.setCells] using this
    · have hpos : 0 < l.length := List.length_pos_iff.2 h0
      obtain ⟨g3, cap3, w', hr, h1, h2, h3, _⟩ := run_append_lies (P := Try.prog) (w := w) 51 ty 0 45 i0 (.agg #[.string ⟨#[]⟩, .string ⟨#[]⟩, .int .i64 0, .int .i64 0, .int .i64 0, .int .i64 0, .string ⟨#[]⟩]) 7 80 Try.underlying51 hi hz0 hz1 hz2 rfl (by decide) _ _ _ ho ⟨g, 0, none⟩ l.length cap (evC l) (evC_length l) (fun j u hj => World.ownsRow.cells h (g := g) rfl j u hj) (evC_one' l) hpos (by unfold maxLen; omega) (by omega) (Nat.zero_le _) _ rfl
      refine ⟨_, w', hr, ?_, h2, ?_, g3, cap3, by rw [List.length_append]⟩
      · unfold EvRow
        rw [List.length_append, evC_append]
        exact h1
      · rcases h3 with h3 | h3
        · exact Or.inl h3.symm
        · exact Or.inr (by rw [h3]; rfl)
theorem EvRow.empty (w : World) : EvRow (w.alloc (.cells #[] 45)) (.slice (some ⟨w.heap.size, 0, none⟩) 0 0) [] :=
  ⟨rfl, Or.inr ⟨w.heap.size, 0, #[], rfl, Nat.zero_le _, CBox.new w _ _, Nat.le_refl _, by unfold maxLen; omega, rfl, rfl⟩⟩
set_option maxHeartbeats 2000000 in
set_option maxRecDepth 100000 in
theorem sameEvs_any (a1 a2 : Option Addr) (c1 c2 : Nat) (l : List Ev) (w : World) (hl : l.length ≤ 1000000) (h1 : EvsAt w a1 l) (h2 : EvsAt w a2 l) :
    Calls Try.prog 20 #[.slice a1 l.length c1, .slice a2 l.length c2] w fun e w' => e = .returned (.bool true) ∧ Kp [] w w' := by
  have H1 := hide h1
  have H2 := hide h2
  clear h1 h2
  go_enter Try.func20, Try.ntmps20
  go_wp2
  go_loopw [5] (fun i wr => ∃ k : Nat, k ≤ l.length ∧ i = .int .i64 (k : Int) ∧ Kp [] w wr) (fun i _ => l.length - (intOf i).toNat)
  case atStart => exact ⟨0, Nat.zero_le _, rfl, Kp.refl _ _⟩
  case round =>
    obtain ⟨k, hk, rfl, kp⟩ := hrel
    by_cases hlt : k < l.length
    · have kp2 := kp.trans (Kp.drew wr) (by simp)
      obtain ⟨b1, o1, rfl, x0, x1, x2, x3, x4, x5, x6⟩ := ((unhide H1).kp kp2 (by simp)).seven k hlt
      obtain ⟨b2, o2, rfl, y0, y1, y2, y3, y4, y5, y6⟩ := ((unhide H2).kp kp2 (by simp)).seven k hlt
      have hli : (k : Int) < (l.length : Int) := by omega
      have KP := hide kp2
      clear H1 H2 kp kp2
      generalize l[k] = e at *
      obtain ⟨ek, et, n0, n1, n2, n3, ex⟩ := e
      dsimp only at x0 x1 x2 x3 x4 x5 x6 y0 y1 y2 y3 y4 y5 y6
      have h4 := fun d W => eq4 d n0 n1 n2 n3 n0 n1 n2 n3 W
      simp only [BEq.rfl, Bool.and_true] at h4
      have cS := And.intro x0 (And.intro x1 (And.intro x2 (And.intro x3 (And.intro x4 (And.intro x5 (And.intro x6 (And.intro y0 (And.intro y1 (And.intro y2 (And.intro y3 (And.intro y4 (And.intro y5 y6))))))))))))
      clear x0 x1 x2 x3 x4 x5 x6 y0 y1 y2 y3 y4 y5 y6
      go_wp2_with fail
      go_region_held3 (fun W => W.cell? ⟨b1, o1 + k * 7, none⟩ = some (.string ek) ∧ W.cell? ⟨b1, o1 + k * 7 + 1, none⟩ = some (.string et) ∧ W.cell? ⟨b1, o1 + k * 7 + 2, none⟩ = some (.int .i64 n0) ∧ W.cell? ⟨b1, o1 + k * 7 + 3, none⟩ = some (.int .i64 n1) ∧ W.cell? ⟨b1, o1 + k * 7 + 4, none⟩ = some (.int .i64 n2) ∧ W.cell? ⟨b1, o1 + k * 7 + 5, none⟩ = some (.int .i64 n3) ∧ W.cell? ⟨b1, o1 + k * 7 + 6, none⟩ = some (.string ex) ∧ W.cell? ⟨b2, o2 + k * 7, none⟩ = some (.string ek) ∧ W.cell? ⟨b2, o2 + k * 7 + 1, none⟩ = some (.string et) ∧ W.cell? ⟨b2, o2 + k * 7 + 2, none⟩ = some (.int .i64 n0) ∧ W.cell? ⟨b2, o2 + k * 7 + 3, none⟩ = some (.int .i64 n1) ∧ W.cell? ⟨b2, o2 + k * 7 + 4, none⟩ = some (.int .i64 n2) ∧ W.cell? ⟨b2, o2 + k * 7 + 5, none⟩ = some (.int .i64 n3) ∧ W.cell? ⟨b2, o2 + k * 7 + 6, none⟩ = some (.string ex))
        (first | with_reducible exact cS)
        (first | fail)
      go_wp2
      go_roundw
      case rel => exact ⟨k + 1, by omega, by go_num, unhide KP⟩
      case measure => simp [intOf]; omega
    · go_wp2
      go_ret
      exact ⟨rfl, kp⟩
end Go.Proofs.Ytnikkjbjidhhlaa
