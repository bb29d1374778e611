/-
  KeptInts: numbers that were lent are as they were, the mark too.
-/
import Derived.Test.YtnikkjbjidhhlaaLdJ
import Derived.Test.YtnikkjbjidhhlaaEvSI
namespace Go.Proofs.Ytnikkjbjidhhlaa
open Go.RowKit

theorem IRw.at {w : World} {g n c : Nat} {l : List Int} (h : IRw w (.slice (some ⟨g, 0, none⟩) n c) l) (i : Nat) (x : Int) (hx : l[i]? = some x) : w.cell? ⟨g, i, none⟩ = some (.int .i64 x) := by
  obtain ⟨h0, ⟨e, h1⟩ | ⟨g', cap', cur, e, hg, hh, h2, h3, h4, h5⟩⟩ := h
  · cases e
  · injection e with e1 e2 e3
    injection e1 with e1
    injection e1 with e1
    subst e1
    have hi : i < l.length := (List.getElem?_eq_some_iff.1 hx).1
    have hy : (l.map (Value.int .i64))[i]? = some (.int .i64 x) := by rw [List.getElem?_map, hx]; rfl
    rw [← h5, List.getElem?_take_of_lt (by omega)] at hy
    simp at hy
    simp [World.cell?, hh, hy]
theorem IRw.lent {w : World} {g c : Nat} {l : List Int} (h : IRw w (.slice (some ⟨g, 0, none⟩) (l.length + 1) c) (l ++ [-77])) : IntsAt w (some ⟨g, 0, none⟩) l := fun _ => by
  refine ⟨g, 0, rfl, ?_, fun i hi => ?_⟩
  · obtain ⟨h0, ⟨e, h1⟩ | ⟨g', cap', cur, e, hg, hh, h2, h3, h4, h5⟩⟩ := h
    · cases e
    · injection e with e1 e2 e3
      injection e1 with e1
      injection e1 with e1
      subst e1
      exact (Array.getElem?_eq_some_iff.1 hh).1
  · rw [Nat.zero_add]
    exact h.at i l[i] (by rw [List.getElem?_append_left hi, List.getElem?_eq_getElem hi])
set_option maxHeartbeats 1000000 in
set_option maxRecDepth 100000 in
theorem keptInts_any (ad : Option Addr) (cap : Nat) (l : List Int) (g c : Nat) (w : World) (hl : l.length ≤ 17592186044416) (hr : IRw w (.slice (some ⟨g, 0, none⟩) (l.length + 1) c) (l ++ [-77])) (h : IntsAt w ad l) :
    Calls Try.prog 24 #[.slice (some ⟨g, 0, none⟩) l.length c, .slice ad l.length cap] w fun e w' => e = .returned (.bool true) ∧ Kp [] w w' := by
  have SI := hide (sameInts_any (some ⟨g, 0, none⟩) ad c cap l l w (by omega) (by omega) hr.lent h)
  rw [decide_eq_true rfl] at SI
  have hc1 := hr.cap.2.1
  have hc2 := hr.cap.2.2
  rw [List.length_append] at hc1
  have c0 : ∀ k, (w.drewN k).cell? ⟨g, l.length, none⟩ = some (.int .i64 (-77)) := fun k => hr.at l.length (-77) (by simp)
  have hcI : ((l.length : Int) + 1) ≤ (c : Int) := by simp at hc1; omega
  have hcN : l.length + 1 ≤ c := by simpa using hc1
  have hx : (l.length : Int) < (l.length : Int) + 1 := by omega
  have hwr : IntKind.i64.wrap ((l.length : Int) + 1) = (l.length : Int) + 1 := by rw [IntKind.wrap_i64]; omega
  clear hr h hc1
  generalize l.length = n at *
  go_enter Try.func24, Try.ntmps24
  go_wp2_with fail
  refine (unhide SI).mono ?_
  rintro r w1 ⟨rfl, k, rfl⟩
  go_wp2
  go_ret
  exact ⟨rfl, Kp.drewQ _ _⟩
end Go.Proofs.Ytnikkjbjidhhlaa
