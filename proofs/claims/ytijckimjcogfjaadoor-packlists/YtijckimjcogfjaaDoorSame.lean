/-
  SameItems of two slices that read the same list returns true; and what Decode answers reads as its list.
-/
import Derived.Test.YtijckimjcogfjaaDoorDec
import Derived.Deep.QuietTactic
import Derived.BigQuiet
namespace Go.Proofs.YtijckimjcogfjaaDoor
open Go.RowKit

theorem itemC_get (l : List It) (i : Nat) (h : i < l.length) : (itemC l)[i * 3]? = some (.bool l[i].t) ∧ (itemC l)[i * 3 + 1]? = some (.int .i64 l[i].n) ∧ (itemC l)[i * 3 + 2]? = some (.string l[i].s) := by
  induction l generalizing i with
  | nil => simp at h
  | cons x r ih =>
    have e : itemC (x :: r) = [.bool x.t, .int .i64 x.n, .string x.s] ++ itemC r := by unfold itemC; rw [List.flatMap_cons]
    cases i with
    | zero => rw [e]; simp
    | succ i =>
      have hi : i < r.length := by simpa using h
      obtain ⟨a, b, c⟩ := ih i hi
      rw [e]
      simp only [List.getElem_cons_succ]
      refine ⟨?_, ?_, ?_⟩
      · rw [List.getElem?_append_right (by simp; omega)]; rw [← a]; congr 1; simp; omega
      · rw [List.getElem?_append_right (by simp; omega)]; rw [← b]; congr 1; simp; omega
      · rw [List.getElem?_append_right (by simp; omega)]; rw [← c]; congr 1; simp; omega
theorem OwnsI.items {B : Nat} {w : World} {v : Value} {l : List It} (h : OwnsI B w v l) : ∃ ad cp, v = .slice ad l.length cp ∧ ItemsAt w ad l := by
  obtain ⟨_, ⟨rfl, h0⟩ | ⟨g, cp, cur, rfl, r⟩⟩ := id h
  · refine ⟨none, 0, by rw [h0], fun hne => ?_⟩
    exact absurd (List.eq_nil_of_length_eq_zero h0) hne
  · have hl := World.ownsRow.lt h g rfl
    refine ⟨_, _, rfl, fun _ => ⟨g, 0, rfl, hl.2, fun i hi => ?_⟩⟩
    obtain ⟨a, b, c⟩ := itemC_get l i hi
    simp only [Nat.zero_add]
    refine ⟨?_, ?_, ?_⟩
    · rw [World.ownsRow.cellAt h (i * 3) (by omega)]; exact a
    · rw [World.ownsRow.cellAt h (i * 3 + 1) (by omega)]; exact b
    · rw [World.ownsRow.cellAt h (i * 3 + 2) (by omega)]; exact c
set_option maxHeartbeats 1000000 in
theorem sameItems_true (a1 a2 : Option Addr) (c1 c2 : Nat) (l : List It) (w : World) (h1 : ItemsAt w a1 l) (h2 : ItemsAt w a2 l) (hl : l.length ≤ 9223372036854775807) :
    Calls Tryd.prog 10 #[.slice a1 l.length c1, .slice a2 l.length c2] w fun e w' => e = .returned (.bool true) ∧ ∃ n, w' = w.drewN n := by
  have H1 := hide h1
  have H2 := hide h2
  clear h1 h2
  go_enter Tryd.func10, Tryd.ntmps10
  go_wp2
  go_loopw [5] (fun i wr => ∃ k n : Nat, k ≤ l.length ∧ i = .int .i64 (k : Int) ∧ wr = w.drewN n) (fun i _ => l.length - (intOf i).toNat)
  case atStart => exact ⟨0, 0, Nat.zero_le _, rfl, rfl⟩
  case round =>
    obtain ⟨k, n, hk, rfl, rfl⟩ := hrel
    by_cases hlt : k < l.length
    · have hne : l ≠ [] := fun e => by rw [e] at hlt; simp at hlt
      obtain ⟨b1, o1, rfl, _, q1⟩ := unhide H1 hne
      obtain ⟨b2, o2, rfl, _, q2⟩ := unhide H2 hne
      obtain ⟨x0, x1, x2⟩ := q1 k hlt
      obtain ⟨y0, y1, y2⟩ := q2 k hlt
      have hli : (k : Int) < (l.length : Int) := by omega
      clear q1 q2 hne H1 H2
      generalize l[k] = x at *
      obtain ⟨t, m, s⟩ := x
      dsimp only at x0 x1 x2 y0 y1 y2
      go_wp2
      go_quiet (fail)
      go_wp2
      go_roundw
      case rel => exact ⟨k + 1, _, by omega, by go_num, rfl⟩
      case measure => simp [intOf]; omega
    · go_wp2
      go_ret
      exact ⟨rfl, n, rfl⟩
end Go.Proofs.YtijckimjcogfjaaDoor
