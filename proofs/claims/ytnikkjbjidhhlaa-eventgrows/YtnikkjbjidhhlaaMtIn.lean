/-
  A match that comes in as an argument: its stages and places lie where it says.
-/
import Derived.Test.YtnikkjbjidhhlaaEvM
import Derived.Test.YtnikkjbjidhhlaaIntsIn
import Derived.ProofKit
import Derived.OpenShut
import Derived.Deep.Slices
namespace Go.Proofs.Ytnikkjbjidhhlaa
open Go.RowKit Go.Deep

theorem cells_Match : Try.prog.cellsOf 28 = 2 := by kernel_rfl
theorem cells_ints : Try.prog.cellsOf 34 = 1 := by kernel_rfl
theorem cells_stages : Try.prog.cellsOf 26 = 1 := by kernel_rfl
theorem cells_str : Try.prog.cellsOf 9 = 1 := by kernel_rfl
theorem fields_Match : ∃ f0 f1 : Field, Try.prog.underlying 28 = some (.struct #[f0, f1]) ∧ f0.type = 9 ∧ f1.type = 26 ∧ f0.offset = 0 ∧ f1.offset = 1 :=
  ⟨_, _, Try.underlying28, rfl, rfl, rfl, rfl⟩
section
variable {H : Type} {enc : TypeId × Value → H} {W : World} {spare : Nat → Bool} {held : Bool} {fuel : Nat} {v : Value} {x : DataW H × List MemPlace}
theorem open_stages (h : DataW.trod enc Try.prog W 0 spare held fuel 26 [v] = some x) :
    ∃ (ad : Option Addr) (cap : Nat) (ss : List (List Int)), v = .slice ad ss.length cap ∧ ss.length ≤ 9223372036854775807 ∧ StagesAt W ad ss ∧ (∀ p ∈ ss, p.length ≤ 9223372036854775807) ∧ (ad = none → cap = 0) := by
  rcases open_slice1 Try.underlying26 cells_ints h with ⟨hcs, _⟩ | ⟨a, len, cap, m, n, V, D, Pl, hcs, hb, hl, hm, hmm, _, hx⟩
  · simp only [List.cons.injEq, and_true] at hcs
    subst hcs
    exact ⟨none, 0, [], rfl, by simp, fun hne => absurd rfl hne, by simp, fun _ => rfl⟩
  · simp only [List.cons.injEq, and_true] at hcs
    subst hcs
    have hlm : len ≤ m := by rw [hmm]; split <;> omega
    have each : ∀ i, i < len → ∃ p : List Int, (∃ a' c, W.cell? (a.add i) = some (.slice a' p.length c) ∧ IntsAt W a' p) ∧ p.length ≤ 9223372036854775807 := by
      intro i hi
      obtain ⟨h1, h2⟩ := hx i (by omega)
      obtain ⟨ad, cp, l, e, hl', hI, _⟩ := open_ints h2
      rw [e] at h1
      exact ⟨l, ⟨ad, cp, h1, hI⟩, hl'⟩
    have hinh : Inhabited (List Int) := ⟨[]⟩
    obtain ⟨q, hq⟩ := choose_lt each
    refine ⟨some a, cap, (List.range len).map q, by simp, by simp; unfold maxLen at hm; omega, fun hne => ?_, fun y hy => ?_, fun e => by cases e⟩
    · have h0 : 0 < len := by
        rcases Nat.eq_zero_or_pos len with e | e
        · subst e; simp at hne
        · exact e
      obtain ⟨b, off, spot⟩ := a
      obtain ⟨_, _, hc0, _⟩ := (hq 0 h0).1
      have hspot : spot = none := by simpa [Addr.add] using World.cell?_spot hc0
      subst hspot
      refine ⟨b, off, rfl, ?_, fun i hi => ?_⟩
      · rcases Nat.lt_or_ge b W.heap.size with hlt | hge
        · exact hlt
        · exfalso
          rw [Go.WideShapes.add_plain] at hc0
          simp [World.cell?, Array.getElem?_eq_none hge] at hc0
      · have hi' : i < len := by simpa using hi
        obtain ⟨⟨a', c, c0, hI⟩, _⟩ := hq i hi'
        rw [Go.WideShapes.add_plain] at c0
        simp only [List.getElem_map, List.getElem_range]
        exact ⟨a', c, c0, hI⟩
    · obtain ⟨i, hi, rfl⟩ := List.mem_map.1 hy
      exact (hq i (List.mem_range.1 hi)).2
theorem open_match {cs : Array Value} (hsz : cs.size = Try.prog.cellsOf 28) (h : DataW.trod enc Try.prog W 0 spare held fuel 28 cs.toList = some x) :
    ∃ (k : ByteArray) (ad : Option Addr) (cap : Nat) (ss : List (List Int)), cs = #[.string k, .slice ad ss.length cap] ∧ MtOk k ss ∧ StagesAt W ad ss ∧ (ad = none → cap = 0) := by
  obtain ⟨f0, f1, hu, t0, t1, o0, o1⟩ := fields_Match
  rw [cells_Match] at hsz
  obtain ⟨xs, n, _, _, _, hxl, hf⟩ := DataW.trod_struct hu h
  obtain ⟨v0, v1, rfl⟩ : ∃ v0 v1, cs = #[v0, v1] := by
    obtain ⟨l⟩ := cs
    have hl : l.length = 2 := hsz
    cases l with
    | nil => cases hl
    | cons a r =>
      cases r with
      | nil => cases hl
      | cons b r =>
        cases r with
        | nil => exact ⟨a, b, rfl⟩
        | cons c r => simp at hl
  match xs, hxl with
  | [y0, y1], _ =>
    have g0 := hf 0 f0 rfl
    have g1 := hf 1 f1 rfl
    simp [o0, o1, t0, t1, cells_str, cells_stages] at g0 g1
    obtain ⟨s, q0, _, hs⟩ := DataW.trod_string Try.underlying9 g0
    simp only [List.cons.injEq, and_true] at q0
    obtain ⟨ad, cap, ss, e, hl, hS, hp, hn⟩ := open_stages g1
    subst q0 e
    exact ⟨s, ad, cap, ss, rfl, ⟨by unfold maxLen at hs; omega, hl, hp⟩, hS, hn⟩
end
end Go.Proofs.Ytnikkjbjidhhlaa
