/-
  A plan's numbers that come in as an argument.
-/
import Derived.Test.YtlljilekompbeaaRtA
import Derived.ProofKit
import Derived.OpenShut
import Derived.Deep.Slices
namespace Go.Proofs.Ytlljilekompbeaa
open Go.RowKit Go.Deep

theorem cells_Plan : Try.prog.cellsOf 39 = 3 := by kernel_rfl
theorem cells_int : Try.prog.cellsOf 3 = 1 := by kernel_rfl
theorem fields_Plan : ∃ f0 f1 f2 : Field, Try.prog.underlying 39 = some (.struct #[f0, f1, f2]) ∧ f0.type = 3 ∧ f1.type = 3 ∧ f2.type = 3 ∧ f0.offset = 0 ∧ f1.offset = 1 ∧ f2.offset = 2 :=
  ⟨_, _, _, Try.underlying39, rfl, rfl, rfl, rfl, rfl, rfl⟩
theorem list3 {α : Type} : ∀ (l : List α), l.length = 3 → ∃ a b c, l = [a, b, c]
  | [a, b, c], _ => ⟨a, b, c, rfl⟩
section
variable {H : Type} {enc : TypeId × Value → H} {W : World} {spare : Nat → Bool} {held : Bool} {fuel : Nat} {x : DataW H × List MemPlace}
theorem open_plan {cs : Array Value} (hsz : cs.size = Try.prog.cellsOf 39) (h : DataW.trod enc Try.prog W 0 spare held fuel 39 cs.toList = some x) :
    ∃ g s m : Int, cs = #[.int .i64 g, .int .i64 s, .int .i64 m] := by
  obtain ⟨f0, f1, f2, hu, t0, t1, t2, o0, o1, o2⟩ := fields_Plan
  rw [cells_Plan] at hsz
  obtain ⟨xs, n, _, _, _, hxl, hf⟩ := DataW.trod_struct hu h
  obtain ⟨l⟩ := cs
  obtain ⟨v0, v1, v2, rfl⟩ := list3 l hsz
  obtain ⟨y0, y1, y2, rfl⟩ := list3 xs hxl
  have g0 := hf 0 f0 rfl
  have g1 := hf 1 f1 rfl
  have g2 := hf 2 f2 rfl
  simp [o0, o1, o2, t0, t1, t2, cells_int] at g0 g1 g2
  obtain ⟨a, q0, _⟩ := DataW.trod_int Try.underlying3 g0
  obtain ⟨b, q1, _⟩ := DataW.trod_int Try.underlying3 g1
  obtain ⟨c, q2, _⟩ := DataW.trod_int Try.underlying3 g2
  simp only [List.cons.injEq, and_true] at q0 q1 q2
  subst q0 q1 q2
  exact ⟨a, b, c, rfl⟩
end
end Go.Proofs.Ytlljilekompbeaa
