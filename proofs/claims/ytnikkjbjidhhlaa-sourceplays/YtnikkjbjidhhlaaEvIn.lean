/-
  An event that comes in as an argument: its parts.
-/
import Derived.Test.YtnikkjbjidhhlaaEv0
import Derived.ProofKit
import Derived.OpenShut
import Derived.Deep.Slices
namespace Go.Proofs.Ytnikkjbjidhhlaa
open Go.RowKit Go.Deep

theorem cells_Event : Try.prog.cellsOf 45 = 7 := by kernel_rfl
theorem cells_i64 : Try.prog.cellsOf 2 = 1 := by kernel_rfl
theorem cells_four : Try.prog.cellsOf 43 = 4 := by kernel_rfl
theorem cells_text : Try.prog.cellsOf 9 = 1 := by kernel_rfl
theorem fields_Event : ∃ f0 f1 f2 f3 : Field, Try.prog.underlying 45 = some (.struct #[f0, f1, f2, f3]) ∧ f0.type = 9 ∧ f1.type = 9 ∧ f2.type = 43 ∧ f3.type = 9 ∧ f0.offset = 0 ∧ f1.offset = 1 ∧ f2.offset = 2 ∧ f3.offset = 6 :=
  ⟨_, _, _, _, Try.underlying45, rfl, rfl, rfl, rfl, rfl, rfl, rfl, rfl⟩
theorem list7 {α : Type} : ∀ (l : List α), l.length = 7 → ∃ a b c d e f g, l = [a, b, c, d, e, f, g]
  | [a, b, c, d, e, f, g], _ => ⟨a, b, c, d, e, f, g, rfl⟩
theorem list4 {α : Type} : ∀ (l : List α), l.length = 4 → ∃ a b c d, l = [a, b, c, d]
  | [a, b, c, d], _ => ⟨a, b, c, d, rfl⟩
section
variable {H : Type} {enc : TypeId × Value → H} {W : World} {spare : Nat → Bool} {held : Bool} {fuel : Nat} {x : DataW H × List MemPlace}
theorem open_event {cs : Array Value} (hsz : cs.size = Try.prog.cellsOf 45) (h : DataW.trod enc Try.prog W 0 spare held fuel 45 cs.toList = some x) :
    ∃ e : Ev, cs = e.c ∧ e.ok := by
  obtain ⟨f0, f1, f2, f3, hu, t0, t1, t2, t3, o0, o1, o2, o3⟩ := fields_Event
  rw [cells_Event] at hsz
  obtain ⟨xs, n, _, _, _, hxl, hf⟩ := DataW.trod_struct hu h
  obtain ⟨l⟩ := cs
  obtain ⟨v0, v1, v2, v3, v4, v5, v6, rfl⟩ := list7 l hsz
  obtain ⟨y0, y1, y2, y3, rfl⟩ := list4 xs hxl
  have g0 := hf 0 f0 rfl
  have g1 := hf 1 f1 rfl
  have g2 := hf 2 f2 rfl
  have g3 := hf 3 f3 rfl
  simp [o0, o1, o2, o3, t0, t1, t2, t3, cells_text, cells_four] at g0 g1 g2 g3
  obtain ⟨k, q0, _, hk⟩ := DataW.trod_string Try.underlying9 g0
  obtain ⟨t, q1, _, ht⟩ := DataW.trod_string Try.underlying9 g1
  obtain ⟨s, q3, _, hs⟩ := DataW.trod_string Try.underlying9 g3
  simp only [List.cons.injEq, and_true] at q0 q1 q3
  subst q0 q1 q3
  obtain ⟨zs, m, _, _, _, hzl, hz⟩ := DataW.trod_array Try.underlying43 g2
  obtain ⟨z0, z1, z2, z3, rfl⟩ := list4 zs hzl
  have a0 := hz 0 (by omega)
  have a1 := hz 1 (by omega)
  have a2 := hz 2 (by omega)
  have a3 := hz 3 (by omega)
  simp [cells_i64] at a0 a1 a2 a3
  obtain ⟨n0, p0, _, w0⟩ := DataW.trod_int Try.underlying2 a0
  obtain ⟨n1, p1, _, w1⟩ := DataW.trod_int Try.underlying2 a1
  obtain ⟨n2, p2, _, w2⟩ := DataW.trod_int Try.underlying2 a2
  obtain ⟨n3, p3, _, w3⟩ := DataW.trod_int Try.underlying2 a3
  simp only [List.cons.injEq, and_true] at p0 p1 p2 p3
  subst p0 p1 p2 p3
  have u0 := bounds_i64 w0
  have u1 := bounds_i64 w1
  have u2 := bounds_i64 w2
  have u3 := bounds_i64 w3
  unfold maxLen at hk ht hs
  exact ⟨⟨k, t, n0, n1, n2, n3, s⟩, rfl, by show k.size ≤ _; omega, by show t.size ≤ _; omega, by show s.size ≤ _; omega, ⟨u0.1, by show n0 < _; omega⟩, ⟨u1.1, by show n1 < _; omega⟩, ⟨u2.1, by show n2 < _; omega⟩, ⟨u3.1, by show n3 < _; omega⟩⟩
end
end Go.Proofs.Ytnikkjbjidhhlaa
