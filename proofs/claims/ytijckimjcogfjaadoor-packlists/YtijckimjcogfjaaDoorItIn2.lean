/-
  A slice of items that comes in as an argument: its items lie where it says; its capacity.
-/
import Derived.Test.YtijckimjcogfjaaDoorEnc
import Derived.ProofKit
import Derived.OpenShut
import Derived.Deep.Slices
namespace Go.Proofs.YtijckimjcogfjaaDoor
open Go.RowKit Go.Deep

theorem cells_Item : Tryd.prog.cellsOf 35 = 3 := by kernel_rfl
theorem cells_bool : Tryd.prog.cellsOf 4 = 1 := by kernel_rfl
theorem cells_int64 : Tryd.prog.cellsOf 2 = 1 := by kernel_rfl
theorem cells_string : Tryd.prog.cellsOf 9 = 1 := by kernel_rfl
theorem fields_Item : ∃ f0 f1 f2 : Field, Tryd.prog.underlying 35 = some (.struct #[f0, f1, f2]) ∧ f0.type = 4 ∧ f1.type = 2 ∧ f2.type = 9 ∧ f0.offset = 0 ∧ f1.offset = 1 ∧ f2.offset = 2 :=
  ⟨_, _, _, Tryd.underlying35, rfl, rfl, rfl, rfl, rfl, rfl⟩
theorem open_items {H : Type} {enc : TypeId × Value → H} {W : World} {spare : Nat → Bool} {held : Bool} {fuel : Nat} {v : Value} {x : DataW H × List MemPlace}
    (h : DataW.trod enc Tryd.prog W 0 spare held fuel 22 [v] = some x) :
    ∃ (ad : Option Addr) (cap : Nat) (l : List It), v = .slice ad l.length cap ∧ l.length ≤ 9223372036854775807 ∧ ItemsAt W ad l ∧ ∀ y ∈ l, y.ok := by
  obtain ⟨f0, f1, f2, hu, t0, t1, t2, o0, o1, o2⟩ := fields_Item
  rcases open_slice Tryd.underlying22 h with ⟨hcs, _⟩ | ⟨a, len, cap, m, n, D, Pl, hcs, hb, hl, hm, hmm, _, hx⟩
  · simp only [List.cons.injEq, and_true] at hcs
    subst hcs
    exact ⟨none, 0, [], rfl, by simp, fun hne => absurd rfl hne, by simp⟩
  · simp only [List.cons.injEq, and_true] at hcs
    subst hcs
    have hlm : len ≤ m := by rw [hmm]; split <;> omega
    have each : ∀ i, i < len → ∃ y : It, W.cell? (a.add (i * 3)) = some (.bool y.t) ∧ W.cell? (a.add (i * 3 + 1)) = some (.int .i64 y.n) ∧ W.cell? (a.add (i * 3 + 2)) = some (.string y.s) ∧ y.ok := by
      intro i hi
      obtain ⟨cs', h1, h2⟩ := hx i (by omega)
      rw [cells_Item] at h1
      obtain ⟨_, hlen, hcell⟩ := World.cells?_some h1
      obtain ⟨xs, k, hk, hxy, _, hxl, hf⟩ := DataW.trod_struct hu h2
      match xs, hxl, cs', hlen with
      | [y0, y1, y2], _, [v0, v1, v2], _ =>
        have g0 := hf 0 f0 rfl
        have g1 := hf 1 f1 rfl
        have g2 := hf 2 f2 rfl
        simp [o0, o1, o2, t0, t1, t2, cells_bool, cells_int64, cells_string] at g0 g1 g2
        have e0 := hcell 0 (by omega)
        have e1 := hcell 1 (by omega)
        have e2 := hcell 2 (by omega)
        rw [Go.Deep.add_add] at e0 e1 e2
        obtain ⟨t, q0, _⟩ := DataW.trod_bool Tryd.underlying4 g0
        obtain ⟨k1, q1, _, wf⟩ := DataW.trod_int Tryd.underlying2 g1
        obtain ⟨s, q2, _, hs⟩ := DataW.trod_string Tryd.underlying9 g2
        simp only [List.cons.injEq, and_true] at q0 q1 q2
        subst q0 q1 q2
        have hbd := bounds_i64 wf
        exact ⟨⟨t, k1, s⟩, by simpa using e0, by simpa using e1, by simpa using e2, hbd.1, by have := hbd.2; show k1 < _; omega, by unfold maxLen at hs; show s.size ≤ _; omega⟩
    have hinh : Inhabited It := ⟨⟨false, 0, ⟨#[]⟩⟩⟩
    obtain ⟨q, hq⟩ := choose_lt each
    refine ⟨some a, cap, (List.range len).map q, by simp, by simp; unfold maxLen at hm; omega, fun hne => ?_, fun y hy => ?_⟩
    · have h0 : 0 < len := by
        rcases Nat.eq_zero_or_pos len with e | e
        · subst e; simp at hne
        · exact e
      obtain ⟨b, off, spot⟩ := a
      have hc0 := (hq 0 h0).1
      have hspot : spot = none := by simpa [Addr.add] using World.cell?_spot hc0
      subst hspot
      refine ⟨b, off, rfl, ?_, fun i hi => ?_⟩
      · rcases Nat.lt_or_ge b W.heap.size with hlt | hge
        · exact hlt
        · exfalso
          rw [Go.WideShapes.add_plain] at hc0
          simp [World.cell?, Array.getElem?_eq_none hge] at hc0
      · have hi' : i < len := by simpa using hi
        obtain ⟨c0, c1, c2, _⟩ := hq i hi'
        rw [Go.WideShapes.add_plain] at c0 c1 c2
        simp only [List.getElem_map, List.getElem_range]
        exact ⟨c0, by rw [Nat.add_assoc]; exact c1, by rw [Nat.add_assoc]; exact c2⟩
    · obtain ⟨i, hi, rfl⟩ := List.mem_map.1 hy
      exact (hq i (List.mem_range.1 hi)).2.2.2
theorem open_items2 {H : Type} {enc : TypeId × Value → H} {W : World} {spare : Nat → Bool} {held : Bool} {fuel : Nat} {v : Value} {x : DataW H × List MemPlace}
    (h : DataW.trod enc Tryd.prog W 0 spare held fuel 22 [v] = some x) :
    ∃ (ad : Option Addr) (cap : Nat) (l : List It), v = .slice ad l.length cap ∧ l.length ≤ 9223372036854775807 ∧ ItemsAt W ad l ∧ (∀ y ∈ l, y.ok) ∧ (ad = none → cap = 0) ∧ l.length ≤ cap := by
  obtain ⟨ad, cap, l, hv, h1, h2, h3⟩ := open_items h
  refine ⟨ad, cap, l, hv, h1, h2, h3, ?_⟩
  rcases open_slice Tryd.underlying22 h with ⟨hcs, _⟩ | ⟨a, len, cap', m, n, D, Pl, hcs, hb, hl, _⟩
  · simp only [List.cons.injEq, and_true] at hcs
    rw [hv] at hcs
    simp only [Value.slice.injEq] at hcs
    exact ⟨fun _ => hcs.2.2, by omega⟩
  · simp only [List.cons.injEq, and_true] at hcs
    rw [hv] at hcs
    simp only [Value.slice.injEq] at hcs
    exact ⟨fun e => by rw [e] at hcs; simp at hcs, by omega⟩
end Go.Proofs.YtijckimjcogfjaaDoor
