/-
  A slice of structs that comes in as an argument: they lie where it says.
-/
import Derived.Test.YtmeoiljjfmlmgaaMeA
import Derived.ProofKit
import Derived.OpenShut
import Derived.Deep.Slices
namespace Go.Proofs.Ytmeoiljjfmlmgaa
open Go.RowKit Go.Deep

/-- One of them. -/
structure A8 where
  kind : Int
  which : Int
  k : Int
  n : Int
  m : Int
def A8.ok (a : A8) : Prop := (-9223372036854775808 ≤ a.kind ∧ a.kind ≤ 9223372036854775807) ∧ (-9223372036854775808 ≤ a.which ∧ a.which ≤ 9223372036854775807) ∧ (-9223372036854775808 ≤ a.k ∧ a.k ≤ 9223372036854775807) ∧ (-9223372036854775808 ≤ a.n ∧ a.n ≤ 9223372036854775807) ∧ (-9223372036854775808 ≤ a.m ∧ a.m ≤ 9223372036854775807)
def Acts8 (w : World) (ad : Option Addr) (l : List A8) : Prop :=
  l ≠ [] → ∃ b off, ad = some ⟨b, off, none⟩ ∧ b < w.heap.size ∧ ∀ i (h : i < l.length), w.cell? ⟨b, off + i * 5, none⟩ = some (.int .i64 l[i].kind) ∧ w.cell? ⟨b, off + i * 5 + 1, none⟩ = some (.int .i64 l[i].which) ∧ w.cell? ⟨b, off + i * 5 + 2, none⟩ = some (.int .i64 l[i].k) ∧ w.cell? ⟨b, off + i * 5 + 3, none⟩ = some (.int .i64 l[i].n) ∧ w.cell? ⟨b, off + i * 5 + 4, none⟩ = some (.int .i64 l[i].m)
theorem Acts8.kp {w w' : World} {ad : Option Addr} {l : List A8} (h : Acts8 w ad l) (hk : Kp [] w w') : Acts8 w' ad l := fun hl => by
  obtain ⟨b, off, e, hlt, hc⟩ := h hl
  refine ⟨b, off, e, Nat.lt_of_lt_of_le hlt hk.size, fun i hi => ?_⟩
  obtain ⟨c0, c1, c2, c3, c4⟩ := hc i hi
  exact ⟨hk.cell c0 (by simp), hk.cell c1 (by simp), hk.cell c2 (by simp), hk.cell c3 (by simp), hk.cell c4 (by simp)⟩
theorem Acts8.at {w : World} {ad : Option Addr} {l : List A8} (h : Acts8 w ad l) (i : Nat) (hi : i < l.length) : ∃ b off, ad = some ⟨b, off, none⟩ ∧ b < w.heap.size ∧ w.cell? ⟨b, off + i * 5, none⟩ = some (.int .i64 l[i].kind) ∧ w.cell? ⟨b, off + i * 5 + 1, none⟩ = some (.int .i64 l[i].which) ∧ w.cell? ⟨b, off + i * 5 + 2, none⟩ = some (.int .i64 l[i].k) ∧ w.cell? ⟨b, off + i * 5 + 3, none⟩ = some (.int .i64 l[i].n) ∧ w.cell? ⟨b, off + i * 5 + 4, none⟩ = some (.int .i64 l[i].m) := by
  obtain ⟨b, off, e, hlt, hc⟩ := h (by intro e; subst e; simp at hi)
  exact ⟨b, off, e, hlt, hc i hi⟩
theorem open_acts8_cells : Try.prog.cellsOf 31 = 5 := by kernel_rfl
theorem open_acts8_cells_int : Try.prog.cellsOf 3 = 1 := by kernel_rfl
theorem open_acts8_fields : ∃ f0 f1 f2 f3 f4 : Field, Try.prog.underlying 31 = some (.struct #[f0, f1, f2, f3, f4]) ∧ f0.type = 3 ∧ f1.type = 3 ∧ f2.type = 3 ∧ f3.type = 3 ∧ f4.type = 3 ∧ f0.offset = 0 ∧ f1.offset = 1 ∧ f2.offset = 2 ∧ f3.offset = 3 ∧ f4.offset = 4 :=
  ⟨_, _, _, _, _, Try.underlying31, rfl, rfl, rfl, rfl, rfl, rfl, rfl, rfl, rfl, rfl⟩
theorem open_acts8_list {α : Type} : ∀ (l : List α), l.length = 5 → ∃ x0 x1 x2 x3 x4, l = [x0, x1, x2, x3, x4]
  | [x0, x1, x2, x3, x4], _ => ⟨x0, x1, x2, x3, x4, rfl⟩
set_option maxRecDepth 100000 in
theorem open_acts8 {H : Type} {enc : TypeId × Value → H} {W : World} {spare : Nat → Bool} {held : Bool} {fuel : Nat} {v : Value} {x : DataW H × List MemPlace}
    (h : DataW.trod enc Try.prog W 0 spare held fuel 22 [v] = some x) :
    ∃ (ad : Option Addr) (cap : Nat) (l : List A8), v = .slice ad l.length cap ∧ l.length ≤ 9223372036854775807 ∧ Acts8 W ad l ∧ ∀ y ∈ l, y.ok := by
  obtain ⟨f0, f1, f2, f3, f4, hu, t0, t1, t2, t3, t4, o0, o1, o2, o3, o4⟩ := open_acts8_fields
  rcases open_slice Try.underlying22 h with ⟨hcs, _⟩ | ⟨a, len, cap, m, n, D, Pl, hcs, hb, hl, hm, hmm, _, hx⟩
  · simp only [List.cons.injEq, and_true] at hcs
    subst hcs
    exact ⟨none, 0, [], rfl, by simp, fun hne => absurd rfl hne, by simp⟩
  · simp only [List.cons.injEq, and_true] at hcs
    subst hcs
    have hlm : len ≤ m := by rw [hmm]; split <;> omega
    have each : ∀ i, i < len → ∃ y : A8, W.cell? (a.add (i * 5)) = some (.int .i64 y.kind) ∧ W.cell? (a.add (i * 5 + 1)) = some (.int .i64 y.which) ∧ W.cell? (a.add (i * 5 + 2)) = some (.int .i64 y.k) ∧ W.cell? (a.add (i * 5 + 3)) = some (.int .i64 y.n) ∧ W.cell? (a.add (i * 5 + 4)) = some (.int .i64 y.m) ∧ y.ok := by
      intro i hi
      obtain ⟨cs', h1, h2⟩ := hx i (by omega)
      rw [open_acts8_cells] at h1
      obtain ⟨_, hlen, hcell⟩ := World.cells?_some h1
      obtain ⟨xs, k, hk, hxy, _, hxl, hf⟩ := DataW.trod_struct hu h2
      obtain ⟨y0, y1, y2, y3, y4, rfl⟩ := open_acts8_list xs hxl
      obtain ⟨v0, v1, v2, v3, v4, rfl⟩ := open_acts8_list cs' hlen
      have g0 := hf 0 f0 rfl
      have g1 := hf 1 f1 rfl
      have g2 := hf 2 f2 rfl
      have g3 := hf 3 f3 rfl
      have g4 := hf 4 f4 rfl
      simp [o0, o1, o2, o3, o4, t0, t1, t2, t3, t4, open_acts8_cells_int] at g0 g1 g2 g3 g4
      have e0 := hcell 0 (by omega)
      have e1 := hcell 1 (by omega)
      have e2 := hcell 2 (by omega)
      have e3 := hcell 3 (by omega)
      have e4 := hcell 4 (by omega)
      rw [Go.Deep.add_add] at e0 e1 e2 e3 e4
      obtain ⟨k0, q0, _, wf0⟩ := DataW.trod_int Try.underlying3 g0
      obtain ⟨k1, q1, _, wf1⟩ := DataW.trod_int Try.underlying3 g1
      obtain ⟨k2, q2, _, wf2⟩ := DataW.trod_int Try.underlying3 g2
      obtain ⟨k3, q3, _, wf3⟩ := DataW.trod_int Try.underlying3 g3
      obtain ⟨k4, q4, _, wf4⟩ := DataW.trod_int Try.underlying3 g4
      simp only [List.cons.injEq, and_true] at q0 q1 q2 q3 q4
      subst q0 q1 q2 q3 q4
      have b0 := bounds_i64 wf0
      have b1 := bounds_i64 wf1
      have b2 := bounds_i64 wf2
      have b3 := bounds_i64 wf3
      have b4 := bounds_i64 wf4
      exact ⟨⟨k0, k1, k2, k3, k4⟩, by simpa using e0, by simpa using e1, by simpa using e2, by simpa using e3, by simpa using e4, ⟨b0.1, by show k0 ≤ _; omega⟩, ⟨b1.1, by show k1 ≤ _; omega⟩, ⟨b2.1, by show k2 ≤ _; omega⟩, ⟨b3.1, by show k3 ≤ _; omega⟩, ⟨b4.1, by show k4 ≤ _; omega⟩⟩
    have hinh : Inhabited A8 := ⟨⟨0, 0, 0, 0, 0⟩⟩
    obtain ⟨q, hq⟩ := choose_lt each
    refine ⟨some a, cap, (List.range len).map q, by simp, by simp; unfold maxLen at hm; omega, fun hne => ?_, fun y hy => ?_⟩
    · have h0 : 0 < len := by
        rcases Nat.eq_zero_or_pos len with e | e
        · subst e; simp at hne
        · exact e
      obtain ⟨b, off, spot⟩ := a
      have hc0 := (hq 0 h0).1
      have hspot : spot = none := by simpa [Addr.add] using World.cell?_spot hc0
      subst hspot
      refine ⟨b, off, rfl, ?_, fun i hi => ?_⟩
      · rcases Nat.lt_or_ge b W.heap.size with hlt | hge
        · exact hlt
        · exfalso
          rw [Go.WideShapes.add_plain] at hc0
          simp [World.cell?, Array.getElem?_eq_none hge] at hc0
      · have hi' : i < len := by simpa using hi
        obtain ⟨c0, c1, c2, c3, c4, _⟩ := hq i hi'
        rw [Go.WideShapes.add_plain] at c0 c1 c2 c3 c4
        simp only [List.getElem_map, List.getElem_range]
        exact ⟨c0, by rw [Nat.add_assoc]; exact c1, by rw [Nat.add_assoc]; exact c2, by rw [Nat.add_assoc]; exact c3, by rw [Nat.add_assoc]; exact c4⟩
    · obtain ⟨i, hi, rfl⟩ := List.mem_map.1 hy
      exact (hq i (List.mem_range.1 hi)).2.2.2.2.2
end Go.Proofs.Ytmeoiljjfmlmgaa
