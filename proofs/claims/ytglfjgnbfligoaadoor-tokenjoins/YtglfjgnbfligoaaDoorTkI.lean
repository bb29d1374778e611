/-
  A slice of tokens that comes in as an argument: they lie where it says.
-/
import Derived.Test.YtglfjgnbfligoaaDoorTkG
import Derived.ProofKit
import Derived.OpenShut
import Derived.Deep.Slices
namespace Go.Proofs.YtglfjgnbfligoaaDoor
open Go.RowKit Go.Deep

def Tk.ok (a : Tk) : Prop := (-9223372036854775808 ≤ a.kd ∧ a.kd ≤ 9223372036854775807) ∧ a.s.size ≤ 9223372036854775807 ∧ (-9223372036854775808 ≤ a.n ∧ a.n ≤ 9223372036854775807) ∧ (-9223372036854775808 ≤ a.pl ∧ a.pl ≤ 9223372036854775807)
def TksAt (w : World) (ad : Option Addr) (l : List Tk) : Prop :=
  l ≠ [] → ∃ b off, ad = some ⟨b, off, none⟩ ∧ b < w.heap.size ∧ ∀ i (h : i < l.length), w.cell? ⟨b, off + i * 4, none⟩ = some (.int .i64 l[i].kd) ∧ w.cell? ⟨b, off + i * 4 + 1, none⟩ = some (.string l[i].s) ∧ w.cell? ⟨b, off + i * 4 + 2, none⟩ = some (.int .i64 l[i].n) ∧ w.cell? ⟨b, off + i * 4 + 3, none⟩ = some (.int .i64 l[i].pl)
theorem TksAt.kp {w w' : World} {ad : Option Addr} {l : List Tk} (h : TksAt w ad l) (hk : Kp [] w w') : TksAt w' ad l := fun hl => by
  obtain ⟨b, off, e, hlt, hc⟩ := h hl
  refine ⟨b, off, e, Nat.lt_of_lt_of_le hlt hk.size, fun i hi => ?_⟩
  obtain ⟨c0, c1, c2, c3⟩ := hc i hi
  exact ⟨hk.cell c0 (by simp), hk.cell c1 (by simp), hk.cell c2 (by simp), hk.cell c3 (by simp)⟩
theorem TksAt.at {w : World} {ad : Option Addr} {l : List Tk} (h : TksAt w ad l) (i : Nat) (hi : i < l.length) : ∃ b off, ad = some ⟨b, off, none⟩ ∧ b < w.heap.size ∧ w.cell? ⟨b, off + i * 4, none⟩ = some (.int .i64 l[i].kd) ∧ w.cell? ⟨b, off + i * 4 + 1, none⟩ = some (.string l[i].s) ∧ w.cell? ⟨b, off + i * 4 + 2, none⟩ = some (.int .i64 l[i].n) ∧ w.cell? ⟨b, off + i * 4 + 3, none⟩ = some (.int .i64 l[i].pl) := by
  obtain ⟨b, off, e, hlt, hc⟩ := h (by intro e; subst e; simp at hi)
  exact ⟨b, off, e, hlt, hc i hi⟩
theorem open_tks_cells : Tryd.prog.cellsOf 35 = 4 := by kernel_rfl
theorem open_tks_cells_int : Tryd.prog.cellsOf 3 = 1 := by kernel_rfl
theorem open_tks_cells_string : Tryd.prog.cellsOf 9 = 1 := by kernel_rfl
theorem open_tks_cells_int64 : Tryd.prog.cellsOf 2 = 1 := by kernel_rfl
theorem open_tks_fields : ∃ f0 f1 f2 f3 : Field, Tryd.prog.underlying 35 = some (.struct #[f0, f1, f2, f3]) ∧ f0.type = 3 ∧ f1.type = 9 ∧ f2.type = 2 ∧ f3.type = 3 ∧ f0.offset = 0 ∧ f1.offset = 1 ∧ f2.offset = 2 ∧ f3.offset = 3 :=
  ⟨_, _, _, _, Tryd.underlying35, rfl, rfl, rfl, rfl, rfl, rfl, rfl, rfl⟩
theorem open_tks_list {α : Type} : ∀ (l : List α), l.length = 4 → ∃ x0 x1 x2 x3, l = [x0, x1, x2, x3]
  | [x0, x1, x2, x3], _ => ⟨x0, x1, x2, x3, rfl⟩
set_option maxRecDepth 100000 in
theorem open_tks {H : Type} {enc : TypeId × Value → H} {W : World} {spare : Nat → Bool} {held : Bool} {fuel : Nat} {v : Value} {x : DataW H × List MemPlace}
    (h : DataW.trod enc Tryd.prog W 0 spare held fuel 22 [v] = some x) :
    ∃ (ad : Option Addr) (cap : Nat) (l : List Tk), v = .slice ad l.length cap ∧ l.length ≤ 9223372036854775807 ∧ TksAt W ad l ∧ ∀ y ∈ l, y.ok := by
  obtain ⟨f0, f1, f2, f3, hu, t0, t1, t2, t3, o0, o1, o2, o3⟩ := open_tks_fields
  rcases open_slice Tryd.underlying22 h with ⟨hcs, _⟩ | ⟨a, len, cap, m, n, D, Pl, hcs, hb, hl, hm, hmm, _, hx⟩
  · simp only [List.cons.injEq, and_true] at hcs
    subst hcs
    exact ⟨none, 0, [], rfl, by simp, fun hne => absurd rfl hne, by simp⟩
  · simp only [List.cons.injEq, and_true] at hcs
    subst hcs
    have hlm : len ≤ m := by rw [hmm]; split <;> omega
    have each : ∀ i, i < len → ∃ y : Tk, W.cell? (a.add (i * 4)) = some (.int .i64 y.kd) ∧ W.cell? (a.add (i * 4 + 1)) = some (.string y.s) ∧ W.cell? (a.add (i * 4 + 2)) = some (.int .i64 y.n) ∧ W.cell? (a.add (i * 4 + 3)) = some (.int .i64 y.pl) ∧ y.ok := by
      intro i hi
      obtain ⟨cs', h1, h2⟩ := hx i (by omega)
      rw [open_tks_cells] at h1
      obtain ⟨_, hlen, hcell⟩ := World.cells?_some h1
      obtain ⟨xs, k, hk, hxy, _, hxl, hf⟩ := DataW.trod_struct hu h2
      obtain ⟨y0, y1, y2, y3, rfl⟩ := open_tks_list xs hxl
      obtain ⟨v0, v1, v2, v3, rfl⟩ := open_tks_list cs' hlen
      have g0 := hf 0 f0 rfl
      have g1 := hf 1 f1 rfl
      have g2 := hf 2 f2 rfl
      have g3 := hf 3 f3 rfl
      simp [o0, o1, o2, o3, t0, t1, t2, t3, open_tks_cells_int, open_tks_cells_string, open_tks_cells_int64] at g0 g1 g2 g3
      have e0 := hcell 0 (by omega)
      have e1 := hcell 1 (by omega)
      have e2 := hcell 2 (by omega)
      have e3 := hcell 3 (by omega)
      rw [Go.Deep.add_add] at e0 e1 e2 e3
      obtain ⟨k0, q0, _, wf0⟩ := DataW.trod_int Tryd.underlying3 g0
      obtain ⟨k1, q1, _, wf1⟩ := DataW.trod_string Tryd.underlying9 g1
      obtain ⟨k2, q2, _, wf2⟩ := DataW.trod_int Tryd.underlying2 g2
      obtain ⟨k3, q3, _, wf3⟩ := DataW.trod_int Tryd.underlying3 g3
      simp only [List.cons.injEq, and_true] at q0 q1 q2 q3
      subst q0 q1 q2 q3
      have b0 := bounds_i64 wf0
      unfold maxLen at wf1
      have b2 := bounds_i64 wf2
      have b3 := bounds_i64 wf3
      exact ⟨⟨k0, k1, k2, k3⟩, by simpa using e0, by simpa using e1, by simpa using e2, by simpa using e3, ⟨b0.1, by show k0 ≤ _; omega⟩, by show k1.size ≤ _; omega, ⟨b2.1, by show k2 ≤ _; omega⟩, ⟨b3.1, by show k3 ≤ _; omega⟩⟩
    have hinh : Inhabited Tk := ⟨⟨0, ⟨#[]⟩, 0, 0⟩⟩
    obtain ⟨q, hq⟩ := choose_lt each
    refine ⟨some a, cap, (List.range len).map q, by simp, by simp; unfold maxLen at hm; omega, fun hne => ?_, fun y hy => ?_⟩
    · have h0 : 0 < len := by
        rcases Nat.eq_zero_or_pos len with e | e
        · subst e; simp at hne
        · exact e
      obtain ⟨b, off, spot⟩ := a
      have hc0 := (hq 0 h0).1
      have hspot : spot = none := by simpa [Addr.add] using World.cell?_spot hc0
      subst hspot
      refine ⟨b, off, rfl, ?_, fun i hi => ?_⟩
      · rcases Nat.lt_or_ge b W.heap.size with hlt | hge
        · exact hlt
        · exfalso
          rw [Go.WideShapes.add_plain] at hc0
          simp [World.cell?, Array.getElem?_eq_none hge] at hc0
      · have hi' : i < len := by simpa using hi
        obtain ⟨c0, c1, c2, c3, _⟩ := hq i hi'
        rw [Go.WideShapes.add_plain] at c0 c1 c2 c3
        simp only [List.getElem_map, List.getElem_range]
        exact ⟨c0, by rw [Nat.add_assoc]; exact c1, by rw [Nat.add_assoc]; exact c2, by rw [Nat.add_assoc]; exact c3⟩
    · obtain ⟨i, hi, rfl⟩ := List.mem_map.1 hy
      exact (hq i (List.mem_range.1 hi)).2.2.2.2
end Go.Proofs.YtglfjgnbfligoaaDoor
