/-
  A buffer: how it lies; its leaves: an entry's count, is it there, held once more, let go.
-/
import Derived.Test.YthdfaidjdddagaaProg
import Derived.Test.YthdfaidjdddagaaKp0
import Derived.Test.YthdfaidjdddagaaBuP
import Derived.Tactics
import Derived.Tactics2
import Derived.Laws.Pointers
import Derived.Laws.Tables
import Derived.Deep.QuietTactic
import Derived.BigQuiet
namespace Go.Proofs.Ythdfaidjdddagaa
open Go.RowKit

/-- A buffer lies there: its entries, and how many. -/
structure Bu (b : Nat) (c : Nat → Ent) (m : Int) (w : World) : Prop where
  ex : ∃ cur : Array Value, w.heap[b]? = some (.cells cur 63 (0, 0)) ∧ cur.size = 20481 ∧ cur[20480]? = some (.int .i64 m) ∧ ∀ i, i < 4096 → cur[i * 5]? = some (.int .i64 (c i).s) ∧ cur[i * 5 + 1]? = some (.int .i64 (c i).p) ∧ cur[i * 5 + 2]? = some (.int .i64 (c i).q) ∧ cur[i * 5 + 3]? = some (.int .i64 (c i).h) ∧ cur[i * 5 + 4]? = some (.int .i64 (c i).k)
theorem Bu.kp {b : Nat} {c : Nat → Ent} {m : Int} {w w' : World} {F : List Nat} (h : Bu b c m w) (hk : Kp F w w') (hF : b ∉ F) : Bu b c m w' := by
  obtain ⟨cur, h1, h2⟩ := h.ex
  exact ⟨cur, (hk.block b (Array.getElem?_eq_some_iff.1 h1).1 hF).trans h1, h2⟩
theorem Bu.lt {b : Nat} {c : Nat → Ent} {m : Int} {w : World} (h : Bu b c m w) : b < w.heap.size := by
  obtain ⟨cur, h1, _⟩ := h.ex
  exact (Array.getElem?_eq_some_iff.1 h1).1
theorem cell_of {w : World} {b k : Nat} {t : TypeId} {cur : Array Value} {v : Value} (h : w.heap[b]? = some (.cells cur t (0, 0))) (hv : cur[k]? = some v) : w.cell? ⟨b, k, none⟩ = some v := by simp [World.cell?, h, hv]
theorem Bu.m {b : Nat} {c : Nat → Ent} {m : Int} {w : World} (h : Bu b c m w) : w.cell? ⟨b, 20480, none⟩ = some (.int .i64 m) := by
  obtain ⟨cur, h1, _, h3, _⟩ := h.ex
  exact cell_of h1 h3
theorem Bu.s {b : Nat} {c : Nat → Ent} {m : Int} {w : World} (h : Bu b c m w) (i : Nat) (hi : i < 4096) : w.cell? ⟨b, i * 5, none⟩ = some (.int .i64 (c i).s) := by
  obtain ⟨cur, h1, _, _, h4⟩ := h.ex
  exact cell_of h1 (h4 i hi).1
theorem Bu.p {b : Nat} {c : Nat → Ent} {m : Int} {w : World} (h : Bu b c m w) (i : Nat) (hi : i < 4096) : w.cell? ⟨b, i * 5 + 1, none⟩ = some (.int .i64 (c i).p) := by
  obtain ⟨cur, h1, _, _, h4⟩ := h.ex
  exact cell_of h1 (h4 i hi).2.1
theorem Bu.q {b : Nat} {c : Nat → Ent} {m : Int} {w : World} (h : Bu b c m w) (i : Nat) (hi : i < 4096) : w.cell? ⟨b, i * 5 + 2, none⟩ = some (.int .i64 (c i).q) := by
  obtain ⟨cur, h1, _, _, h4⟩ := h.ex
  exact cell_of h1 (h4 i hi).2.2.1
theorem Bu.h {b : Nat} {c : Nat → Ent} {m : Int} {w : World} (h : Bu b c m w) (i : Nat) (hi : i < 4096) : w.cell? ⟨b, i * 5 + 3, none⟩ = some (.int .i64 (c i).h) := by
  obtain ⟨cur, h1, _, _, h4⟩ := h.ex
  exact cell_of h1 (h4 i hi).2.2.2.1
theorem Bu.k {b : Nat} {c : Nat → Ent} {m : Int} {w : World} (h : Bu b c m w) (i : Nat) (hi : i < 4096) : w.cell? ⟨b, i * 5 + 4, none⟩ = some (.int .i64 (c i).k) := by
  obtain ⟨cur, h1, _, _, h4⟩ := h.ex
  exact cell_of h1 (h4 i hi).2.2.2.2
theorem Bu.froz {b : Nat} {c : Nat → Ent} {m : Int} {w : World} (h : Bu b c m w) (i : Nat) : w.frozen? ⟨b, i, none⟩ = false := by
  obtain ⟨cur, h1, _⟩ := h.ex
  simp [World.frozen?, h1]
theorem heap_set {w : World} {b k : Nat} {t : TypeId} {cur : Array Value} (h : w.heap[b]? = some (.cells cur t (0, 0))) (v : Value) : (w.setCell ⟨b, k, none⟩ v).heap[b]? = some (.cells (cur.setIfInBounds k v) t (0, 0)) := by
  unfold World.setCell
  simp [h, Array.getElem?_modify]
/-- A cell set. -/
theorem Bu.setM {b : Nat} {c : Nat → Ent} {m : Int} {w : World} (h : Bu b c m w) (n : Int) : Bu b c n (w.setCell ⟨b, 20480, none⟩ (.int .i64 n)) := by
  obtain ⟨cur, h1, h2, _, h4⟩ := h.ex
  refine ⟨_, heap_set h1 _, by simp [h2], by simp [h2], fun i hi => ?_⟩
  obtain ⟨a1, a2, a3, a4, a5⟩ := h4 i hi
  refine ⟨?_, ?_, ?_, ?_, ?_⟩ <;> (rw [Array.getElem?_setIfInBounds_ne (by omega)]; assumption)
theorem Bu.setH {b : Nat} {c : Nat → Ent} {m : Int} {w : World} (h : Bu b c m w) (i : Nat) (hi : i < 4096) (x : Int) : Bu b (setE c i ⟨(c i).s, (c i).p, (c i).q, x, (c i).k⟩) m (w.setCell ⟨b, i * 5 + 3, none⟩ (.int .i64 x)) := by
  obtain ⟨cur, h1, h2, h3, h4⟩ := h.ex
  refine ⟨_, heap_set h1 _, by simp [h2], by rw [Array.getElem?_setIfInBounds_ne (by omega)]; exact h3, fun j hj => ?_⟩
  obtain ⟨a1, a2, a3, a4, a5⟩ := h4 j hj
  by_cases e : j = i
  · subst e
    rw [setE_same]
    refine ⟨?_, ?_, ?_, ?_, ?_⟩
    · rw [Array.getElem?_setIfInBounds_ne (by omega)]; exact a1
    · rw [Array.getElem?_setIfInBounds_ne (by omega)]; exact a2
    · rw [Array.getElem?_setIfInBounds_ne (by omega)]; exact a3
    · rw [Array.getElem?_setIfInBounds_self_of_lt (by omega)]
    · rw [Array.getElem?_setIfInBounds_ne (by omega)]; exact a5
  · rw [setE_ne _ _ e]
    refine ⟨?_, ?_, ?_, ?_, ?_⟩ <;> (rw [Array.getElem?_setIfInBounds_ne (by omega)]; assumption)
theorem Bu.setK {b : Nat} {c : Nat → Ent} {m : Int} {w : World} (h : Bu b c m w) (i : Nat) (hi : i < 4096) (x : Int) : Bu b (setE c i ⟨(c i).s, (c i).p, (c i).q, (c i).h, x⟩) m (w.setCell ⟨b, i * 5 + 4, none⟩ (.int .i64 x)) := by
  obtain ⟨cur, h1, h2, h3, h4⟩ := h.ex
  refine ⟨_, heap_set h1 _, by simp [h2], by rw [Array.getElem?_setIfInBounds_ne (by omega)]; exact h3, fun j hj => ?_⟩
  obtain ⟨a1, a2, a3, a4, a5⟩ := h4 j hj
  by_cases e : j = i
  · subst e
    rw [setE_same]
    refine ⟨?_, ?_, ?_, ?_, ?_⟩
    · rw [Array.getElem?_setIfInBounds_ne (by omega)]; exact a1
    · rw [Array.getElem?_setIfInBounds_ne (by omega)]; exact a2
    · rw [Array.getElem?_setIfInBounds_ne (by omega)]; exact a3
    · rw [Array.getElem?_setIfInBounds_ne (by omega)]; exact a4
    · rw [Array.getElem?_setIfInBounds_self_of_lt (by omega)]
  · rw [setE_ne _ _ e]
    refine ⟨?_, ?_, ?_, ?_, ?_⟩ <;> (rw [Array.getElem?_setIfInBounds_ne (by omega)]; assumption)
/-- An entry's cells set, one behind the other. -/
def put5 (b i : Nat) (e : Ent) (w : World) : World := ((((w.setCell ⟨b, i * 5, none⟩ (.int .i64 e.s)).setCell ⟨b, i * 5 + 1, none⟩ (.int .i64 e.p)).setCell ⟨b, i * 5 + 2, none⟩ (.int .i64 e.q)).setCell ⟨b, i * 5 + 3, none⟩ (.int .i64 e.h)).setCell ⟨b, i * 5 + 4, none⟩ (.int .i64 e.k)
theorem Bu.put {b : Nat} {c : Nat → Ent} {m : Int} {w : World} (h : Bu b c m w) (i : Nat) (hi : i < 4096) (e : Ent) : Bu b (setE c i e) m (put5 b i e w) := by
  obtain ⟨cur, h1, h2, h3, h4⟩ := h.ex
  refine ⟨_, heap_set (heap_set (heap_set (heap_set (heap_set h1 _) _) _) _) _, by simp [h2], ?_, fun j hj => ?_⟩
  · repeat rw [Array.getElem?_setIfInBounds_ne (by omega)]
    exact h3
  · obtain ⟨a1, a2, a3, a4, a5⟩ := h4 j hj
    by_cases e1 : j = i
    · subst e1
      rw [setE_same]
      simp only [Array.getElem?_setIfInBounds, Array.size_setIfInBounds]
      have g1 : j * 5 < cur.size := by omega
      have g2 : j * 5 + 1 < cur.size := by omega
      have g3 : j * 5 + 2 < cur.size := by omega
      have g4 : j * 5 + 3 < cur.size := by omega
      have g5 : j * 5 + 4 < cur.size := by omega
      simp [g1, g2, g3, g4, g5]
    · rw [setE_ne _ _ e1]
      refine ⟨?_, ?_, ?_, ?_, ?_⟩ <;> (repeat rw [Array.getElem?_setIfInBounds_ne (by omega)]) <;> assumption
theorem Kp.put5 (b i : Nat) (e : Ent) (w : World) : Kp [b] w (put5 b i e w) := by
  unfold Go.Proofs.Ythdfaidjdddagaa.put5
  exact ((((Kp.set w b _ _).trans (Kp.set _ b _ _) (by simp)).trans (Kp.set _ b _ _) (by simp)).trans (Kp.set _ b _ _) (by simp)).trans (Kp.set _ b _ _) (by simp)

set_option maxRecDepth 100000 in
theorem sum_any (b i : Nat) (hi : i < 4096) (c : Nat → Ent) (m : Int) (w : World) (h : Bu b c m w) (hl : -4611686018427387904 ≤ (c i).h + (c i).k) (ht : (c i).h + (c i).k ≤ 4611686018427387904) : Calls Try.prog 34 #[.pointer (some ⟨b, i * 5 + 3, none⟩)] w fun e w' => e = .returned (.int .i64 ((c i).h + (c i).k)) ∧ Kp [] w w' := by
  have h3 := h.h i hi
  have h4 := h.k i hi
  clear h
  go_enter Try.func34, Try.ntmps34
  go_wp2
  go_quiet (fail)
  go_wp2
  go_ret
  exact ⟨rfl, Kp.drewQ w _⟩
set_option maxRecDepth 100000 in
theorem hold_any (b i : Nat) (hi : i < 4096) (c : Nat → Ent) (m : Int) (w : World) (h : Bu b c m w) (hl : 0 ≤ (c i).h) (ht : (c i).h ≤ 4611686018427387904) : Calls Try.prog 27 #[.pointer (some ⟨b, i * 5 + 3, none⟩)] w fun e w' => e = .returned (.tuple #[]) ∧ Bu b (hoE c i) m w' ∧ Kp [b] w w' := by
  have h3 := h.h i hi
  have h4 := h.froz (i * 5 + 3)
  have HN := hide (h.setH i hi ((c i).h + 1))
  clear h
  go_enter Try.func27, Try.ntmps27
  go_wp2
  go_end0
  exact ⟨rfl, unhide HN, Kp.set _ _ _ _⟩
end Go.Proofs.Ythdfaidjdddagaa
