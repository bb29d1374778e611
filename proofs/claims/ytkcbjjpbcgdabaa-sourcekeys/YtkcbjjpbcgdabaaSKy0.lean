/-
  A source beside the keys that were seen: a row of them and a map.
-/
import Derived.Test.YtkcbjjpbcgdabaaSKyP
import Derived.Test.YtkcbjjpbcgdabaaDkM
import Derived.Test.YtkcbjjpbcgdabaaSoM
import Derived.Test.YtkcbjjpbcgdabaaEvsIn
namespace Go.Proofs.Ytkcbjjpbcgdabaa
open Go.RowKit

theorem info_str1 : (Try.prog.info? 9).map (fun i => (i.zero, i.size, i.bytes)) = some (some (.string ⟨#[]⟩), 1, 16) := by kernel_rfl
/-- The map has just these keys. -/
def SeenIs (w : World) (b : Nat) (ks : List ByteArray) : Prop := ∃ l clock, MapIs w b l clock ∧ (∀ x ∈ l, x.v = .bool true) ∧ ∀ s, s ∈ l.map Ent.nm ↔ s ∈ ks
theorem SeenIs.lt {w : World} {b : Nat} {ks : List ByteArray} (h : SeenIs w b ks) : b < w.heap.size := let ⟨_, _, h1, _⟩ := h; h1.lt
theorem SeenIs.kp {F : List Nat} {w w' : World} {b : Nat} {ks : List ByteArray} (h : SeenIs w b ks) (hk : Kp F w w') (hF : b ∉ F) : SeenIs w' b ks := by
  obtain ⟨l, c, h1, h2, h3⟩ := h
  exact ⟨l, c, ⟨(hk.block b h1.lt hF).trans h1.here, h1.nm, h1.born, h1.old⟩, h2, h3⟩
theorem SeenIs.new (w : World) : SeenIs (w.alloc (.map #[] 0)) w.heap.size [] := ⟨[], 0, ⟨heap_alloc_new w _, by simp, by simp, by simp⟩, by simp, by simp⟩
theorem SeenIs.here {w : World} {b : Nat} {ks : List ByteArray} (h : SeenIs w b ks) : ∃ es c, w.heap[b]? = some (.map es c) := let ⟨_, _, h1, _⟩ := h; ⟨_, _, h1.here⟩
theorem SeenIs.look {w : World} {b : Nat} {ks : List ByteArray} (h : SeenIs w b ks) (s : ByteArray) : (Instr.lookup 66 (.map (some b)) (.string s) false).run Try.prog w = .ok (.bool (kHas ks s)) w := by
  obtain ⟨l, c, h1, h2, h3⟩ := h
  have hz : (zeroValue 4).run Try.prog w = .ok (.bool false) w := by kernel_rfl
  cases hf : findE l s with
  | none =>
    have hk : kHas ks s = false := by
      rw [Bool.eq_false_iff]
      intro hh
      obtain ⟨x, hx, he⟩ := List.mem_map.1 ((h3 s).2 ((kHas_iff _ _).1 hh))
      exact findE_none hf x hx he
    have h4 := MapKept.run_findKey (P := Try.prog) (w := w) Try.underlying9 (findNow_no (findE_none hf) 0)
    simp [Instr.lookup, run_underlying Try.underlying66, MapKept.run_getObj_map h1.here, checkStr Try.underlying9, h4, hz, Result.andThen, hk]
  | some x =>
    obtain ⟨hx, rfl⟩ := findE_some hf
    have hk : kHas ks x.nm = true := (kHas_iff _ _).2 ((h3 _).1 (List.mem_map.2 ⟨x, hx, rfl⟩))
    have hv := h2 x hx
    obtain ⟨a, c', rfl, ha, hb⟩ := split_nm h1.nm hx
    have h4 := MapKept.run_findKey (P := Try.prog) (w := w) Try.underlying9 (findNow_yes (b := c') ha 0)
    simp [Instr.lookup, run_underlying Try.underlying66, MapKept.run_getObj_map h1.here, checkStr Try.underlying9, Result.andThen]
    simp at h4
    simp [h4, hv, hk]
theorem SeenIs.store {w : World} {b : Nat} {ks : List ByteArray} (h : SeenIs w b ks) (s : ByteArray) : ∃ w', (Instr.mapUpdate 66 (.map (some b)) (.string s) (.bool true)).run Try.prog w = .ok () w' ∧ SeenIs w' b (kAdd ks s) ∧ w.grownBy w' (some b) := by
  obtain ⟨l, c, h1, h2, h3⟩ := h
  obtain ⟨w', c', hr, r1, r2, _⟩ := h1.store (P := Try.prog) Try.underlying66 Try.underlying9 s (.bool true) []
  refine ⟨w', hr, ⟨_, c', r1, fun x hx => ?_, fun t => ?_⟩, r2⟩
  · rcases putE_mem h1.nm hx with h4 | h4
    · exact h2 x h4.1
    · exact h4.2.2
  · rw [kAdd_mem, ← h3]
    constructor
    · intro ht
      obtain ⟨x, hx, rfl⟩ := List.mem_map.1 ht
      rcases putE_mem h1.nm hx with h4 | h4
      · exact Or.inr (List.mem_map.2 ⟨x, h4.1, rfl⟩)
      · exact Or.inl h4.1
    · intro ht
      cases hf : findE l s with
      | none =>
        rw [putE_none hf, List.map_append, List.mem_append]
        rcases ht with rfl | ht
        · exact Or.inr (by simp)
        · exact Or.inl ht
      | some x =>
        obtain ⟨hx, rfl⟩ := findE_some hf
        obtain ⟨a, d, rfl, ha, hb⟩ := split_nm h1.nm hx
        rw [putE_some ha hb]
        simp only [List.map_append, List.map_cons, List.mem_append, List.mem_cons] at ht ⊢
        rcases ht with rfl | ht
        · exact Or.inr (Or.inl rfl)
        · exact ht
end Go.Proofs.Ytkcbjjpbcgdabaa
