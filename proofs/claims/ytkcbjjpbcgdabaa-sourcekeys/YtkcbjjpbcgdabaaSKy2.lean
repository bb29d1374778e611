/-
  A source, its keys, its ends, and offsets below them.
-/
import Derived.Test.YtkcbjjpbcgdabaaSKy1
namespace Go.Proofs.Ytkcbjjpbcgdabaa
open Go.RowKit

structure CuS (w0 w : World) (g bm be bc n : Nat) (v : Value) (ks : List ByteArray) (ps : List (List Ev)) (cs : List Nat) : Prop where
  ky : KyS w0 w g bm v ks ks ps
  ends : CBox be (intC (ps.map List.length)).toArray 3 w
  cut : CBox bc (intC cs ++ List.replicate (n - cs.length) (Value.int .i64 0)).toArray 3 w
  ne : be ≠ bc
  bc0 : w0.heap.size ≤ bc
  le : ∀ (i : Nat) (p : List Ev) (c : Nat), ps[i]? = some p → cs[i]? = some c → c ≤ p.length
  len : ps.length = n
section
variable {w0 w w' : World} {g bm be bc n : Nat} {v : Value} {ks : List ByteArray} {ps : List (List Ev)} {cs : List Nat}
theorem CuS.next (h : CuS w0 w g bm be bc n v ks ps cs) (hk : Kp [] w w') : CuS w0 w' g bm be bc n v ks ps cs :=
  ⟨h.ky.next hk, h.ends.kp hk (by simp), h.cut.kp hk (by simp), h.ne, h.bc0, h.le, h.len⟩
theorem CuS.endC (h : CuS w0 w g bm be bc n v ks ps cs) (j : Nat) (hj : j < ps.length) : w.cell? ⟨be, j, none⟩ = some (.int .i64 ((ps[j].length : Nat) : Int)) := h.ends.cell (by simp [intC, hj])
theorem CuS.zero (h : CuS w0 w g bm be bc n v ks ps cs) (hj : cs.length < n) : w.cell? ⟨bc, cs.length, none⟩ = some (.int .i64 0) := h.cut.cell (by
  rw [List.getElem?_toArray, List.getElem?_append_right (by rw [intC_length]; exact Nat.le_refl _), intC_length, Nat.sub_self, List.getElem?_replicate]
  simp; omega)
theorem CuS.cutC (h : CuS w0 w g bm be bc n v ks ps cs) (j : Nat) (hj : j < cs.length) : w.cell? ⟨bc, j, none⟩ = some (.int .i64 ((cs[j] : Nat) : Int)) := h.cut.cell (by
  rw [List.getElem?_toArray, List.getElem?_append_left (by rw [intC_length]; exact hj)]
  simp [intC, hj])
theorem cs_le {c : Nat} (hle : ∀ (i : Nat) (p : List Ev) (c : Nat), ps[i]? = some p → cs[i]? = some c → c ≤ p.length) (hj : cs.length < ps.length) (hc : c ≤ ps[cs.length].length) : ∀ (i : Nat) (p : List Ev) (d : Nat), ps[i]? = some p → (cs ++ [c])[i]? = some d → d ≤ p.length := fun i p d hp hd => by
  by_cases hi : i < cs.length
  · rw [List.getElem?_append_left hi] at hd
    exact hle i p d hp hd
  · obtain rfl : i = cs.length := by
      have := (List.getElem?_eq_some_iff.1 hd).1
      rw [List.length_append] at this
      simp at this; omega
    rw [List.getElem?_append_right (Nat.le_refl _), Nat.sub_self] at hd
    rw [List.getElem?_eq_getElem hj] at hp
    simp at hd hp
    subst hd hp
    exact hc
theorem cut_next (cs : List Nat) (n c : Nat) (h : cs.length < n) : (intC cs ++ List.replicate (n - cs.length) (Value.int .i64 0)).toArray.setIfInBounds cs.length (.int .i64 ((c : Nat) : Int)) = (intC (cs ++ [c]) ++ List.replicate (n - (cs ++ [c]).length) (Value.int .i64 0)).toArray := by
  obtain ⟨m, hm⟩ : ∃ m, n - cs.length = m + 1 := ⟨n - cs.length - 1, by omega⟩
  rw [hm, List.replicate_succ, set_mid _ _ _ _ _ (intC_length cs), List.length_append, List.length_singleton]
  have : n - (cs.length + 1) = m := by omega
  rw [this]
  unfold intC
  rw [List.map_append, List.append_assoc]
  rfl
theorem CuS.stay (h : CuS w0 w g bm be bc n v ks ps cs) (hj : cs.length < n) : CuS w0 w g bm be bc n v ks ps (cs ++ [0]) := by
  refine ⟨h.ky, h.ends, ?_, h.ne, h.bc0, cs_le h.le (by rw [h.len]; exact hj) (Nat.zero_le _), h.len⟩
  have e := cut_next cs n 0 hj
  have hb := h.cut.same (i := cs.length) (v := .int .i64 0) (by
    rw [List.getElem?_toArray, List.getElem?_append_right (by rw [intC_length]; exact Nat.le_refl _), intC_length, Nat.sub_self, List.getElem?_replicate]
    simp; omega)
  rw [← e]
  have e2 : (intC cs ++ List.replicate (n - cs.length) (Value.int .i64 0)).toArray.setIfInBounds cs.length (.int .i64 ((0 : Nat) : Int)) = (intC cs ++ List.replicate (n - cs.length) (Value.int .i64 0)).toArray := by
    apply Array.ext_getElem?
    intro j
    rw [Array.getElem?_setIfInBounds]
    by_cases hjj : cs.length = j
    · subst hjj
      have hlt : cs.length < (intC cs ++ List.replicate (n - cs.length) (Value.int .i64 0)).toArray.size := by rw [List.size_toArray, List.length_append, intC_length, List.length_replicate]; omega
      rw [if_pos rfl, if_pos hlt, List.getElem?_toArray, List.getElem?_append_right (by rw [intC_length]; exact Nat.le_refl _), intC_length, Nat.sub_self, List.getElem?_replicate, if_pos (by omega)]
      rfl
    · rw [if_neg hjj]
  rw [e2]
  exact h.cut
theorem CuS.set (h : CuS w0 w g bm be bc n v ks ps cs) (hj : cs.length < n) (c : Nat) (hc : ∀ p, ps[cs.length]? = some p → c ≤ p.length) : CuS w0 (w.setCell ⟨bc, cs.length, none⟩ (.int .i64 ((c : Nat) : Int))) g bm be bc n v ks ps (cs ++ [c]) := by
  have hk := Kp.set w bc cs.length (.int .i64 ((c : Nat) : Int))
  have hb := h.cut.set cs.length (.int .i64 ((c : Nat) : Int))
  rw [cut_next cs n c hj] at hb
  obtain ⟨F, hd, hF⟩ := h.ky.src
  obtain ⟨es, cl, hm⟩ := h.ky.seen.here
  have hjp : cs.length < ps.length := by rw [h.len]; exact hj
  refine ⟨⟨⟨F, hd.kp hk (fun k hkF hx => ?_), hF⟩, h.ky.kp.new hk h.bc0, rowKp2 h.ky.row hk (fun k hv hx => ?_), h.ky.seen.kp hk (fun hx => ?_), h.ky.bm0⟩, h.ends.kp hk (by simpa using h.ne), hb, h.ne, h.bc0, cs_le h.le hjp (hc _ (List.getElem?_eq_getElem hjp)), h.len⟩
  · simp at hx; subst hx
    exact hd.no h.cut (by decide) (by decide) (by decide) hkF
  · simp at hx; subst hx
    obtain ⟨cur, hcb⟩ := strBlock h.ky.row hv
    have h1 : w.heap[k]? = _ := hcb
    have h2 : w.heap[k]? = _ := h.cut
    rw [h1] at h2
    injection h2 with e; injection e with _ e; exact absurd e (by decide)
  · simp at hx; subst hx
    have h2 : w.heap[bm]? = _ := h.cut
    rw [hm] at h2; cases h2
end
end Go.Proofs.Ytkcbjjpbcgdabaa
