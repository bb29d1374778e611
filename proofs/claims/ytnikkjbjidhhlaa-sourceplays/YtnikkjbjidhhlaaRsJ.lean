/-
  The document's Put, whatever the event.
-/
import Derived.Test.YtnikkjbjidhhlaaSpA
import Derived.Deep.RegionHeld3
namespace Go.Proofs.Ytnikkjbjidhhlaa
open Go.RowKit

set_option maxHeartbeats 1000000 in
set_option maxRecDepth 100000 in
theorem refPut_not (g : Nat) (e : Ev) (w : World) (hok : e.ok) (hm : e.may = false) :
    Calls Try.prog 17 #[.pointer (some ⟨g, 0, none⟩), .agg e.c] w fun r w' => r = .returned (.tuple #[.int .i64 0, .int .i64 0, .int .i64 20]) ∧ Kp [] w w' := by
  have MY := hide (fun W => refMayE_any e W hok)
  rw [hm] at MY
  obtain ⟨ek, et, n0, n1, n2, n3, ex⟩ := e
  unfold Ev.c at *
  dsimp only at *
  go_enter Try.func17, Try.ntmps17
  go_wp2_with fail
  refine (unhide MY _).mono ?_
  rintro r w1 ⟨rfl, rfl⟩
  go_wp2
  go_ret3
  exact ⟨rfl, (Kp.alloc _ _).trans (Kp.alloc _ _) (by simp)⟩
set_option maxHeartbeats 1000000 in
set_option maxRecDepth 100000 in
theorem refPut_full (g q : Nat) (vs : List Value) (ps : List (List Ev)) (e : Ev) (w : World) (h : RsV w g q vs ps) (hok : e.ok) (hm : e.may = true) (hi : puP ps e < ps.length) (hl : ¬ ps[puP ps e].length < 4096) :
    Calls Try.prog 17 #[.pointer (some ⟨g, 0, none⟩), .agg e.c] w fun r w' => r = .returned (.tuple #[.int .i64 0, .int .i64 0, .int .i64 2]) ∧ Kp [] w w' := by
  have MY := hide (fun W => refMayE_any e W hok)
  rw [hm] at MY
  have hn1 := h.pos
  have hn2 := h.few
  have PT := hide (fun W => refPart_any e.k ps.length W hn1 hn2 hok.1)
  have hpp : partOf ps.length e.k = puP ps e := rfl
  rw [hpp] at PT
  obtain ⟨ad, cap, hx1, hv0, hx2⟩ := h.at (puP ps e) hi
  have HRD : Hid (∀ W, Kp [] w W → W.cell? ⟨g, 0, none⟩ = some (.slice (some ⟨q, 0, none⟩) ps.length ps.length) ∧ W.cell? ⟨q, puP ps e, none⟩ = some (.slice ad ps[puP ps e].length cap)) := hide (fun W hk => ⟨(h.kp hk (by simp)).cells, hk.cell hx1 (by simp)⟩)
  have hlm := h.lim _ (List.getElem_mem hi)
  have hpi : (puP ps e : Int) < (ps.length : Int) := by omega
  clear hx1 hv0 hx2 h hm hpp hok
  generalize puP ps e = p at *
  generalize ps[p].length = m at *
  clear hi
  generalize ps.length = n at *
  have hbx := CBox.new w e.c 45
  have hk0 := Kp.alloc w (.cells e.c 45)
  have hk1 := Kp.alloc (w.alloc (.cells e.c 45)) (.cells e.c 45)
  have hbx2 := hbx.kp hk1 (by simp)
  have hk2 := hk0.trans hk1 (by simp)
  clear hbx hk0 hk1
  obtain ⟨ek, et, n0, n1, n2, n3, ex⟩ := e
  unfold Ev.c at *
  dsimp only at *
  obtain rfl : m = 4096 := by omega
  go_enter Try.func17, Try.ntmps17
  go_wp2_with fail
  refine (unhide MY _).mono ?_
  rintro r w1 ⟨rfl, rfl⟩
  generalize (w.alloc (.cells #[.string ek, .string et, .int .i64 n0, .int .i64 n1, .int .i64 n2, .int .i64 n3, .string ex] 45)).alloc (.cells #[.string ek, .string et, .int .i64 n0, .int .i64 n1, .int .i64 n2, .int .i64 n3, .string ex] 45) = W2 at *
  have HK2 := hide hk2
  have cS : W2.drew.cell? ⟨w.heap.size, 0, none⟩ = some (.string ek) ∧ W2.drew.cell? ⟨g, 0, none⟩ = some (.slice (some ⟨q, 0, none⟩) n n) := ⟨hbx2.cell rfl, (unhide HRD _ hk2).1⟩
  clear hk2 hbx2 MY
  go_wp2
  go_region_held3 (fun W => W.cell? ⟨w.heap.size, 0, none⟩ = some (.string ek) ∧ W.cell? ⟨g, 0, none⟩ = some (.slice (some ⟨q, 0, none⟩) n n))
    (first | with_reducible exact cS)
    (first
      | (go_at_call 26; refine (unhide PT _).mono ?_; rintro r w3 ⟨rfl, rfl⟩))
  clear PT cS
  have K3 := hide ((unhide HK2).trans (Kp.drew W2) (by simp))
  clear HK2
  generalize W2.drew = W3 at *
  have r3 := unhide HRD W3 (unhide K3)
  go_wp2
  go_ret3
  exact ⟨rfl, unhide K3⟩
/-- What is still to be shown of it: where all goes well. -/
def RefPutOk : Prop := ∀ (g q : Nat) (vs : List Value) (ps : List (List Ev)) (e : Ev) (w : World), RsV w g q vs ps → e.ok → e.may = true → ∀ (hi : puP ps e < ps.length), ps[puP ps e].length < 4096 →
  Calls Try.prog 17 #[.pointer (some ⟨g, 0, none⟩), .agg e.c] w fun r w' => r = .returned (.tuple #[.int .i64 (puP ps e : Int), .int .i64 (ps[puP ps e].length : Int), .int .i64 0]) ∧ ∃ vs', RsV w' g q vs' (soAdd ps (puP ps e) e) ∧ Kp [q] w w' ∧ ∀ k ∈ soF g q vs', k ∈ soF g q vs ∨ w.heap.size ≤ k
theorem refPut_all (RO : RefPutOk) : RefPut := fun g q vs ps e w h hok => by
  have hi : puP ps e < ps.length := partOf_lt _ h.pos _
  have hget : (ps[puP ps e]?.getD []) = ps[puP ps e] := by rw [List.getElem?_eq_getElem hi]; rfl
  cases hm : e.may with
  | false =>
    have hE : puE ps e = 20 := by unfold puE; rw [if_neg (by rw [hm]; decide)]
    have hA : puA ps e = 0 := by unfold puA; rw [if_neg (by rw [hE]; decide)]
    have hO : puO ps e = 0 := by unfold puO; rw [if_neg (by rw [hE]; decide)]
    have hS : puS ps e = ps := by unfold puS; rw [if_neg (by rw [hE]; decide)]
    rw [hE, hA, hO, hS]
    exact (refPut_not g e w hok hm).mono fun r w' ⟨h1, hk⟩ => ⟨h1, vs, h.kp hk (by simp), hk.mono (by simp), fun k hk => Or.inl hk⟩
  | true =>
    by_cases hl : ps[puP ps e].length < 4096
    · have hE : puE ps e = 0 := by unfold puE; rw [if_pos hm, hget, if_pos hl]
      have hA : puA ps e = (puP ps e : Int) := by unfold puA; rw [if_pos hE]
      have hO : puO ps e = (ps[puP ps e].length : Int) := by unfold puO; rw [if_pos hE, hget]
      have hS : puS ps e = soAdd ps (puP ps e) e := by unfold puS; rw [if_pos hE]
      rw [hE, hA, hO, hS]
      exact RO g q vs ps e w h hok hm hi hl
    · have hE : puE ps e = 2 := by unfold puE; rw [if_pos hm, hget, if_neg hl]
      have hA : puA ps e = 0 := by unfold puA; rw [if_neg (by rw [hE]; decide)]
      have hO : puO ps e = 0 := by unfold puO; rw [if_neg (by rw [hE]; decide)]
      have hS : puS ps e = ps := by unfold puS; rw [if_neg (by rw [hE]; decide)]
      rw [hE, hA, hO, hS]
      exact (refPut_full g q vs ps e w h hok hm hi hl).mono fun r w' ⟨h1, hk⟩ => ⟨h1, vs, h.kp hk (by simp), hk.mono (by simp), fun k hk => Or.inl hk⟩
end Go.Proofs.Ytnikkjbjidhhlaa
