/-
  A source: New, end, isOffset.
-/
import Derived.Test.YtnikkjbjidhhlaaSoB
namespace Go.Proofs.Ytnikkjbjidhhlaa
open Go.RowKit

theorem end_any (g q : Nat) (vs : List Value) (ps : List (List Ev)) (i : Nat) (hi : i < ps.length) (w : World) (h : SrcV w g q vs ps) :
    Calls Try.prog 41 #[.pointer (some ⟨g, 0, none⟩), .int .i64 (i : Int)] w fun r w' => r = .returned (.int .i64 ((ps[i]).length : Int)) ∧ w' = w := by
  have c0 := h.cells
  obtain ⟨ad, cap, c1, hx, hy⟩ := h.at i hi
  have hf := h.few
  clear hx hy h
  generalize ps[i].length = m at *
  generalize ps.length = n at *
  go_enter Try.func41, Try.ntmps41
  go_wp2
  go_ret
  exact ⟨rfl, rfl⟩
def offB (m : Nat) (o : Int) : Bool := decide (0 ≤ o) && decide (o ≤ (m : Int))
theorem isOffset_any (g q : Nat) (vs : List Value) (ps : List (List Ev)) (i : Nat) (hi : i < ps.length) (o : Int) (w : World) (h : SrcV w g q vs ps) :
    Calls Try.prog 44 #[.pointer (some ⟨g, 0, none⟩), .int .i64 (i : Int), .int .i64 o] w fun r w' => r = .returned (.bool (offB (ps[i]).length o)) ∧ w' = w := by
  have EN := hide (end_any g q vs ps i hi w h)
  have hl : ps[i].length ≤ 4096 := h.lim _ (List.getElem_mem _)
  unfold offB
  clear h
  generalize ps[i].length = m at *
  by_cases h1 : 0 ≤ o
  · by_cases h2 : o ≤ (m : Int)
    · go_enter Try.func44, Try.ntmps44
      go_wp2_with fail
      refine (unhide EN).mono ?_
      rintro r w' ⟨rfl, rfl⟩
      go_wp2
      go_ret
      exact ⟨ret_bool (by rw [decide_eq_true h1, decide_eq_true h2]; rfl), rfl⟩
    · go_enter Try.func44, Try.ntmps44
      go_wp2_with fail
      refine (unhide EN).mono ?_
      rintro r w' ⟨rfl, rfl⟩
      go_wp2
      go_ret
      exact ⟨ret_bool (by rw [decide_eq_false (by omega : ¬ o ≤ (m : Int)), Bool.and_false]), rfl⟩
  · go_enter Try.func44, Try.ntmps44
    go_wp2
    go_ret
    exact ⟨ret_bool (by rw [decide_eq_false (by omega : ¬ 0 ≤ o), Bool.false_and]), rfl⟩
/-- A source of n partitions without events. -/
def soNew (n : Nat) : List (List Ev) := List.replicate n []
theorem soNew_len (n : Nat) : (soNew n).length = n := by unfold soNew; simp
theorem SrcV.new (w : World) (g q n : Nat) (h1 : 1 ≤ n) (h2 : n ≤ 16) (hq : CBox q (List.replicate n (Value.slice none 0 0)).toArray 51 w) (hg : CBox g #[.slice (some ⟨q, 0, none⟩) n n] 78 w) : SrcV w g q (List.replicate n (.slice none 0 0)) (soNew n) := by
  refine ⟨by rw [soNew_len]; exact hg, hq, by rw [soNew_len]; simp, by rw [soNew_len]; exact h1, by rw [soNew_len]; exact h2, ?_, ?_, ?_, ?_⟩
  · intro i v p hv hp
    have e1 := List.mem_of_getElem? hv
    have e2 := List.mem_of_getElem? hp
    unfold soNew at e2
    rw [List.mem_replicate] at e1 e2
    rw [e1.2, e2.2]
    exact EvRow.nil w
  · intro i j u v b hu hv hb
    have e1 := List.mem_of_getElem? hu
    rw [List.mem_replicate] at e1
    rw [e1.2] at hb
    simp [Value.ownBlock] at hb
  · intro p hp
    unfold soNew at hp
    rw [List.mem_replicate] at hp
    rw [hp.2]; simp
  · intro p hp e he
    unfold soNew at hp
    rw [List.mem_replicate] at hp
    rw [hp.2] at he; simp at he
theorem made_one (x : Value) (n : Nat) : madeCells #[x] n = (List.replicate n x).toArray := by
  apply Array.ext_getElem?
  intro j
  unfold madeCells
  by_cases hj : j < n
  · simp [hj, Nat.mod_one]
  · simp [hj]
theorem info_events : (Try.prog.info? 51).map (fun i => (i.zero, i.size, i.bytes)) = some (some (.slice none 0 0), 1, 24) := by kernel_rfl
theorem mk_parts (n : Nat) (hn : n ≤ 16) (W : World) : (Instr.makeSlice 63 (.int .i64 (n : Int)) (.int .i64 (n : Int))).run Try.prog W = .ok (.slice (some ⟨W.heap.size, 0, none⟩) n n) (W.alloc (.cells (Array.replicate n (Value.slice none 0 0)) 51)) := by
  obtain ⟨i0, hi, hz0, hz1, hz2⟩ := info_parts info_events
  have := run_make (P := Try.prog) W 63 51 i0 (.slice none 0 0) Try.underlying63 hi hz0 .i64 .i64 (n : Int) (n : Int) (by omega) (by omega) (by rw [hz2]; omega) (by omega)
  rw [hz1] at this
  simp only [Int.toNat_natCast, Nat.mul_one] at this
  rw [this]
  show _ = Result.ok _ (W.alloc (.cells (List.replicate n (Value.slice none 0 0)).toArray _))
  rw [← made_one]
  rfl
set_option maxHeartbeats 1000000 in
set_option maxRecDepth 100000 in
theorem snew_ok (n : Nat) (h1 : 1 ≤ n) (h2 : n ≤ 16) (w : World) :
    Calls Try.prog 13 #[.int .i64 (n : Int)] w fun r w' => r = .returned (.tuple #[.pointer (some ⟨w.heap.size + 1, 0, none⟩), .int .i64 0]) ∧ SrcV w' (w.heap.size + 1) w.heap.size (List.replicate n (.slice none 0 0)) (soNew n) ∧ Kp [] w w' := by
  have hmk := mk_parts n h2
  go_enter Try.func13, Try.ntmps13
  go_wp2
  go_ret2
  have hq := CBox.new w (Array.replicate n (Value.slice none 0 0)) 51
  have k1 := Kp.alloc w (.cells (Array.replicate n (Value.slice none 0 0)) 51)
  have hz : (w.alloc (.cells (Array.replicate n (Value.slice none 0 0)) 51)).heap.size = w.heap.size + 1 := by simp
  generalize w.alloc (.cells (Array.replicate n (Value.slice none 0 0)) 51) = W1 at *
  have hg := CBox.new W1 #[.slice (some ⟨w.heap.size, 0, none⟩) n n] 78
  have k2 := Kp.alloc W1 (.cells #[.slice (some ⟨w.heap.size, 0, none⟩) n n] 78)
  rw [hz] at hg
  exact ⟨rfl, SrcV.new _ _ _ n h1 h2 (hq.kp k2 (by simp)) hg, k1.trans k2 (by simp)⟩
end Go.Proofs.Ytnikkjbjidhhlaa
