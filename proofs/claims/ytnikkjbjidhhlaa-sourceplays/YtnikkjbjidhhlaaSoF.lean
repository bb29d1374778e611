/-
  A source: Ends; copies of rows of events.
-/
import Derived.Test.YtnikkjbjidhhlaaSoD
namespace Go.Proofs.Ytnikkjbjidhhlaa
open Go.RowKit

theorem info_int : (Try.prog.info? 3).map (fun i => (i.zero, i.size, i.bytes)) = some (some (.int .i64 0), 1, 8) := by kernel_rfl
theorem mk_ints (n : Nat) (hn : n ≤ 1000) (W : World) : (Instr.makeSlice 34 (.int .i64 (n : Int)) (.int .i64 (n : Int))).run Try.prog W = .ok (.slice (some ⟨W.heap.size, 0, none⟩) n n) (W.alloc (.cells (Array.replicate n (Value.int .i64 0)) 3)) := by
  obtain ⟨i0, hi, hz0, hz1, hz2⟩ := info_parts info_int
  have := run_make (P := Try.prog) W 34 3 i0 (.int .i64 0) Try.underlying34 hi hz0 .i64 .i64 (n : Int) (n : Int) (by omega) (by omega) (by rw [hz2]; omega) (by omega)
  rw [hz1] at this
  simp only [Int.toNat_natCast, Nat.mul_one] at this
  rw [this]
  show _ = Result.ok _ (W.alloc (.cells (List.replicate n (Value.int .i64 0)).toArray _))
  rw [← made_one]
  rfl
theorem set_mid (A B : List Value) (x y : Value) (o : Nat) (ho : A.length = o) : (A ++ x :: B).toArray.setIfInBounds o y = (A ++ y :: B).toArray := by
  subst ho
  simp
/-- Numbers as cells. -/
def intC (l : List Nat) : List Value := l.map fun (n : Nat) => .int .i64 (n : Int)
theorem intC_length (l : List Nat) : (intC l).length = l.length := by unfold intC; simp
/-- A row of numbers, the first k set. -/
def endsC (l : List Nat) (k : Nat) : Array Value := (intC (l.take k) ++ List.replicate (l.length - k) (Value.int .i64 0)).toArray
theorem endsC_zero (l : List Nat) : endsC l 0 = Array.replicate l.length (Value.int .i64 0) := by unfold endsC intC; simp
theorem endsC_all (l : List Nat) : endsC l l.length = (intC l).toArray := by unfold endsC; simp
theorem endsC_next (l : List Nat) (k : Nat) (hk : k < l.length) : (endsC l k).setIfInBounds k (.int .i64 (l[k] : Int)) = endsC l (k + 1) := by
  unfold endsC
  obtain ⟨m, hm⟩ : ∃ m, l.length - k = m + 1 := ⟨l.length - k - 1, by omega⟩
  rw [hm, List.replicate_succ, set_mid _ _ _ _ k (by rw [intC_length, List.length_take]; omega)]
  have : l.length - (k + 1) = m := by omega
  rw [this, List.take_succ_eq_append_getElem hk]
  unfold intC
  rw [List.map_append, List.append_assoc]
  rfl
set_option maxHeartbeats 1000000 in
set_option maxRecDepth 100000 in
theorem ends_any (g q : Nat) (vs : List Value) (ps : List (List Ev)) (w : World) (h : SrcV w g q vs ps) :
    Calls Try.prog 27 #[.pointer (some ⟨g, 0, none⟩)] w fun r w' => r = .returned (.slice (some ⟨w.heap.size, 0, none⟩) ps.length ps.length) ∧ CBox w.heap.size (intC (ps.map List.length)).toArray 3 w' ∧ Kp [] w w' := by
  have c0 := h.cells
  have h1 := h.pos
  have h2 := h.few
  have EN := hide (fun i hi W (hW : Kp [] w W) => end_any g q vs ps i hi W (h.kp hW (by simp)))
  have hmk := mk_ints ps.length (by omega)
  have HC := hide (fun W (hW : Kp [] w W) => (h.kp hW (by simp)).cells)
  have HE := hide (fun k (hk : k < ps.length) => endsC_next (ps.map List.length) k (by simpa using hk))
  have b0 := CBox.new w (Array.replicate ps.length (Value.int .i64 0)) 3
  have e0 := endsC_zero (ps.map List.length)
  rw [List.length_map] at e0
  rw [← e0] at b0 hmk
  have k0 := Kp.alloc w (.cells (endsC (ps.map List.length) 0) 3)
  have c1 := (h.kp k0 (by simp)).cells
  have HALL := hide (endsC_all (ps.map List.length))
  clear h e0
  go_enter Try.func27, Try.ntmps27
  go_wp2_with fail
  generalize w.alloc (.cells (endsC (ps.map List.length) 0) 3) = W1 at *
  go_wp2_with fail
  go_loopw [16] (fun i wr => ∃ k : Nat, k ≤ ps.length ∧ i = .int .i64 (k : Int) ∧ CBox w.heap.size (endsC (ps.map List.length) k) 3 wr ∧ Kp [] w wr) (fun i _ => ps.length - (intOf i).toNat)
  case atStart => exact ⟨0, Nat.zero_le _, rfl, b0, k0⟩
  case round =>
    clear b0 k0 c1 c0
    obtain ⟨k, hk, rfl, bx, kp⟩ := hrel
    by_cases hlt : k < ps.length
    · have en := hide (unhide EN k hlt wr kp)
      have hn := unhide HE k hlt
      have hli : (k : Int) < (ps.length : Int) := by omega
      have cc := bx.cell (i := k) (v := .int .i64 0) (by
        unfold endsC
        have e : (intC (List.take k (ps.map List.length))).length = k := by rw [intC_length, List.length_take, List.length_map]; omega
        rw [List.getElem?_toArray, List.getElem?_append_right (by omega), e, List.getElem?_replicate]
        simp; omega)
      have fz := bx.froz k
      have HBX := hide bx
      have HN := hide hn
      have HKP := hide kp
      clear hn bx kp EN HE HC HALL
      go_wp2_with fail
      refine (unhide en).mono ?_
      rintro r w2 ⟨rfl, rfl⟩
      go_wp2
      go_roundw
      case rel =>
        refine ⟨k + 1, by omega, by go_num, ?_, (unhide HKP).trans (Kp.set w2 _ _ _) (by simp)⟩
        have := (unhide HBX).set k (.int .i64 ((ps[k].length : Nat) : Int))
        have hh := unhide HN
        rw [List.getElem_map] at hh
        rw [hh] at this
        exact this
      case measure => simp [intOf]; omega
    · obtain rfl : k = ps.length := by omega
      have hall := unhide HALL
      rw [List.length_map] at hall
      rw [hall] at bx
      clear hall HALL EN HE HC
      go_wp2
      go_ret
      exact ⟨rfl, bx, kp⟩
end Go.Proofs.Ytnikkjbjidhhlaa
