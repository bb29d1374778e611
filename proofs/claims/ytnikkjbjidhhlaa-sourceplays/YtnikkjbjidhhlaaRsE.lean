/-
  The document's source: Ends.
-/
import Derived.Test.YtnikkjbjidhhlaaRsA
import Derived.Test.YtnikkjbjidhhlaaSoF
import Derived.OwnWalk
namespace Go.Proofs.Ytnikkjbjidhhlaa
open Go.RowKit

set_option maxHeartbeats 2000000 in
set_option maxRecDepth 100000 in
theorem refEnds_any (g q : Nat) (vs : List Value) (ps : List (List Ev)) (w : World) (h : RsV w g q vs ps) :
    Calls Try.prog 29 #[.pointer (some ⟨g, 0, none⟩)] w fun r w' => ∃ v, r = .returned v ∧ w'.ownsRow w.heap.size 3 1 v ps.length (intC (ps.map List.length)) ∧ Kp [] w w' := by
  have h1 := h.pos
  have h2 := h.few
  have HC := hide (fun W (hW : Kp [] w W) => (h.kp hW (by simp)).cells)
  have HAT := hide (fun W (hW : Kp [] w W) j (hj : j < ps.length) => (h.kp hW (by simp)).at j hj)
  have HLM := hide (fun j (hj : j < ps.length) => h.lim _ (List.getElem_mem hj))
  obtain ⟨i0, hi, hz0, hz1, hz2⟩ := info_parts info_int
  clear h
  go_enter Try.func29, Try.ntmps29
  go_wp2_with fail
  go_loopw [3, 4] (fun v i wr => ∃ k : Nat, k ≤ ps.length ∧ i = .int .i64 (k : Int) ∧ wr.ownsRow w.heap.size 3 1 v k (intC ((ps.map List.length).take k)) ∧ Kp [] w wr) (fun _ i _ => ps.length - (intOf i).toNat)
  case atStart => exact ⟨0, Nat.zero_le _, rfl, World.ownsRow_nil _ _ _ _, Kp.refl _ _⟩
  case round =>
    obtain ⟨k, hk, rfl, ow, kp⟩ := hrel
    have c0 := unhide HC wr kp
    by_cases hlt : k < ps.length
    · have hli : (k : Int) < (ps.length : Int) := by omega
      obtain ⟨ad, cap, c1, _, _⟩ := unhide HAT wr kp k hlt
      have hL := unhide HLM k hlt
      have HN : Hid (intC ((ps.map List.length).take (k + 1)) = intC ((ps.map List.length).take k) ++ [.int .i64 ((ps[k].length : Nat) : Int)]) := hide (by
        rw [List.take_succ_eq_append_getElem (by simpa using hlt)]
        unfold intC
        rw [List.map_append]
        simp)
      have hzs := kp.size
      rename_i hx1 hx2
      clear hx1 hx2 HC HAT HLM
      generalize ps[k].length = m at *
      have ow2 := World.ownsRow.alloc ow (.cells #[.int .i64 (m : Int)] 3)
      go_wp2_with (at_builtin; refine wpList_append_own _ rfl _ _ 34 rfl w.heap.size 3 i0 (.int .i64 0) 1 8 Try.underlying34 hi hz0 hz1 hz2 rfl (by decide) _ _ _ rfl ow2 ⟨wr.heap.size, 0, none⟩ 1 1 [.int .i64 (m : Int)] rfl rfl ?c1 ?c2 ?c3 ?c4 ?c5 ?_)
      case c1 => exact one_new _ _ _
      case c2 => intro u hu; simp at hu; subst hu; rfl
      case c3 => unfold maxLen; omega
      case c4 => omega
      case c5 => simp; omega
      intro v3 w3 ow3 hg3 _
      have ow4 : w3.ownsRow w.heap.size 3 1 v3 (k + 1) (intC ((ps.map List.length).take (k + 1))) := by
        rw [unhide HN]; exact ow3
      have kp3 := (kp.trans (Kp.alloc wr (.cells #[.int .i64 (m : Int)] 3)) (by simp)).trans (Kp.of hg3) (fun x hx => Or.inr ((World.ownsRow.lt ow2 x (by simpa using hx)).1))
      have OW4 := hide ow4
      have KP3 := hide kp3
      clear ow3 hg3 ow2 ow4 HN ow kp kp3
      go_wp2
      go_roundw
      case rel => exact ⟨k + 1, by omega, by go_num, unhide OW4, unhide KP3⟩
      case measure => simp [intOf]; omega
    · obtain rfl : k = ps.length := by omega
      rw [List.take_of_length_le (by simp)] at ow
      have hkk : ¬ (ps.length : Int) < (ps.length : Int) := by omega
      clear HC HAT HLM
      go_wp2
      go_ret
      exact ⟨_, rfl, ow, kp⟩
end Go.Proofs.Ytnikkjbjidhhlaa
