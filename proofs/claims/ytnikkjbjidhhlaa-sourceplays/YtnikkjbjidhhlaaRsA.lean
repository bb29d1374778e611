/-
  The document's source: PartOf, New.
-/
import Derived.Test.YtnikkjbjidhhlaaSoC
import Derived.Test.YtnikkjbjidhhlaaRefMy
namespace Go.Proofs.Ytnikkjbjidhhlaa
open Go.RowKit

set_option maxHeartbeats 1000000 in
set_option maxRecDepth 100000 in
theorem refPart_any (s : ByteArray) (n : Nat) (w : World) (h1 : 1 ≤ n) (h2 : n ≤ 16) (hs : s.size ≤ 9223372036854775807) :
    Calls Try.prog 26 #[.string s, .int .i64 (n : Int)] w fun r w' => r = .returned (.int .i64 ((partOf n s : Nat) : Int)) ∧ w' = w := by
  generalize hR : partOf n s = R
  have HR := hide hR
  clear hR
  go_enter Try.func26, Try.ntmps26
  go_wp2_with fail
  go_loop [5, 6] (fun p i => ∃ k a : Nat, k ≤ s.size ∧ p = .int .i64 (a : Int) ∧ i = .int .i64 (k : Int) ∧ a < n ∧ Hid (partN n (s.data.toList.drop k) a = R)) (fun _ i => s.size - (intOf i).toNat)
  case atStart => exact ⟨0, 0, Nat.zero_le _, rfl, rfl, by omega, hide (by simpa [partOf] using unhide HR)⟩
  case round =>
    obtain ⟨k, a, hk, rfl, rfl, ha, HK⟩ := hrel
    by_cases hlt : k < s.size
    · have hK := unhide HK
      rw [drop_get s k hlt, partN] at hK
      have hb := s[k].toNat_lt
      have HK2 := hide hK
      clear hK HK HR
      have hm : (a + s[k].toNat) % n < n := Nat.mod_lt _ (by omega)
      have hn0 : ((n : Int) == 0) = false := beq_eq_false_iff_ne.2 (by omega)
      go_wp2
      go_round
      case rel => exact ⟨k + 1, (a + s[k].toNat) % n, by omega, by go_num, by go_num, hm, HK2⟩
      case measure => simp [intOf]; omega
    · have hK := unhide HK
      rw [List.drop_of_length_le (by rw [Array.length_toList]; exact Nat.le_of_not_lt hlt), partN] at hK
      subst hK
      clear HK HR
      go_wp2
      go_ret
      exact ⟨rfl, rfl⟩
/-- The document's source lies there. -/
structure RsV (w : World) (g q : Nat) (vs : List Value) (ps : List (List Ev)) : Prop where
  box : CBox g #[.slice (some ⟨q, 0, none⟩) ps.length ps.length] 80 w
  row : CBox q vs.toArray 51 w
  len : vs.length = ps.length
  pos : 1 ≤ ps.length
  few : ps.length ≤ 16
  inn : ∀ (i : Nat) (v : Value) (p : List Ev), vs[i]? = some v → ps[i]? = some p → EvRow w v p
  lim : ∀ p ∈ ps, p.length ≤ 4096
theorem RsV.kp {F : List Nat} {w w' : World} {g q : Nat} {vs : List Value} {ps : List (List Ev)} (h : RsV w g q vs ps) (hk : Kp F w w') (hF : ∀ k ∈ soF g q vs, k ∉ F) : RsV w' g q vs ps :=
  ⟨h.box.kp hk (hF g (by simp [soF])), h.row.kp hk (hF q (by simp [soF])), h.len, h.pos, h.few, fun i v p hv hp => (h.inn i v p hv hp).kp hk (fun k hk1 => hF k (by unfold soF; exact List.mem_cons_of_mem _ (List.mem_cons_of_mem _ (List.mem_filterMap.2 ⟨v, List.mem_of_getElem? hv, hk1⟩)))), h.lim⟩
theorem RsV.cells {w : World} {g q : Nat} {vs : List Value} {ps : List (List Ev)} (h : RsV w g q vs ps) : w.cell? ⟨g, 0, none⟩ = some (.slice (some ⟨q, 0, none⟩) ps.length ps.length) := h.box.cell rfl
theorem RsV.at {w : World} {g q : Nat} {vs : List Value} {ps : List (List Ev)} (h : RsV w g q vs ps) (i : Nat) (hi : i < ps.length) : ∃ ad cap, w.cell? ⟨q, i, none⟩ = some (.slice ad (ps[i]).length cap) ∧ vs[i]? = some (.slice ad (ps[i]).length cap) ∧ EvRow w (.slice ad (ps[i]).length cap) ps[i] := by
  have hv : i < vs.length := by rw [h.len]; exact hi
  have hr := h.inn i vs[i] ps[i] (List.getElem?_eq_getElem hv) (List.getElem?_eq_getElem hi)
  obtain ⟨ad, cap, e, _⟩ := hr.form
  rw [e] at hr
  refine ⟨ad, cap, ?_, by rw [List.getElem?_eq_getElem hv, e], hr⟩
  exact h.row.cell (by simp [List.getElem?_eq_getElem hv, e])
set_option maxHeartbeats 1000000 in
set_option maxRecDepth 100000 in
theorem refSnew_ok (n : Nat) (h1 : 1 ≤ n) (h2 : n ≤ 16) (w : World) :
    Calls Try.prog 14 #[.int .i64 (n : Int)] w fun r w' => r = .returned (.tuple #[.pointer (some ⟨w.heap.size + 1, 0, none⟩), .int .i64 0]) ∧ RsV w' (w.heap.size + 1) w.heap.size (List.replicate n (.slice none 0 0)) (soNew n) ∧ Kp [] w w' := by
  have hmk := mk_parts n h2
  go_enter Try.func14, Try.ntmps14
  go_wp2
  go_ret2
  have hq := CBox.new w (Array.replicate n (Value.slice none 0 0)) 51
  have k1 := Kp.alloc w (.cells (Array.replicate n (Value.slice none 0 0)) 51)
  have hz : (w.alloc (.cells (Array.replicate n (Value.slice none 0 0)) 51)).heap.size = w.heap.size + 1 := by simp
  generalize w.alloc (.cells (Array.replicate n (Value.slice none 0 0)) 51) = W1 at *
  have hg := CBox.new W1 #[.slice (some ⟨w.heap.size, 0, none⟩) n n] 80
  have k2 := Kp.alloc W1 (.cells #[.slice (some ⟨w.heap.size, 0, none⟩) n n] 80)
  rw [hz] at hg
  refine ⟨rfl, ⟨by rw [soNew_len]; exact hg, hq.kp k2 (by simp), by rw [soNew_len]; simp, by rw [soNew_len]; exact h1, by rw [soNew_len]; exact h2, ?_, ?_⟩, k1.trans k2 (by simp)⟩
  · intro i v p hv hp
    have e1 := List.mem_of_getElem? hv
    have e2 := List.mem_of_getElem? hp
    unfold soNew at e2
    rw [List.mem_replicate] at e1 e2
    rw [e1.2, e2.2]
    exact EvRow.nil _
  · intro p hp
    unfold soNew at hp
    rw [List.mem_replicate] at hp
    rw [hp.2]; simp
end Go.Proofs.Ytnikkjbjidhhlaa
