/-
  The document's meter: Join.
-/
import Derived.Test.YtmeoiljjfmlmgaaMeR
import Derived.Test.YtmeoiljjfmlmgaaMeE
import Derived.Deep.RegionHeld3
namespace Go.Proofs.Ytmeoiljjfmlmgaa
open Go.RowKit

theorem Mt.drew {t b : Nat} {c : Nat → Int} {w : World} (h : Mt t b c w) : Mt t b c w.drew := h.kp (Kp.drew _) (by simp)
set_option maxHeartbeats 2000000 in
set_option maxRecDepth 100000 in
theorem rjoin_any (b o : Nat) (c d : Nat → Int) (w : World) (hbo : o ≠ b) (h : Mt 28 b c w) (ho : Mt 28 o d w) : Calls Try.prog 21 #[.pointer (some ⟨b, 0, none⟩), .pointer (some ⟨o, 0, none⟩)] w fun e w' => e = .returned (.int .i64 (jnE c d)) ∧ Mt 28 b (jnC c d) w' ∧ Kp [b] w w' := by
  have HM := hide h
  have HO := hide ho
  clear h ho
  go_enter Try.func21, Try.ntmps21
  go_wp2_with fail
  go_loopw [5] (fun i wr => ∃ k : Nat, k ≤ 8 ∧ i = .int .i64 (k : Int) ∧ Hid (Kp [] w wr ∧ ∀ j, j < k → c j + d j ≤ 4611686018427387904)) (fun i _ => 8 - (intOf i).toNat)
  case atStart => exact ⟨0, by decide, rfl, hide ⟨Kp.refl _ _, fun j hj => by omega⟩⟩
  case round =>
    obtain ⟨k, hk, rfl, HR⟩ := hrel
    by_cases hk8 : k < 8
    · have h1 : (k : Int) < 8 := by omega
      have l0 := (unhide HM).low k hk8
      have l1 := (unhide HM).top k hk8
      have l2 := (unhide HO).low k hk8
      have l3 := (unhide HO).top k hk8
      have cb : wr.cell? ⟨b, k, none⟩ = some (.int .i64 (c k)) := ((unhide HM).kp (unhide HR).1 (by simp)).cell k hk8
      have co : wr.cell? ⟨o, k, none⟩ = some (.int .i64 (d k)) := ((unhide HO).kp (unhide HR).1 (by simp)).cell k hk8
      by_cases hf : c k + d k ≤ 4611686018427387904
      · have HN : Hid (Kp [] w wr.drew ∧ ∀ j, j < k + 1 → c j + d j ≤ 4611686018427387904) := hide ⟨kp_tr (unhide HR).1 (Kp.drew _), fun j hj => by
          by_cases e : j = k
          · rw [e]; exact hf
          · exact (unhide HR).2 j (by omega)⟩
        have hg : ¬ (4611686018427387904 - c k < d k) := by omega
        clear HR HM HO hf
        generalize c k = ck at *
        generalize d k = dk at *
        go_wp2_with fail
        go_region
        all_goals (
          go_wp2
          go_roundw
          case rel => exact ⟨k + 1, by omega, by go_num, HN⟩
          case measure => simp [intOf]; omega)
      · have HJ : Hid (jnB c d = false) := hide (by
          cases hj : jnB c d with
          | false => rfl
          | true => exact absurd ((jnB_iff c d).1 hj k hk8) hf)
        have HK := hide (kp_tr (unhide HR).1 (Kp.drew _))
        have hg : 4611686018427387904 - c k < d k := by omega
        clear HR hf HO
        generalize c k = ck at *
        generalize d k = dk at *
        go_wp2_with fail
        go_region
        all_goals (
          go_wp2
          go_ret
          refine ⟨?_, ?_, (unhide HK).mono (by simp)⟩
          · unfold jnE; rw [unhide HJ]; rfl
          · unfold jnC; rw [unhide HJ]; exact (unhide HM).kp (unhide HK) (by simp))
    · have HJ : Hid (jnB c d = true) := hide ((jnB_iff c d).2 (fun j hj => (unhide HR).2 j (by omega)))
      have HL : Hid (∀ j, j < 8 → c j + d j ≤ 4611686018427387904) := hide (fun j hj => (unhide HR).2 j (by omega))
      have HS : Hid (Mt 28 b (jn c d 0) wr ∧ Mt 28 o d wr ∧ Kp [b] w wr) := hide ⟨by rw [jn_none]; exact (unhide HM).kp (unhide HR).1 (by simp), (unhide HO).kp (unhide HR).1 (by simp), (unhide HR).1.mono (by simp)⟩
      clear HR HM HO
      go_wp2_with fail
      go_loopw [6] (fun i wr2 => ∃ k : Nat, k ≤ 8 ∧ i = .int .i64 (k : Int) ∧ Hid (Mt 28 b (jn c d k) wr2 ∧ Mt 28 o d wr2 ∧ Kp [b] w wr2)) (fun i _ => 8 - (intOf i).toNat)
      case atStart => exact ⟨0, by decide, rfl, HS⟩
      case round =>
        clear HS
        obtain ⟨k, hk, rfl, HR⟩ := hrel
        by_cases hk8 : k < 8
        · have h1 : (k : Int) < 8 := by omega
          have cb := (unhide HR).1.cell k hk8
          have fb := (unhide HR).1.box.froz k
          have co := (unhide HR).2.1.cell k hk8
          have l0 := (unhide HR).1.low k hk8
          have l2 := (unhide HR).2.1.low k hk8
          have hL := unhide HL k hk8
          rw [jn_at] at cb l0
          have hst := (unhide HR).1.set k hk8 (jn c d k k + d k) (by rw [jn_at]; omega) (by rw [jn_at]; exact hL)
          rw [jn_next, jn_at] at hst
          have HN : Hid (Mt 28 b (jn c d (k + 1)) (wr.setCell ⟨b, k, none⟩ (.int .i64 (c k + d k))).drew ∧ Mt 28 o d (wr.setCell ⟨b, k, none⟩ (.int .i64 (c k + d k))).drew ∧ Kp [b] w (wr.setCell ⟨b, k, none⟩ (.int .i64 (c k + d k))).drew) :=
            hide ⟨hst.drew, ((unhide HR).2.1.kp (Kp.set _ _ _ _) (by simpa using hbo)).drew, ((unhide HR).2.2.st _ _).trans (Kp.drew _) (by simp)⟩
          clear HR hst HL
          generalize c k = ck at *
          generalize d k = dk at *
          go_wp2_with fail
          go_region
          all_goals (
            go_wp2
            go_roundw
            case rel => exact ⟨k + 1, by omega, by go_num, HN⟩
            case measure => simp [intOf]; omega)
        · have hk9 : k = 8 := by omega
          subst hk9
          go_wp2
          go_ret
          refine ⟨?_, ?_, (unhide HR).2.2⟩
          · unfold jnE; rw [unhide HJ]; rfl
          · unfold jnC; rw [unhide HJ, if_pos rfl]; exact (unhide HR).1.ext (fun i hi => by unfold jn; rw [if_pos hi])
end Go.Proofs.Ytmeoiljjfmlmgaa
