/-
  The document's answer for which matches may be (MayMatch) is the plain function's.
-/
import Derived.Test.YtijckimjcogfjaaRefM
namespace Go.Proofs.Ytijckimjcogfjaa
open Go.RowKit

theorem MBox.new (w : World) (k : ByteArray) (ad : Option Addr) (n cap : Nat) : MBox w.heap.size k ad n cap (w.alloc (.cells #[.string k, .slice ad n cap] 35)) := heap_alloc_new w _
set_option maxHeartbeats 4000000 in
set_option maxRecDepth 100000 in
theorem refMayMatch_any (k : ByteArray) (ad : Option Addr) (cap : Nat) (ss : List (List Int)) (w : World) (hok : MtOk k ss) (hA : StagesAt w ad ss) :
    Calls Try.prog 37 #[.agg #[.string k, .slice ad ss.length cap]] w fun e w' => e = .returned (.bool (mayM k ss)) ∧ w' = w.alloc (.cells #[.string k, .slice ad ss.length cap] 35) := by
  obtain ⟨hk, hs, hp⟩ := hok
  have hname := fun w => refNamed_any k w hk
  by_cases h1 : nameB k = true
  · simp only [h1] at hname
    have HN := hide hname
    clear hname
    by_cases h2 : 1 ≤ ss.length
    · by_cases h3 : ss.length ≤ 8
      · have hR : mayM k ss = stagesB 256 (-1) ss := by unfold mayM; simp [h1, h2, h3]
        rw [hR]
        clear hR
        generalize hR : stagesB 256 (-1) ss = R
        have HR := hide hR
        have hA' := hA.below ((Below.refl w.heap.size w).alloc (Nat.le_refl _) (.cells #[.string k, .slice ad ss.length cap] 35)) (Nat.le_refl _)
        have HA := hide hA'
        have HP := hide hp
        have fb := (MBox.new w k ad ss.length cap).cells
        clear hR hA hA' hp h1 hk
        go_enter Try.func37, Try.ntmps37
        go_wp2_with fail
        refine (unhide HN _).mono ?_
        rintro e w1 ⟨rfl, rfl⟩
        go_wp2_with fail
        generalize hW : w.alloc (.cells #[.string k, .slice ad ss.length cap] 35) = W at *
        go_loop [3, 4, 5] (fun l m i => ∃ (j M : Nat) (y : Int), j ≤ ss.length ∧ i = .int .i64 (j : Int) ∧ l = .int .i64 y ∧ m = .int .i64 (M : Int) ∧ M ≤ 256 ∧ Hid (stagesB (256 - (M : Int)) y (ss.drop j) = R)) (fun _ _ i => ss.length - (intOf i).toNat)
        case atStart => exact ⟨0, 0, -1, Nat.zero_le _, rfl, rfl, rfl, by omega, HR⟩
        case round =>
          obtain ⟨j, M, y, hj, rfl, rfl, rfl, hM, HK⟩ := hrel
          by_cases hlt : j < ss.length
          · obtain ⟨b, off, rfl, _, hc⟩ := unhide HA (fun e => by rw [e] at hlt; simp at hlt)
            obtain ⟨pa, pc, hcell, hI⟩ := hc j hlt
            have hK := unhide HK
            rw [List.drop_eq_getElem_cons hlt, stagesB] at hK
            have hpl := unhide HP ss[j] (List.getElem_mem hlt)
            have hli : (j : Int) < (ss.length : Int) := by omega
            clear hc HA HR HK HP
            generalize ss[j] = p at *
            by_cases g1 : p.length < 1
            · rw [if_pos (Or.inl g1)] at hK
              subst hK
              have e0 : p.length = 0 := by omega
              rw [e0] at hcell
              clear hI g1 e0
              go_wp2
              go_ret
              exact ⟨rfl, rfl⟩
            · have e0 : ((p.length : Int) == 0) = false := beq_eq_false_iff_ne.2 (by omega)
              obtain ⟨pb, po, rfl, _, hpc⟩ := hI (fun e => by rw [e] at g1; simp at g1)
              have HK := hide hK
              have HPC := hide hpc
              clear hK hI hpc
              go_wp2
              go_loop [3, 4, 6] (fun l m i => ∃ (q T : Nat) (z : Int), q ≤ p.length ∧ i = .int .i64 (q : Int) ∧ l = .int .i64 z ∧ m = .int .i64 (T : Int) ∧ T ≤ 256 ∧ Hid (T = M + q) ∧ Hid (riseB z (p.drop q) = riseB y p) ∧ Hid (q = p.length → z = lastI p)) (fun _ _ i => p.length - (intOf i).toNat)
              case atStart => exact ⟨0, M, y, Nat.zero_le _, rfl, rfl, rfl, hM, hide rfl, hide rfl, hide (fun e => by omega)⟩
              case round =>
                obtain ⟨q, T, z, hq, rfl, rfl, rfl, hMq, HT, HZ, HL⟩ := hrel
                by_cases hql : q < p.length
                · have x1 := unhide HPC q hql
                  have hz := unhide HZ
                  rw [List.drop_eq_getElem_cons hql, riseB] at hz
                  have hlast : q + 1 = p.length → p[q] = lastI p := fun e => by rw [lastI_get (p := p) (by omega)]; congr 1; omega
                  have HLA := hide hlast
                  have hqi : (q : Int) < (p.length : Int) := by omega
                  clear HZ hlast HL
                  generalize p[q] = x at *
                  by_cases i1 : x ≤ z
                  · rw [if_pos (Or.inl i1)] at hz
                    have hK := unhide HK
                    rw [if_pos (Or.inr (Or.inr hz.symm))] at hK
                    subst hK
                    clear hz HK HLA HPC
                    go_wp2
                    go_ret
                    exact ⟨rfl, rfl⟩
                  · by_cases i2 : 1073741824 < x
                    · rw [if_pos (Or.inr i2)] at hz
                      have hK := unhide HK
                      rw [if_pos (Or.inr (Or.inr hz.symm))] at hK
                      subst hK
                      clear hz HK HLA HPC
                      go_wp2
                      go_ret
                      exact ⟨rfl, rfl⟩
                    · rw [if_neg (by rintro (h | h) <;> omega)] at hz
                      by_cases i3 : 256 < T + 1
                      · have hK := unhide HK
                        rw [if_pos (Or.inr (Or.inl (by have := unhide HT; omega)))] at hK
                        subst hK
                        clear hz HK HLA HPC
                        go_wp2
                        go_ret
                        exact ⟨rfl, rfl⟩
                      · have HZ := hide hz
                        clear hz
                        go_wp2
                        go_round
                        case rel => exact ⟨q + 1, T + 1, x, by omega, by go_num, rfl, by go_num, by omega, hide (by have := unhide HT; omega), HZ, HLA⟩
                        case measure => simp [intOf]; omega
                · obtain rfl : q = p.length := by omega
                  have hz := unhide HZ
                  rw [List.drop_length, riseB] at hz
                  have hK := unhide HK
                  have hT := unhide HT
                  rw [if_neg (by rintro (h | h | h); exact g1 h; omega; rw [← hz] at h; cases h)] at hK
                  rw [← unhide HL rfl] at hK
                  have HK2 : Hid (stagesB (256 - (T : Int)) z (ss.drop (j + 1)) = R) := hide (by rw [← hK]; congr 1; omega)
                  clear hz hK HK HZ HL HPC hT HT
                  go_wp2
                  go_round
                  case rel => exact ⟨j + 1, T, z, by omega, by go_num, rfl, rfl, hMq, HK2⟩
                  case measure => simp [intOf]; omega
          · have hK := unhide HK
            rw [List.drop_of_length_le (by omega), stagesB] at hK
            subst hK
            clear HK HR
            go_wp2
            go_ret
            exact ⟨rfl, rfl⟩
      · have hR : mayM k ss = false := by unfold mayM; simp [h3]
        rw [hR]
        clear hR hA hp h1 hk
        generalize ss.length = n at *
        go_enter Try.func37, Try.ntmps37
        go_wp2_with fail
        refine (unhide HN _).mono ?_
        rintro e w1 ⟨rfl, rfl⟩
        go_wp2
        go_ret
        exact ⟨rfl, rfl⟩
    · have hR : mayM k ss = false := by unfold mayM; simp [h2]
      rw [hR]
      clear hR hA hp h1 hk
      generalize ss.length = n at *
      go_enter Try.func37, Try.ntmps37
      go_wp2_with fail
      refine (unhide HN _).mono ?_
      rintro e w1 ⟨rfl, rfl⟩
      go_wp2
      go_ret
      exact ⟨rfl, rfl⟩
  · have h1' : nameB k = false := by simpa using h1
    have hR : mayM k ss = false := by unfold mayM; simp [h1']
    rw [hR]
    simp only [h1'] at hname
    have HN := hide hname
    clear hname hR hA hp h1 h1' hk
    generalize ss.length = n at *
    go_enter Try.func37, Try.ntmps37
    go_wp2_with fail
    refine (unhide HN _).mono ?_
    rintro e w1 ⟨rfl, rfl⟩
    go_wp2
    go_ret
    exact ⟨rfl, rfl⟩
end Go.Proofs.Ytijckimjcogfjaa
