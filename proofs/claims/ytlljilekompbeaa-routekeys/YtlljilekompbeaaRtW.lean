/-
  works: the chapter's example.
-/
import Derived.Test.YtlljilekompbeaaRtE
namespace Go.Proofs.Ytlljilekompbeaa
open Go.RowKit

theorem may422 : MayP 4 2 2 := ⟨⟨by decide, by decide, by decide, by decide, by decide⟩, by decide, by decide⟩
set_option maxHeartbeats 1000000 in
set_option maxRecDepth 100000 in
theorem rtWorks_any (w : World) : Calls Try.prog 20 #[] w fun e w' => e = .returned (.bool true) ∧ Kp [] w w' := by
  have EN : Hid _ := hide (fun W => ends_ok 4 2 2 3 W may422 (by decide))
  have e1 : frC 2 2 3 = 1 := by decide
  have e2 : toC 2 2 3 = 3 := by decide
  rw [e1, e2] at EN
  have RT : Hid _ := hide (fun W => route_ok 4 2 2 0 ⟨#[97]⟩ W (by decide) may422 (by decide))
  have e3 : rtM 4 2 ⟨#[97]⟩ = 0 := by
    unfold rtM
    have h1 : hshL (⟨#[97]⟩ : ByteArray).data.toList = 3826002220 := by
      have : (⟨#[97]⟩ : ByteArray).data.toList = [] ++ [97] := rfl
      rw [this, hshL_snoc, hshL_nil]
      decide
    rw [h1]
    decide
  rw [e3] at RT
  have CK := hide (fun W => pcheck_any 4 2 2 W)
  have e4 : chP 4 2 2 = 0 := by unfold chP; rw [show mayP 4 2 2 = true from may422.of]; rfl
  rw [e4] at CK
  have TK := hide (fun W => tasks_ok 4 2 2 W may422)
  have CH := hide (fun W => chans_ok 4 2 2 W may422)
  clear e1 e2 e3 e4
  go_enter Try.func20, Try.ntmps20
  go_wp2_with fail
  refine (unhide EN _).mono ?_
  rintro r w1 ⟨rfl, hk1⟩
  have HB1 : Hid (PBox w.heap.size 23 4 2 2 w1) := hide (PBox.kp (CBox.new w _ _) hk1 (by simp))
  obtain ⟨c0, c1, c2⟩ := (unhide HB1).cells
  have HK1 := hide (kp_two hk1)
  clear hk1 EN
  go_wp2_with fail
  refine (unhide RT _).mono ?_
  rintro r w2 ⟨rfl, hk2⟩
  have HB2 := hide ((unhide HB1).kp hk2 (by simp))
  have HK2 := hide (kp_tr (unhide HK1) hk2)
  clear hk2 RT c0 c1 c2 HB1 HK1
  obtain ⟨c0, c1, c2⟩ := (unhide HB2).cells
  go_wp2_with fail
  refine (unhide CK _).mono ?_
  rintro r w3 ⟨rfl, hk3⟩
  have HB3 := hide ((unhide HB2).kp hk3 (by simp))
  have HK3 := hide (kp_tr (unhide HK2) hk3)
  clear hk3 CK c0 c1 c2 HB2 HK2
  obtain ⟨c0, c1, c2⟩ := (unhide HB3).cells
  go_wp2_with fail
  refine (unhide TK _).mono ?_
  rintro r w4 ⟨rfl, hk4⟩
  have HB4 := hide ((unhide HB3).kp hk4 (by simp))
  have HK4 := hide (kp_tr (unhide HK3) hk4)
  clear hk4 TK c0 c1 c2 HB3 HK3
  obtain ⟨c0, c1, c2⟩ := (unhide HB4).cells
  go_wp2_with fail
  refine (unhide CH _).mono ?_
  rintro r w5 ⟨rfl, hk5⟩
  have HK5 := hide (kp_tr (unhide HK4) hk5)
  clear hk5 CH c0 c1 c2 HB4 HK4
  go_wp2
  go_ret
  exact ⟨rfl, unhide HK5⟩
end Go.Proofs.Ytlljilekompbeaa
