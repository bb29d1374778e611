/-
  PackFrames: whatever the bytes and the place, the law returns true; nothing that was there has changed.
-/
import Derived.Test.YtbbmacpjgflndaaDoorRefR
import Derived.Test.YtbbmacpjgflndaaDoorWorks
namespace Go.Proofs.YtbbmacpjgflndaaDoor
open Go.RowKit

set_option maxHeartbeats 4000000 in
theorem packFrames_walk (b : ByteArray) (p : Int) (w : World) (hb : b.size ≤ 140737488351232) (hT : TabW w) :
    Calls Tryd.prog 4 #[.string b, .int .i64 p] w fun e w' => e = .returned (.bool true) ∧ Below w.heap.size w w' := by
  have h0 := hT.1
  have c1 := fun w hw => frame_any b w (by omega) hw
  have c2 := fun w => refFrame_any b w (by omega)
  have c3 := fun w hw => unframe_any b p w (by omega) hw
  have c4 := fun w => refUnframe_any b p w (by omega)
  have c5 := fun w hw => frames_any b w hb hw
  have c6 := fun w => refFrames_any b w hb
  have c7 := fun w hw => sum_any b w (by unfold maxLen; omega) hw
  have c8 := fun w => refSum_any b w (by omega)
  have hl : (frsS b.data.toList).1.length ≤ b.size := by
    have key : ∀ (f : Nat) (l : List UInt8) (e : Nat), e ≤ l.length → (frsF f l e).1.length + e ≤ l.length := by
      intro f
      induction f with
      | zero => intro l e he; show 0 + e ≤ _; omega
      | succ f ih =>
        intro l e he
        rw [frsF]
        by_cases hc : (bodyS (l.drop e)).2 ≠ 0
        · rw [if_pos hc]; show 0 + e ≤ _; omega
        · rw [if_neg hc]
          have hk := (bodyS_ok (l.drop e) (by simpa using hc)).1
          rw [List.length_drop] at hk
          have := ih l (e + 10 + (bodyS (l.drop e)).1.length) (by omega)
          dsimp only
          rw [List.length_cons]; omega
    have := key (b.data.toList.length + 1) b.data.toList 0 (Nat.zero_le _)
    unfold frsS
    have hle : b.data.toList.length = b.size := Array.length_toList
    omega
  generalize frS b = S at *
  generalize frE b = E at *
  generalize unfS b.data.toList p = U at *
  obtain ⟨Ub, Ue, Ua, Uc⟩ := U
  generalize frsS b.data.toList = F at *
  obtain ⟨Fl, Fe⟩ := F
  generalize sumOf b.data.toList = X at *
  dsimp only at c3 c4 c5 c6 hl
  generalize ({ data := Ub.toArray } : ByteArray) = UB at *
  have C1 := hide c1
  have C2 := hide c2
  have C3 := hide c3
  have C4 := hide c4
  have C5 := hide c5
  have C6 := hide c6
  have C7 := hide c7
  have C8 := hide c8
  have HT := hide hT
  have tab : ∀ W, Below w.heap.size w W → TabW W := fun W hW => (unhide HT).below hW h0
  have TAB := hide tab
  clear c1 c2 c3 c4 c5 c6 c7 c8 hT tab
  go_enter Tryd.func4, Tryd.ntmps4
  go_wp2_with fail
  refine (unhide C1 w (unhide HT)).mono ?_
  rintro e w1 ⟨rfl, hb1⟩
  go_wp2_with fail
  refine (unhide C2 w1).mono ?_
  rintro e w2 ⟨rfl, hb2⟩
  have hb2' := hb1.trans (hb2.mono hb1.size)
  clear hb1 hb2
  go_wp2_with fail
  refine (unhide C3 w2 (unhide TAB _ hb2')).mono ?_
  rintro e w3 ⟨rfl, hb3⟩
  have hb3' := hb2'.trans (hb3.mono hb2'.size)
  have hz3 := hb3'.size
  have f3 : (w3.alloc (.cells #[.int .i64 Ua, .int .i64 Uc] 28)).heap[w3.heap.size]? = some (.cells #[.int .i64 Ua, .int .i64 Uc] 28 (0, 0)) := heap_alloc_new w3 _
  have hb3'' : Below w.heap.size w (w3.alloc (.cells #[.int .i64 Ua, .int .i64 Uc] 28)) := hb3'.alloc hz3 _
  have hsz3 : w3.heap.size < (w3.alloc (.cells #[.int .i64 Ua, .int .i64 Uc] 28)).heap.size := by simp
  go_wp2_with fail
  generalize (w3.alloc (.cells #[.int .i64 Ua, .int .i64 Uc] 28)) = W3 at *
  generalize w3.heap.size = g3 at *
  refine (unhide C4 W3).mono ?_
  rintro e w4 ⟨rfl, hb4⟩
  have hb4' := hb3''.trans (hb4.mono hb3''.size)
  have f4 := (hb4.block g3 hsz3).trans f3
  have hz4 := hb4'.size
  have hg4 : g3 < w4.heap.size := Nat.lt_of_lt_of_le hsz3 hb4.size
  have f5 : (w4.alloc (.cells #[.int .i64 Ua, .int .i64 Uc] 28)).heap[w4.heap.size]? = some (.cells #[.int .i64 Ua, .int .i64 Uc] 28 (0, 0)) := heap_alloc_new w4 _
  have f4' : (w4.alloc (.cells #[.int .i64 Ua, .int .i64 Uc] 28)).heap[g3]? = some (.cells #[.int .i64 Ua, .int .i64 Uc] 28 (0, 0)) := (Below.heap_alloc _ _ _ hg4).trans f4
  have hb5 : Below w.heap.size w (w4.alloc (.cells #[.int .i64 Ua, .int .i64 Uc] 28)) := hb4'.alloc hz4 _
  have hsz5 : w4.heap.size < (w4.alloc (.cells #[.int .i64 Ua, .int .i64 Uc] 28)).heap.size := by simp
  clear hb2' hb3 hb3' hb3'' hb4 f3 f4 hb4'
  go_wp2_with fail
  generalize (w4.alloc (.cells #[.int .i64 Ua, .int .i64 Uc] 28)) = W5 at *
  generalize w4.heap.size = g4 at *
  refine (unhide C5 W5 (unhide TAB _ hb5)).mono ?_
  rintro e w6 ⟨v6, rfl, ho6, hb6⟩
  have hb6' := hb5.trans (hb6.mono hb5.size)
  have f6 := (hb6.block g3 (by omega)).trans f4'
  have f7 := (hb6.block g4 hsz5).trans f5
  have hg6 : g4 < w6.heap.size := Nat.lt_of_lt_of_le hsz5 hb6.size
  obtain ⟨a6, k6, rfl, ht6⟩ := ho6.texts
  have T6 := hide ht6
  clear hb5 hb6 f4' f5 ho6 ht6
  go_wp2_with fail
  refine (unhide C6 w6).mono ?_
  rintro e w8 ⟨v8, rfl, ho8, hb8⟩
  have hb8' := hb6'.trans (hb8.mono hb6'.size)
  have f8 := (hb8.block g3 (by omega)).trans f6
  have f9 := (hb8.block g4 hg6).trans f7
  obtain ⟨a8, k8, rfl, ht8⟩ := ho8.texts
  have st := sameTexts_true a6 a8 k6 k8 Fl w8 ((unhide T6).below hb8 (Nat.le_refl _)) ht8 (by omega)
  have ST := hide st
  have hc1 : w8.cell? ⟨g3, 0, none⟩ = some (.int .i64 Ua) ∧ w8.cell? ⟨g3, 1, none⟩ = some (.int .i64 Uc) ∧ w8.cell? ⟨g4, 0, none⟩ = some (.int .i64 Ua) ∧ w8.cell? ⟨g4, 1, none⟩ = some (.int .i64 Uc) := by
    simp [World.cell?, f8, f9]
  have HB := hide hb8'
  clear st T6 hb6' f6 f7 f8 f9 ho8 ht8 hb8 hb8'
  go_wp2_with fail
  refine (unhide C7 w8 (unhide TAB _ (unhide HB))).mono ?_
  rintro e w9 ⟨rfl, rfl⟩
  go_wp2_with fail
  refine (unhide C8 _).mono ?_
  rintro e w10 ⟨rfl, rfl⟩
  go_wp2_with fail
  refine (unhide ST).mono ?_
  rintro e w11 ⟨rfl, n11, rfl⟩
  have hb12 := below_drewN (unhide HB) n11
  have wk := works_any _ (unhide TAB _ hb12)
  go_wp2_with fail
  refine wk.mono ?_
  rintro e w13 ⟨rfl, hb13⟩
  have hb14 := hb12.trans (hb13.mono hb12.size)
  clear wk hb12 hb13
  go_wp2
  go_ret
  exact ⟨rfl, hb14⟩
end Go.Proofs.YtbbmacpjgflndaaDoor
