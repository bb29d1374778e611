/-
  EventOne: whatever the three matches, the law returns true; nothing that was there has changed.
-/
import Derived.Test.YtijckimjcogfjaaEvW
namespace Go.Proofs.Ytijckimjcogfjaa
open Go.RowKit

theorem cM_pre : Pre fun x y : ByteArray × List (List Int) => cM x.1 x.2 y.1 y.2 :=
  (pre_int.on fun x : ByteArray × List (List Int) => lastM x.2).or (((pre_list (pre_list pre_int)).on fun x : ByteArray × List (List Int) => x.2).or (pre_bytes.on fun x : ByteArray × List (List Int) => x.1.data.toList))
theorem orI_zero (a b : Int) : orI a b = 0 ↔ a = 0 ∧ b = 0 := by unfold orI; split <;> omega
theorem ba_inj {a b : ByteArray} (h : a.data.toList = b.data.toList) : a = b := ByteArray.ext (Array.ext' h)
theorem cM_zero (k1 : ByteArray) (s1 : List (List Int)) (k2 : ByteArray) (s2 : List (List Int)) : cM k1 s1 k2 s2 = 0 ↔ k1 = k2 ∧ s1 = s2 := by
  unfold cM
  rw [orI_zero, orI_zero, zero_int, zero_list (zero_list zero_int), zero_bytes]
  exact ⟨fun h => ⟨ba_inj h.2.2, h.2.1⟩, fun h => ⟨by rw [h.2], h.2, by rw [h.1]⟩⟩
theorem range_int (x y : Int) : -1 ≤ Lib.compareInt x y ∧ Lib.compareInt x y ≤ 1 := by
  unfold Lib.compareInt; repeat' split
  all_goals omega
theorem range_list {α : Type} {c : α → α → Int} (hc : ∀ x y, -1 ≤ c x y ∧ c x y ≤ 1) : ∀ x y, -1 ≤ cL c x y ∧ cL c x y ≤ 1
  | [], [] => by simp [cL]
  | [], _ :: _ => by simp [cL]
  | _ :: _, [] => by simp [cL]
  | a :: r, b :: s => by
    simp only [cL]
    split
    · exact range_list hc r s
    · exact hc a b
theorem range_bytes (a b : List UInt8) : -1 ≤ Lib.compareBytes a b ∧ Lib.compareBytes a b ≤ 1 := by
  rw [bytes_list]; exact range_list (fun x y => range_int _ _) a b
theorem range_or {a b : Int} (ha : -1 ≤ a ∧ a ≤ 1) (hb : -1 ≤ b ∧ b ≤ 1) : -1 ≤ orI a b ∧ orI a b ≤ 1 := by unfold orI; split <;> omega
theorem cM_range (k1 : ByteArray) (s1 : List (List Int)) (k2 : ByteArray) (s2 : List (List Int)) : -1 ≤ cM k1 s1 k2 s2 ∧ cM k1 s1 k2 s2 ≤ 1 :=
  range_or (range_int _ _) (range_or (range_list (range_list range_int) _ _) (range_bytes _ _))
/-- What stays while three matches are compared. -/
structure S3 (w : World) (k1 : ByteArray) (a1 : Option Addr) (n1 c1 : Nat) (k2 : ByteArray) (a2 : Option Addr) (n2 c2 : Nat) (k3 : ByteArray) (a3 : Option Addr) (n3 c3 : Nat) (W : World) : Prop where
  bel : Below w.heap.size w W
  b1 : MBox w.heap.size k1 a1 n1 c1 W
  b2 : MBox (w.heap.size + 1) k2 a2 n2 c2 W
  b3 : MBox (w.heap.size + 1 + 1) k3 a3 n3 c3 W
section
variable {w : World} {k1 : ByteArray} {a1 : Option Addr} {n1 c1 : Nat} {k2 : ByteArray} {a2 : Option Addr} {n2 c2 : Nat} {k3 : ByteArray} {a3 : Option Addr} {n3 c3 : Nat} {W : World}
theorem S3.start (w : World) (k1 : ByteArray) (a1 : Option Addr) (n1 c1 : Nat) (k2 : ByteArray) (a2 : Option Addr) (n2 c2 : Nat) (k3 : ByteArray) (a3 : Option Addr) (n3 c3 : Nat) :
    S3 w k1 a1 n1 c1 k2 a2 n2 c2 k3 a3 n3 c3 (((w.alloc (.cells #[.string k1, .slice a1 n1 c1] 35)).alloc (.cells #[.string k2, .slice a2 n2 c2] 35)).alloc (.cells #[.string k3, .slice a3 n3 c3] 35)) := by
  have h2 := heap_alloc_new (w.alloc (.cells #[.string k1, .slice a1 n1 c1] 35)) (.cells #[.string k2, .slice a2 n2 c2] 35)
  have h3 := heap_alloc_new ((w.alloc (.cells #[.string k1, .slice a1 n1 c1] 35)).alloc (.cells #[.string k2, .slice a2 n2 c2] 35)) (.cells #[.string k3, .slice a3 n3 c3] 35)
  have e2 : (w.alloc (.cells #[.string k1, .slice a1 n1 c1] 35)).heap.size = w.heap.size + 1 := by simp
  have e3 : ((w.alloc (.cells #[.string k1, .slice a1 n1 c1] 35)).alloc (.cells #[.string k2, .slice a2 n2 c2] 35)).heap.size = w.heap.size + 1 + 1 := by simp
  rw [e2] at h2
  rw [e3] at h3
  exact ⟨below_new3 _ _ _ _, MBox.alloc (MBox.alloc (heap_alloc_new w _) _) _, MBox.alloc h2 _, h3⟩
theorem S3.next (h : S3 w k1 a1 n1 c1 k2 a2 n2 c2 k3 a3 n3 c3 W) {W' : World} (hb : Below W.heap.size W W') : S3 w k1 a1 n1 c1 k2 a2 n2 c2 k3 a3 n3 c3 W' :=
  ⟨h.bel.trans (hb.mono h.bel.size), h.b1.below hb h.b1.lt, h.b2.below hb h.b2.lt, h.b3.below hb h.b3.lt⟩
theorem S3.cells (h : S3 w k1 a1 n1 c1 k2 a2 n2 c2 k3 a3 n3 c3 W) : W.cell? ⟨w.heap.size, 0, none⟩ = some (.string k1) ∧ W.cell? ⟨w.heap.size, 1, none⟩ = some (.slice a1 n1 c1) ∧ W.cell? ⟨w.heap.size + 1, 0, none⟩ = some (.string k2) ∧ W.cell? ⟨w.heap.size + 1, 1, none⟩ = some (.slice a2 n2 c2) ∧ W.cell? ⟨w.heap.size + 1 + 1, 0, none⟩ = some (.string k3) ∧ W.cell? ⟨w.heap.size + 1 + 1, 1, none⟩ = some (.slice a3 n3 c3) :=
  ⟨h.b1.cells.1, h.b1.cells.2, h.b2.cells.1, h.b2.cells.2, h.b3.cells.1, h.b3.cells.2⟩
end
set_option maxHeartbeats 8000000 in
set_option maxRecDepth 100000 in
theorem eventOne_walk (k1 : ByteArray) (a1 : Option Addr) (c1 : Nat) (s1 : List (List Int)) (k2 : ByteArray) (a2 : Option Addr) (c2 : Nat) (s2 : List (List Int)) (k3 : ByteArray) (a3 : Option Addr) (c3 : Nat) (s3 : List (List Int)) (w : World)
    (ok1 : MtOk k1 s1) (ok2 : MtOk k2 s2) (ok3 : MtOk k3 s3) (h1 : StagesAt w a1 s1) (h2 : StagesAt w a2 s2) (h3 : StagesAt w a3 s3) :
    Calls Try.prog 7 #[.agg #[.string k1, .slice a1 s1.length c1], .agg #[.string k2, .slice a2 s2.length c2], .agg #[.string k3, .slice a3 s3.length c3]] w fun e w' => e = .returned (.bool true) ∧ Below w.heap.size w w' := by
  have S0 := S3.start w k1 a1 s1.length c1 k2 a2 s2.length c2 k3 a3 s3.length c3
  have c12 := fun W (hW : Below w.heap.size w W) => compare_any k1 a1 c1 s1 k2 a2 c2 s2 W ok1 ok2 (h1.below hW (Nat.le_refl _)) (h2.below hW (Nat.le_refl _))
  have c23 := fun W (hW : Below w.heap.size w W) => compare_any k2 a2 c2 s2 k3 a3 c3 s3 W ok2 ok3 (h2.below hW (Nat.le_refl _)) (h3.below hW (Nat.le_refl _))
  have c13 := fun W (hW : Below w.heap.size w W) => compare_any k1 a1 c1 s1 k3 a3 c3 s3 W ok1 ok3 (h1.below hW (Nat.le_refl _)) (h3.below hW (Nat.le_refl _))
  have c21 := fun W (hW : Below w.heap.size w W) => compare_any k2 a2 c2 s2 k1 a1 c1 s1 W ok2 ok1 (h2.below hW (Nat.le_refl _)) (h1.below hW (Nat.le_refl _))
  have sm := fun W (hW : Below w.heap.size w W) => sameMatch_any k1 a1 c1 s1 k2 a2 c2 s2 W ok1 ok2 (h1.below hW (Nat.le_refl _)) (h2.below hW (Nat.le_refl _))
  have hall : mayM k1 s1 = true ∧ mayM k2 s2 = true → mayM k3 s3 = true → cmpE k1 s1 k2 s2 = 0 ∧ cmpE k2 s2 k3 s3 = 0 ∧ cmpE k1 s1 k3 s3 = 0 ∧ cmpE k2 s2 k1 s1 = 0 ∧ cmpV k2 s2 k1 s1 = - cmpV k1 s1 k2 s2 ∧ decide (k1 = k2 ∧ s1 = s2) = decide (cmpV k1 s1 k2 s2 = 0) ∧
      (-1 ≤ cmpV k1 s1 k2 s2 ∧ cmpV k1 s1 k2 s2 ≤ 1) ∧ (-1 ≤ cmpV k2 s2 k3 s3 ∧ cmpV k2 s2 k3 s3 ≤ 1) ∧ (-1 ≤ cmpV k1 s1 k3 s3 ∧ cmpV k1 s1 k3 s3 ≤ 1) ∧
      (cmpV k1 s1 k2 s2 ≤ 0 → cmpV k2 s2 k3 s3 ≤ 0 → cmpV k1 s1 k3 s3 ≤ 0 ∧ (cmpV k1 s1 k3 s3 = 0 → cmpV k1 s1 k2 s2 = 0 ∧ cmpV k2 s2 k3 s3 = 0)) := fun ⟨m1, m2⟩ m3 => by
    unfold cmpE cmpV
    simp only [m1, m2, m3, and_self, if_true]
    exact ⟨trivial, trivial, trivial, trivial, cM_pre.anti (k1, s1) (k2, s2), decide_eq_decide.2 (cM_zero _ _ _ _).symm, cM_range _ _ _ _, cM_range _ _ _ _, cM_range _ _ _ _, cM_pre.trans (k1, s1) (k2, s2) (k3, s3)⟩
  have hno1 : ¬ (mayM k1 s1 = true ∧ mayM k2 s2 = true) → cmpE k1 s1 k2 s2 = 20 := fun h => if_neg h
  have hno2 : mayM k3 s3 ≠ true → cmpE k2 s2 k3 s3 = 20 := fun h => if_neg (fun e => h e.2)
  clear h1 h2 h3 ok1 ok2 ok3
  generalize decide (k1 = k2 ∧ s1 = s2) = D at *
  generalize cmpE k1 s1 k2 s2 = E12 at *
  generalize cmpE k2 s2 k3 s3 = E23 at *
  generalize cmpE k1 s1 k3 s3 = E13 at *
  generalize cmpE k2 s2 k1 s1 = E21 at *
  generalize cmpV k1 s1 k2 s2 = V12 at *
  generalize cmpV k2 s2 k3 s3 = V23 at *
  generalize cmpV k1 s1 k3 s3 = V13 at *
  generalize cmpV k2 s2 k1 s1 = V21 at *
  generalize s1.length = n1 at *
  generalize s2.length = n2 at *
  generalize s3.length = n3 at *
  have C12 := hide c12
  have C23 := hide c23
  have C13 := hide c13
  have C21 := hide c21
  have SM := hide sm
  have HALL := hide hall
  have HN1 := hide hno1
  have HN2 := hide hno2
  clear c12 c23 c13 c21 sm hall hno1 hno2
  go_enter Try.func7, Try.ntmps7
  go_wp2_with fail
  generalize (((w.alloc (.cells #[.string k1, .slice a1 n1 c1] 35)).alloc (.cells #[.string k2, .slice a2 n2 c2] 35)).alloc (.cells #[.string k3, .slice a3 n3 c3] 35)) = W0 at *
  refine (evWorks_any W0).mono ?_
  rintro e w1 ⟨rfl, hb1⟩
  have S1 := S0.next hb1
  have f1 := S1.cells
  clear S0 hb1
  go_wp2_with fail
  refine (unhide C12 w1 S1.bel).mono ?_
  rintro e w2 ⟨rfl, hb2⟩
  have S2 := S1.next hb2
  clear f1 S1 hb2
  have f2 := S2.cells
  go_wp2_with fail
  refine (unhide C23 w2 S2.bel).mono ?_
  rintro e w3 ⟨rfl, hb3⟩
  have S3' := S2.next hb3
  clear f2 S2 hb3
  have f3 := S3'.cells
  go_wp2_with fail
  refine (unhide C13 w3 S3'.bel).mono ?_
  rintro e w4 ⟨rfl, hb4⟩
  have S4 := S3'.next hb4
  clear f3 S3' hb4
  have f4 := S4.cells
  go_wp2_with fail
  refine (unhide C21 w4 S4.bel).mono ?_
  rintro e w5 ⟨rfl, hb5⟩
  have S5 := S4.next hb5
  clear f4 S4 hb5
  have f5 := S5.cells
  have hbel := S5.bel
  by_cases m12 : mayM k1 s1 = true ∧ mayM k2 s2 = true
  · by_cases m3 : mayM k3 s3 = true
    · obtain ⟨rfl, rfl, rfl, rfl, rfl, rfl, r12, r23, r13, ht⟩ := unhide HALL m12 m3
      have sm := unhide SM w5 S5.bel
      clear HALL HN1 HN2 m12 m3 C12 C23 C13 C21 SM S5
      have hcases : V12 = 1 ∨ (V12 = 0 ∨ V12 = -1) := by omega
      rcases hcases with rfl | h12
      · have SM := hide sm
        clear sm ht r12
        go_wp2_with fail
        refine (unhide SM).mono ?_
        rintro e w6 ⟨rfl, hb6⟩
        have hb7 := hbel.trans (hb6.mono hbel.size)
        clear hb6
        go_wp2
        go_ret
        exact ⟨rfl, hb7⟩
      · have hc2 : V23 = 1 ∨ (V23 = 0 ∨ V23 = -1) := by omega
        rcases hc2 with rfl | h23
        · clear ht
          rcases h12 with rfl | rfl
          all_goals
            have SM := hide sm
            clear sm r12
            go_wp2_with fail
            refine (unhide SM).mono ?_
            rintro e w6 ⟨rfl, hb6⟩
            have hb7 := hbel.trans (hb6.mono hbel.size)
            clear hb6
            go_wp2
            go_ret
            exact ⟨rfl, hb7⟩
        · obtain ⟨t1, t2⟩ := ht (by omega) (by omega)
          have hc3 : V13 = 0 ∨ V13 = -1 := by omega
          clear ht t1
          rcases hc3 with rfl | rfl
          · obtain ⟨rfl, rfl⟩ := t2 rfl
            have SM := hide sm
            clear sm r12 r23 r13 t2 h12 h23
            go_wp2_with fail
            refine (unhide SM).mono ?_
            rintro e w6 ⟨rfl, hb6⟩
            have hb7 := hbel.trans (hb6.mono hbel.size)
            clear hb6
            go_wp2
            go_ret
            exact ⟨rfl, hb7⟩
          · clear t2 r12 r23 r13
            rcases h12 with rfl | rfl <;> rcases h23 with rfl | rfl
            all_goals
              have SM := hide sm
              clear sm
              go_wp2_with fail
              refine (unhide SM).mono ?_
              rintro e w6 ⟨rfl, hb6⟩
              have hb7 := hbel.trans (hb6.mono hbel.size)
              clear hb6
              go_wp2
              go_ret
              exact ⟨rfl, hb7⟩
    · obtain rfl := unhide HN2 m3
      clear HALL HN1 HN2 m12 m3 C12 C23 C13 C21 SM S5
      by_cases h0 : E12 = 0
      · subst h0
        go_wp2
        go_ret
        exact ⟨rfl, hbel⟩
      · have g : (E12 != 0) = true := by rw [bne_iff_ne]; exact h0
        clear h0
        go_wp2
        go_ret
        exact ⟨rfl, hbel⟩
  · obtain rfl := unhide HN1 m12
    clear HALL HN1 HN2 m12 C12 C23 C13 C21 SM S5
    go_wp2
    go_ret
    exact ⟨rfl, hbel⟩
end Go.Proofs.Ytijckimjcogfjaa
