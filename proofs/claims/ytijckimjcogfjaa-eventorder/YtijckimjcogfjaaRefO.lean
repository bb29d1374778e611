/-
  The document's order of matches (Order, Compare) is the plain function's.
-/
import Derived.Test.YtijckimjcogfjaaRefK
import Derived.Test.YtijckimjcogfjaaEvS
namespace Go.Proofs.Ytijckimjcogfjaa
open Go.RowKit

theorem cmp_less : ∀ a b : List UInt8, Lib.compareBytes a b = if Op.bytesLess a b = true then -1 else if (a == b) = true then 0 else 1
  | [], [] => by simp [Lib.compareBytes, Op.bytesLess]
  | [], _ :: _ => by simp [Lib.compareBytes, Op.bytesLess]
  | _ :: _, [] => by simp [Lib.compareBytes, Op.bytesLess]
  | x :: r, y :: s => by
    have ih := cmp_less r s
    simp only [Lib.compareBytes, Op.bytesLess]
    by_cases h1 : x < y
    · simp [h1]
    · by_cases h2 : y < x
      · have h3 : x ≠ y := fun e => by subst e; exact h1 h2
        simp [h1, h2, h3]
      · have h3 : x = y := by
          apply UInt8.toNat_inj.1
          rw [UInt8.lt_iff_toNat_lt] at h1 h2
          omega
        subst h3
        simp [ih]
theorem cL_ends {α : Type} {c : α → α → Int} (p q : List α) (j : Nat) (h1 : j ≤ p.length) (h2 : j ≤ q.length) (h : ¬ (j < p.length ∧ j < q.length)) : cL c (p.drop j) (q.drop j) = Lib.compareInt (p.length : Int) (q.length : Int) := by
  by_cases hp : j < p.length
  · have hq : q.drop j = [] := List.drop_of_length_le (by omega)
    rw [hq, List.drop_eq_getElem_cons hp]
    unfold Lib.compareInt
    simp only [cL]
    rw [if_neg (by omega), if_pos (by omega)]
  · rw [List.drop_of_length_le (by omega)]
    by_cases hq : j < q.length
    · rw [List.drop_eq_getElem_cons hq]
      unfold Lib.compareInt
      simp only [cL]
      rw [if_pos (by omega)]
    · rw [List.drop_of_length_le (by omega)]
      unfold Lib.compareInt
      simp only [cL]
      rw [if_neg (by omega), if_neg (by omega)]
theorem orI_ne {a b : Int} (h : a ≠ 0) : orI a b = a := if_neg h
set_option maxHeartbeats 8000000 in
set_option maxRecDepth 100000 in
theorem refOrder_any (k1 : ByteArray) (a1 : Option Addr) (c1 : Nat) (s1 : List (List Int)) (k2 : ByteArray) (a2 : Option Addr) (c2 : Nat) (s2 : List (List Int)) (w : World) (ok1 : MtOk k1 s1) (ok2 : MtOk k2 s2) (m1 : mayM k1 s1 = true) (m2 : mayM k2 s2 = true) (h1 : StagesAt w a1 s1) (h2 : StagesAt w a2 s2) :
    Calls Try.prog 48 #[.agg #[.string k1, .slice a1 s1.length c1], .agg #[.string k2, .slice a2 s2.length c2]] w fun e w' => e = .returned (.int .i64 (cM k1 s1 k2 s2)) ∧ Below w.heap.size w w' := by
  have s0 : CmpS w w.heap.size (w.heap.size + 1) k1 a1 s1.length c1 k2 a2 s2.length c2 ((w.alloc (.cells #[.string k1, .slice a1 s1.length c1] 35)).alloc (.cells #[.string k2, .slice a2 s2.length c2] 35)) := by
    refine ⟨((Below.refl _ _).alloc (Nat.le_refl _) _).alloc (by simp) _, MBox.alloc (heap_alloc_new w _) _, ?_⟩
    have := heap_alloc_new (w.alloc (.cells #[.string k1, .slice a1 s1.length c1] 35)) (.cells #[.string k2, .slice a2 s2.length c2] 35)
    unfold MBox
    simpa using this
  have ls1 : ∀ W, CmpS w w.heap.size (w.heap.size + 1) k1 a1 s1.length c1 k2 a2 s2.length c2 W → Calls Try.prog 63 #[.agg #[.string k1, .slice a1 s1.length c1]] W fun e w' => e = .returned (.int .i64 (lastM s1)) ∧ CmpS w w.heap.size (w.heap.size + 1) k1 a1 s1.length c1 k2 a2 s2.length c2 w' :=
    fun W hS => (refLast_any k1 a1 c1 s1 W ok1 m1 (h1.below hS.bel (Nat.le_refl _))).mono (fun e w' h => ⟨h.1, h.2 ▸ hS.alloc _⟩)
  have ls2 : ∀ W, CmpS w w.heap.size (w.heap.size + 1) k1 a1 s1.length c1 k2 a2 s2.length c2 W → Calls Try.prog 63 #[.agg #[.string k2, .slice a2 s2.length c2]] W fun e w' => e = .returned (.int .i64 (lastM s2)) ∧ CmpS w w.heap.size (w.heap.size + 1) k1 a1 s1.length c1 k2 a2 s2.length c2 w' :=
    fun W hS => (refLast_any k2 a2 c2 s2 W ok2 m2 (h2.below hS.bel (Nat.le_refl _))).mono (fun e w' h => ⟨h.1, h.2 ▸ hS.alloc _⟩)
  have sg := fun W => refSign_any (lastM s1) (lastM s2) W
  have hl1 := ok1.2.1
  have hl2 := ok2.2.1
  have P1 := hide ok1.2.2
  have P2 := hide ok2.2.2
  have H1 := hide h1
  have H2 := hide h2
  have LS1 := hide ls1
  have LS2 := hide ls2
  have SG := hide sg
  generalize hT : cM k1 s1 k2 s2 = T
  unfold cM at hT
  clear h1 h2 ls1 ls2 sg m1 m2 ok1 ok2
  generalize Lib.compareInt (lastM s1) (lastM s2) = X at *
  generalize lastM s1 = L1 at *
  generalize lastM s2 = L2 at *
  have HT := hide hT
  clear hT
  go_enter Try.func48, Try.ntmps48
  go_wp2_with fail
  generalize ((w.alloc (.cells #[.string k1, .slice a1 s1.length c1] 35)).alloc (.cells #[.string k2, .slice a2 s2.length c2] 35)) = W0 at *
  have f0 := s0.full.2
  go_region_held3 (fun W => CmpS w w.heap.size (w.heap.size + 1) k1 a1 s1.length c1 k2 a2 s2.length c2 W ∧ W.cell? ⟨w.heap.size, 0, none⟩ = some (.string k1) ∧ W.cell? ⟨w.heap.size, 1, none⟩ = some (.slice a1 s1.length c1) ∧ W.cell? ⟨w.heap.size + 1, 0, none⟩ = some (.string k2) ∧ W.cell? ⟨w.heap.size + 1, 1, none⟩ = some (.slice a2 s2.length c2)) (first | exact s0.full | exact s0.drew.full | exact s3.full | exact s4.full)
    (first
      | (go_at_call 63; refine (unhide LS2 _ s3).mono ?_; rintro e w4 ⟨rfl, s4⟩)
      | (go_at_call 63; refine (unhide LS1 _ s0.drew).mono ?_; rintro e w3 ⟨rfl, s3⟩)
      | (go_at_call 62; refine (unhide SG _).mono ?_; rintro e w5 ⟨rfl, rfl⟩))
  clear s0 f0 s3 LS1 LS2 SG
  by_cases hX : X = 0
  · subst hX
    have hT := unhide HT
    rw [show ∀ b, orI 0 b = b from fun b => if_pos rfl] at hT
    clear HT
    generalize hY : cL (cL Lib.compareInt) s1 s2 = Y at *
    have HY := hide hY
    have HT := hide hT
    clear hT hY
    go_wp2_with fail
    go_loopw [6] (fun i wr => ∃ k : Nat, k ≤ s1.length ∧ k ≤ s2.length ∧ i = .int .i64 (k : Int) ∧ CmpS w w.heap.size (w.heap.size + 1) k1 a1 s1.length c1 k2 a2 s2.length c2 wr ∧ Hid (cL (cL Lib.compareInt) (s1.drop k) (s2.drop k) = Y)) (fun i _ => s1.length - (intOf i).toNat)
    case atStart => exact ⟨0, Nat.zero_le _, Nat.zero_le _, rfl, s4, HY⟩
    case round =>
      clear s4 HY
      obtain ⟨k, hk1, hk2, rfl, s4, HK⟩ := hrel
      have f4 := s4.full.2
      by_cases hin : k < s1.length ∧ k < s2.length
      · obtain ⟨hx, hy⟩ := hin
        have hxi : (k : Int) < (s1.length : Int) := by omega
        have hyi : (k : Int) < (s2.length : Int) := by omega
        have hK := unhide HK
        rw [List.drop_eq_getElem_cons hx, List.drop_eq_getElem_cons hy] at hK
        simp only [cL] at hK
        have l1 := unhide P1 s1[k] (List.getElem_mem hx)
        have l2 := unhide P2 s2[k] (List.getElem_mem hy)
        have st1 : ∀ W, Below w.heap.size w W → ∃ b off pa pc, a1 = some ⟨b, off, none⟩ ∧ W.cell? ⟨b, off + k, none⟩ = some (.slice pa s1[k].length pc) ∧ IntsAt W pa s1[k] := fun W hW => by
          obtain ⟨b, off, e, _, q⟩ := (unhide H1).below hW (Nat.le_refl _) (fun e => by rw [e] at hx; simp at hx)
          obtain ⟨pa, pc, c, i⟩ := q k hx
          exact ⟨b, off, pa, pc, e, c, i⟩
        have st2 : ∀ W, Below w.heap.size w W → ∃ b off pa pc, a2 = some ⟨b, off, none⟩ ∧ W.cell? ⟨b, off + k, none⟩ = some (.slice pa s2[k].length pc) ∧ IntsAt W pa s2[k] := fun W hW => by
          obtain ⟨b, off, e, _, q⟩ := (unhide H2).below hW (Nat.le_refl _) (fun e => by rw [e] at hy; simp at hy)
          obtain ⟨pa, pc, c, i⟩ := q k hy
          exact ⟨b, off, pa, pc, e, c, i⟩
        have ST1 := hide st1
        have ST2 := hide st2
        have HK2 := hide hK
        clear st1 st2 hK HK H1 H2 P1 P2
        generalize s1[k] = p at *
        generalize s2[k] = q at *
        generalize hV : cL Lib.compareInt p q = V at *
        have HV := hide hV
        clear hV
        go_wp2_with fail
        go_loopw [7] (fun j wr => ∃ m : Nat, m ≤ p.length ∧ m ≤ q.length ∧ j = .int .i64 (m : Int) ∧ CmpS w w.heap.size (w.heap.size + 1) k1 a1 s1.length c1 k2 a2 s2.length c2 wr ∧ Hid (cL Lib.compareInt (p.drop m) (q.drop m) = V)) (fun j _ => p.length - (intOf j).toNat)
        case atStart => exact ⟨0, Nat.zero_le _, Nat.zero_le _, rfl, s4, HV⟩
        case round =>
          clear s4 HV f4
          obtain ⟨m, hm1, hm2, rfl, s4, HM⟩ := hrel
          have f4 := s4.full.2
          obtain ⟨b1, o1, pa1, pc1, rfl, x1, i1⟩ := unhide ST1 _ s4.bel
          obtain ⟨b2, o2, pa2, pc2, rfl, y1, i2⟩ := unhide ST2 _ s4.bel
          by_cases hmm : m < p.length ∧ m < q.length
          · obtain ⟨g1, g2⟩ := hmm
            have g1i : (m : Int) < (p.length : Int) := by omega
            have g2i : (m : Int) < (q.length : Int) := by omega
            obtain ⟨pb1, po1, rfl, _, z1⟩ := i1 (fun e => by rw [e] at g1; simp at g1)
            obtain ⟨pb2, po2, rfl, _, z2⟩ := i2 (fun e => by rw [e] at g2; simp at g2)
            have u1 := z1 m g1
            have u2 := z2 m g2
            have hM := unhide HM
            rw [List.drop_eq_getElem_cons g1, List.drop_eq_getElem_cons g2] at hM
            simp only [cL] at hM
            clear z1 z2 HM
            generalize p[m] = x at *
            generalize q[m] = y at *
            have sg := fun W => refSign_any x y W
            generalize Lib.compareInt x y = C at *
            have SG := hide sg
            clear sg
            by_cases hC : C = 0
            · subst hC
              rw [if_pos rfl] at hM
              have HM := hide hM
              clear hM
              go_wp2
              go_quiet (first | (go_at_call 62; exact Calls.quiet_of_same (unhide SG _)))
              go_wp2
              go_roundw
              case rel => exact ⟨m + 1, by omega, by omega, by go_num, s4.drewN _, HM⟩
              case measure => simp [intOf]; omega
            · rw [if_neg hC] at hM
              subst hM
              have hT := unhide HK2
              rw [if_neg hC] at hT
              have hT2 := unhide HT
              rw [← hT, orI_ne hC] at hT2
              subst hT2
              have g : (C != 0) = true := by rw [bne_iff_ne]; exact hC
              clear hC hT HK2 HT
              go_wp2
              go_quiet (first | (go_at_call 62; exact Calls.quiet_of_same (unhide SG _)))
              go_wp2
              go_ret
              exact ⟨rfl, (s4.drewN _).bel⟩
          · have hM := unhide HM
            rw [cL_ends p q m hm1 hm2 hmm] at hM
            have sg := fun W => refSign_any (p.length : Int) (q.length : Int) W
            rw [hM] at sg
            have SG := hide sg
            have hnot : ¬ ((m : Int) < (p.length : Int) ∧ (m : Int) < (q.length : Int)) := by omega
            clear sg hM HM hmm i1 i2
            by_cases hV0 : V = 0
            · subst hV0
              have hK := unhide HK2
              rw [if_pos rfl] at hK
              have HK3 := hide hK
              clear hK HK2
              by_cases n1 : (m : Int) < (p.length : Int)
              · have n2 : ¬ (m : Int) < (q.length : Int) := fun h => hnot ⟨n1, h⟩
                clear hnot
                go_wp2
                go_quiet (first | (go_at_call 62; exact Calls.quiet_of_same (unhide SG _)))
                go_wp2
                go_roundw
                case rel => exact ⟨k + 1, by omega, by omega, by go_num, s4.drewN _, HK3⟩
                case measure => simp [intOf]; omega
              · clear hnot
                go_wp2
                go_quiet (first | (go_at_call 62; exact Calls.quiet_of_same (unhide SG _)))
                go_wp2
                go_roundw
                case rel => exact ⟨k + 1, by omega, by omega, by go_num, s4.drewN _, HK3⟩
                case measure => simp [intOf]; omega
            · have hT := unhide HK2
              rw [if_neg hV0] at hT
              have hT2 := unhide HT
              rw [← hT, orI_ne hV0] at hT2
              subst hT2
              have g : (V != 0) = true := by rw [bne_iff_ne]; exact hV0
              clear hV0 hT HK2 HT
              by_cases n1 : (m : Int) < (p.length : Int)
              · have n2 : ¬ (m : Int) < (q.length : Int) := fun h => hnot ⟨n1, h⟩
                clear hnot
                go_wp2
                go_quiet (first | (go_at_call 62; exact Calls.quiet_of_same (unhide SG _)))
                go_wp2
                go_ret
                exact ⟨rfl, (s4.drewN _).bel⟩
              · clear hnot
                go_wp2
                go_quiet (first | (go_at_call 62; exact Calls.quiet_of_same (unhide SG _)))
                go_wp2
                go_ret
                exact ⟨rfl, (s4.drewN _).bel⟩
      · have hK := unhide HK
        rw [cL_ends s1 s2 k hk1 hk2 hin] at hK
        have sg := fun W => refSign_any (s1.length : Int) (s2.length : Int) W
        rw [hK] at sg
        have SG := hide sg
        have hnot : ¬ ((k : Int) < (s1.length : Int) ∧ (k : Int) < (s2.length : Int)) := by omega
        clear sg hK HK hin H1 H2 P1 P2
        have hsplit : ¬ ((k : Int) < (s1.length : Int)) ∨ ((k : Int) < (s1.length : Int) ∧ ¬ ((k : Int) < (s2.length : Int))) := by omega
        clear hnot
        by_cases hY0 : Y = 0
        · subst hY0
          have hT := unhide HT
          rw [show ∀ b, orI 0 b = b from fun b => if_pos rfl, cmp_less, ← ByteArray.toList_eq, ← ByteArray.toList_eq] at hT
          clear HT
          have hb : ∀ b : Bool, b = true ∨ b = false := fun b => by cases b <;> simp
          rcases hb (Op.bytesLess k1.toList k2.toList) with elt | elt <;> rcases hb (k1.toList == k2.toList) with eeq | eeq <;> simp only [elt, eeq, Bool.false_eq_true, if_true, if_false] at hT <;> subst hT <;> clear hb
          all_goals
            rcases hsplit with n1 | ⟨n1, n2⟩
            all_goals
              go_wp2_with fail
              refine (unhide SG _).mono ?_
              rintro e w6 ⟨rfl, rfl⟩
              go_wp2
              go_ret
              exact ⟨rfl, s4.bel⟩
        · have hT := unhide HT
          rw [orI_ne hY0] at hT
          subst hT
          have g : (Y != 0) = true := by rw [bne_iff_ne]; exact hY0
          clear hY0 HT
          rcases hsplit with n1 | ⟨n1, n2⟩
          all_goals
            go_wp2_with fail
            refine (unhide SG _).mono ?_
            rintro e w6 ⟨rfl, rfl⟩
            go_wp2
            go_ret
            exact ⟨rfl, s4.bel⟩
  · have g : (X != 0) = true := by rw [bne_iff_ne]; exact hX
    have hT := unhide HT
    rw [orI_ne hX] at hT
    subst hT
    clear HT hX
    go_wp2
    go_ret
    exact ⟨rfl, s4.bel⟩
end Go.Proofs.Ytijckimjcogfjaa
