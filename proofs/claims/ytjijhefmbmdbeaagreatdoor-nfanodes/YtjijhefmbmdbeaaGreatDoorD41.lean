/-
  The document's answer for names (Named) is the plain function's.
  The document's answer: may a part be?
-/
import Derived.Test.YtjijhefmbmdbeaaGreatDoorChecked
import Derived.Test.YtjijhefmbmdbeaaGreatDoorD37
import Derived.WalkLawsBesides
import Derived.Deep.QuietTactic
import Derived.BigQuiet
import Derived.Test.YtjijhefmbmdbeaaGreatDoorD40
import Derived.Test.YtjijhefmbmdbeaaGreatDoorD08
import Derived.Test.YtjijhefmbmdbeaaGreatDoorD21
import Derived.Deep.DeepCutAuto
namespace Go.Proofs.YtjijhefmbmdbeaaGreatDoor
open Go.RowKit

set_option maxHeartbeats 1000000 in
theorem refNamed_any (s : ByteArray) (w : World) (hs : s.size ≤ 9223372036854775807) :
    Calls Tryz.prog 83 #[.string s] w fun e w' => e = .returned (.bool (nameB s)) ∧ w' = w := by
  by_cases h1 : 1 ≤ s.size
  · have hse : s.toList ≠ [] := fun e => by
      rw [ByteArray.toList_eq] at e
      have e4 := congrArg List.length e
      have e3 : s.data.toList.length = s.size := Array.length_toList
      rw [e3] at e4
      have : s.size = 0 := e4
      omega
    have hne : (s.toList == (⟨#[]⟩ : ByteArray).toList) = false := by
      rw [beq_eq_false_iff_ne]
      intro e
      refine hse ?_
      rw [e, ByteArray.toList_eq]
    have hne2 : s.toList.isEmpty = false := by
      cases hl : s.toList with
      | nil => exact absurd hl hse
      | cons a r => rfl
    clear hse
    by_cases h2 : s.size ≤ 32
    · have hn : nameB s = s.data.toList.all nb := by unfold nameB; simp [h1, h2]
      rw [hn]
      clear hn
      generalize hR : s.data.toList.all nb = R
      have HR := hide hR
      clear hR
      have hlen : s.data.toList.length = s.size := Array.length_toList
      go_enter Tryz.func83, Tryz.ntmps83
      go_wp2
      go_loop [3] (fun i => ∃ k : Nat, k ≤ s.size ∧ i = .int .i64 (k : Int) ∧ Hid (∀ c ∈ s.data.toList.take k, nb c = true)) (fun i => s.size - (intOf i).toNat)
      case atStart => exact ⟨0, Nat.zero_le _, rfl, hide (by simp)⟩
      case round =>
        obtain ⟨k, hk, rfl, HK⟩ := hrel
        by_cases hlt : k < s.size
        · have hget : s[k] ∈ s.data.toList := by
            have : s[k] = s.data.toList[k]'(by omega) := rfl
            rw [this]; exact List.getElem_mem _
          have hsn : s.data.toList.take (k + 1) = s.data.toList.take k ++ [s[k]] := by
            rw [List.take_succ_eq_append_getElem (by omega)]; rfl
          have hnb : nb s[k] = true ↔ ((97 ≤ (s[k]).toNat ∧ (s[k]).toNat ≤ 122) ∨ (48 ≤ (s[k]).toNat ∧ (s[k]).toNat ≤ 57)) := by
            unfold nb
            simp only [Bool.or_eq_true, Bool.and_eq_true, decide_eq_true_eq]
            omega
          have HG := hide hget
          have HS := hide hsn
          have hb256 := (s[k]).toNat_lt
          clear hget hsn hlen
          by_cases hb : nb s[k] = true
          · have hor := hnb.1 hb
            have HB := hide hb
            clear hnb hb
            rcases hor with ⟨g1, g2⟩ | ⟨g3, g4⟩
            · have d2 : decide (((s[k]).toNat : Int) ≤ 122) = true := decide_eq_true (by omega)
              go_wp2
              go_round
              case rel => exact ⟨k + 1, by omega, by go_num, hide (fun c hc => by
                rw [unhide HS, List.mem_append] at hc
                rcases hc with hc | hc
                · exact unhide HK c hc
                · rw [List.mem_singleton] at hc; rw [hc]; exact unhide HB)⟩
              case measure => simp [intOf]; omega
            · have g1 : ¬ 97 ≤ (s[k]).toNat := by omega
              have d4 : decide (((s[k]).toNat : Int) ≤ 57) = true := decide_eq_true (by omega)
              go_wp2
              go_round
              case rel => exact ⟨k + 1, by omega, by go_num, hide (fun c hc => by
                rw [unhide HS, List.mem_append] at hc
                rcases hc with hc | hc
                · exact unhide HK c hc
                · rw [List.mem_singleton] at hc; rw [hc]; exact unhide HB)⟩
              case measure => simp [intOf]; omega
          · have hb' : nb s[k] = false := by simpa using hb
            have hall : s.data.toList.all nb = false := List.all_eq_false.2 ⟨_, unhide HG, by rw [hb']; simp⟩
            have hR := unhide HR
            rw [hall] at hR
            subst hR
            have hnot := fun h => hb (hnb.2 h)
            clear hb hb' hall HR hnb HG HS HK
            rcases (by omega : (s[k]).toNat < 48 ∨ (57 < (s[k]).toNat ∧ (s[k]).toNat < 97) ∨ 122 < (s[k]).toNat ∨ ((97 ≤ (s[k]).toNat ∧ (s[k]).toNat ≤ 122) ∨ (48 ≤ (s[k]).toNat ∧ (s[k]).toNat ≤ 57))) with g | ⟨g, g'⟩ | g | g
            · clear hnot
              have g1 : ¬ 97 ≤ (s[k]).toNat := by omega
              have g2 : ¬ 48 ≤ (s[k]).toNat := by omega
              go_wp2
              go_ret
              exact ⟨rfl, rfl⟩
            · clear hnot
              have g1 : ¬ 97 ≤ (s[k]).toNat := by omega
              have g2 : 48 ≤ (s[k]).toNat := by omega
              have g3 : decide (((s[k]).toNat : Int) ≤ 57) = false := decide_eq_false (by omega)
              go_wp2
              go_ret
              exact ⟨rfl, rfl⟩
            · clear hnot
              have g1 : 97 ≤ (s[k]).toNat := by omega
              have g2 : decide (((s[k]).toNat : Int) ≤ 122) = false := decide_eq_false (by omega)
              have g3 : 48 ≤ (s[k]).toNat := by omega
              have g4 : decide (((s[k]).toNat : Int) ≤ 57) = false := decide_eq_false (by omega)
              go_wp2
              go_ret
              exact ⟨rfl, rfl⟩
            · exact absurd g hnot
        · have hall : s.data.toList.all nb = true := List.all_eq_true.2 (fun c hc => unhide HK c (by rw [List.take_of_length_le (by omega)]; exact hc))
          have hR := unhide HR
          rw [hall] at hR
          subst hR
          clear hall HR HK
          go_wp2
          go_ret
          exact ⟨rfl, rfl⟩
    · have hn : nameB s = false := by unfold nameB; simp [h2]
      rw [hn]
      go_enter Tryz.func83, Tryz.ntmps83
      go_wp2
      all_goals go_ret
      all_goals exact ⟨rfl, rfl⟩
  · have hn : nameB s = false := by unfold nameB; simp [h1]
    rw [hn]
    have hse : s = ⟨#[]⟩ := ByteArray.ext (Array.eq_empty_of_size_eq_zero (by show s.size = 0; omega))
    subst hse
    go_enter Tryz.func83, Tryz.ntmps83
    go_wp2
    all_goals go_ret
    all_goals exact ⟨rfl, rfl⟩
end Go.Proofs.YtjijhefmbmdbeaaGreatDoor
namespace Go.Proofs.YtjijhefmbmdbeaaGreatDoor
open Go.RowKit Go.Shelf

theorem ptEq_bare (k n fl : Int) (s st : ByteArray) : ptEq ⟨k, n, s, st, fl⟩ (opP k) = (decide (n = 0) && (emptyB s && (emptyB st && decide (fl = 0)))) := eqPk ⟨k, n, s, st, fl⟩
/-- A copied part, written over. -/
theorem pt_put {g : Nat} {a b c d e : Value} {t : TypeId} {w : World} (h : CBox g #[a, b, c, d, e] t w) : (w.cell? ⟨g, 0, none⟩ = some a ∧ w.cell? ⟨g, 1, none⟩ = some b ∧ w.cell? ⟨g, 2, none⟩ = some c ∧ w.cell? ⟨g, 3, none⟩ = some d ∧ w.cell? ⟨g, 4, none⟩ = some e) ∧ (∀ i, w.frozen? ⟨g, i, none⟩ = false) := ⟨⟨h.cell rfl, h.cell rfl, h.cell rfl, h.cell rfl, h.cell rfl⟩, h.froz⟩
set_option maxHeartbeats 2000000 in
set_option maxRecDepth 100000 in
theorem rMay_num (p : Pt) (w : World) (hk : p.kd = 1) : Calls Tryz.prog 110 #[p.v] w fun e w' => e = .returned (.bool (mayP p)) ∧ Below w.heap.size w w' := by
  rw [may_num p hk]
  obtain ⟨k, n, s, st, fl⟩ := p
  dsimp only at hk
  subst hk
  unfold Pt.v
  dsimp only
  by_cases h0 : 0 ≤ n
  · have q := fun W => eqP 9998 ⟨1, 0, s, st, fl⟩ (opP 1) W
    rw [ptEq_bare] at q
    rw [decide_eq_true h0]
    have g : (n < 0) = False := eq_false (by omega)
    rw [decide_eq_true (show (0 : Int) = 0 from rfl), Bool.true_and] at q
    rw [Bool.true_and]
    generalize (emptyB s && (emptyB st && decide (fl = 0))) = R at *
    unfold Pt.v opP txt at q
    dsimp only at q
    go_enter Tryz.func110, Tryz.ntmps110
    go_wp2
    go_ret
    exact ⟨rfl, by first | done | exact (((((Below.refl _ _).alloc (Nat.le_refl _) _).alloc (by simp) _).setCell (p := ⟨w.heap.size + 1, 1, none⟩) (by show w.heap.size ≤ w.heap.size + 1; omega) _)) | exact ((Below.refl _ _).alloc (Nat.le_refl _) _).alloc (by simp) _⟩
  · rw [decide_eq_false h0, Bool.false_and]
    have g : (n < 0) = True := eq_true (by omega)
    go_enter Tryz.func110, Tryz.ntmps110
    go_wp2
    go_ret
    exact ⟨rfl, ((Below.refl _ _).alloc (Nat.le_refl _) _).alloc (by simp) _⟩
theorem may_w0 (w : World) (A B : Obj) : Below w.heap.size w ((w.alloc A).alloc B) := ((Below.refl _ _).alloc (Nat.le_refl _) _).alloc (by simp) _
theorem may_b0 (w : World) (cs : Array Value) (t : TypeId) (B : Obj) : CBox w.heap.size cs t ((w.alloc (.cells cs t)).alloc B) := CBox.kp (CBox.new w _ _) (Kp.alloc _ _) (by simp)
theorem may_b1 (w : World) (cs : Array Value) (t : TypeId) (A : Obj) : CBox (w.heap.size + 1) cs t ((w.alloc A).alloc (.cells cs t)) := by
  have := CBox.new (w.alloc A) cs t
  rwa [show (w.alloc A).heap.size = w.heap.size + 1 by simp] at this
set_option maxHeartbeats 2000000 in
set_option maxRecDepth 100000 in
theorem rMay_text (p : Pt) (w : World) (hk : p.kd = 2) (hs : p.s.size ≤ 140737488351232) : Calls Tryz.prog 110 #[p.v] w fun e w' => e = .returned (.bool (mayP p)) ∧ Below w.heap.size w w' := by
  rw [may_text p hk]
  obtain ⟨k, n, s, st, fl⟩ := p
  dsimp only at hk hs
  subst hk
  have WR := hide (fun W => rWritten_any ⟨3, s, 0, 0⟩ W hs (by dsimp only; omega) (by dsimp only; omega))
  rw [isTx_wr] at WR
  have q := fun W => eqP 9998 ⟨2, n, txt [], st, fl⟩ (opP 2) W
  rw [ptEq_bare, show emptyB (txt []) = true from rfl, Bool.true_and] at q
  generalize (decide (n = 0) && (emptyB st && decide (fl = 0))) = R at *
  unfold Pt.v opP txt at *
  unfold Tk.v at WR
  dsimp only at *
  have HL : Hid (∀ W, Below ((w.alloc (.cells #[.int .i64 2, .int .i64 n, .string s, .string st, .int .i64 fl] 86)).alloc (.cells #[.int .i64 2, .int .i64 n, .string ⟨#[]⟩, .string st, .int .i64 fl] 86)).heap.size ((w.alloc (.cells #[.int .i64 2, .int .i64 n, .string s, .string st, .int .i64 fl] 86)).alloc (.cells #[.int .i64 2, .int .i64 n, .string ⟨#[]⟩, .string st, .int .i64 fl] 86)) W → CBox w.heap.size #[.int .i64 2, .int .i64 n, .string s, .string st, .int .i64 fl] 86 W ∧ CBox (w.heap.size + 1) #[.int .i64 2, .int .i64 n, .string ⟨#[]⟩, .string st, .int .i64 fl] 86 W ∧ Hid (Below w.heap.size w W)) := hide (fun W hb => ⟨(may_b0 w _ _ _).kp (Kp.ofBelow hb) (by simp), (may_b1 w _ _ _).kp (Kp.ofBelow hb) (by simp), hide ((may_w0 w _ _).trans (hb.mono (by simp; omega)))⟩)
  cases ht : isTx s with
  | true =>
    rw [ht] at WR
    clear ht
    rw [Bool.true_and]
    go_enter Tryz.func110, Tryz.ntmps110
    go_wp2_with fail
    refine (unhide WR _).mono ?_
    rintro e w1 ⟨b, rfl, _, hb⟩
    obtain ⟨b0, b1, HB⟩ := unhide HL w1 hb
    obtain ⟨⟨x0, x1, x2, x3, x4⟩, _⟩ := pt_put b0
    obtain ⟨⟨y0, y1, y2, y3, y4⟩, _⟩ := pt_put b1
    clear WR HL hb b0 b1
    go_wp2
    go_ret
    exact ⟨rfl, unhide HB⟩
  | false =>
    rw [ht] at WR
    clear ht
    rw [Bool.false_and]
    go_enter Tryz.func110, Tryz.ntmps110
    go_wp2_with fail
    refine (unhide WR _).mono ?_
    rintro e w1 ⟨b, rfl, _, hb⟩
    obtain ⟨_, _, HB⟩ := unhide HL w1 hb
    clear WR HL hb
    go_wp2
    go_ret
    exact ⟨rfl, unhide HB⟩
set_option maxHeartbeats 2000000 in
set_option maxRecDepth 100000 in
theorem rMay_op (p : Pt) (w : World) (hk : p.kd ≠ 1 ∧ p.kd ≠ 2 ∧ p.kd ≠ 3) : Calls Tryz.prog 110 #[p.v] w fun e w' => e = .returned (.bool (mayP p)) ∧ Below w.heap.size w w' := by
  rw [may_op p hk]
  have q := fun W => eqP 9998 p (opP p.kd) W
  rw [eqPk] at q
  generalize bareP p = R at *
  obtain ⟨k, n, s, st, fl⟩ := p
  obtain ⟨k1, k2, k3⟩ := hk
  dsimp only at k1 k2 k3 q ⊢
  unfold Pt.v opP txt at *
  dsimp only at *
  have g1 : (k == 1) = false := beq_eq_false_iff_ne.2 k1
  have g2 : (k == 2) = false := beq_eq_false_iff_ne.2 k2
  have g3 : (k == 3) = false := beq_eq_false_iff_ne.2 k3
  by_cases h1 : 1 ≤ k
  · rw [decide_eq_true h1, Bool.true_and]
    by_cases h2 : k ≤ 13
    · rw [decide_eq_true h2, Bool.true_and]
      go_enter Tryz.func110, Tryz.ntmps110
      go_wp2
      go_ret
      exact ⟨rfl, ((Below.refl _ _).alloc (Nat.le_refl _) _).alloc (by simp) _⟩
    · rw [decide_eq_false h2, Bool.false_and]
      go_enter Tryz.func110, Tryz.ntmps110
      go_wp2
      go_ret
      exact ⟨rfl, ((Below.refl _ _).alloc (Nat.le_refl _) _).alloc (by simp) _⟩
  · rw [decide_eq_false h1, Bool.false_and]
    go_enter Tryz.func110, Tryz.ntmps110
    go_wp2
    go_ret
    exact ⟨rfl, ((Below.refl _ _).alloc (Nat.le_refl _) _).alloc (by simp) _⟩
set_option maxHeartbeats 4000000 in
set_option maxRecDepth 100000 in
theorem rMay_field (p : Pt) (w : World) (hk : p.kd = 3) (hs : p.st.size ≤ 9223372036854775807) : Calls Tryz.prog 110 #[p.v] w fun e w' => e = .returned (.bool (mayP p)) ∧ Below w.heap.size w w' := by
  rw [may_field p hk]
  obtain ⟨k, n, s, st, fl⟩ := p
  dsimp only at hk hs ⊢
  subst hk
  have q := fun W => eqP 9998 ⟨3, n, s, txt [], 0⟩ (opP 3) W
  rw [ptEq_bare, show emptyB (txt []) = true from rfl, decide_eq_true (show (0 : Int) = 0 from rfl), Bool.true_and, Bool.and_true] at q
  have HNM := hide (fun W => refNamed_any st W hs)
  have HKW := hide (fun W => rKeyword_any st W)
  have HSG := hide (fun h => sg_ask st h)
  generalize (decide (n = 0) && emptyB s) = R at *
  unfold Pt.v opP txt at *
  dsimp only at *
  have HL : Hid (∀ W, Kp [] ((w.alloc (.cells #[.int .i64 3, .int .i64 n, .string s, .string st, .int .i64 fl] 86)).alloc (.cells #[.int .i64 3, .int .i64 n, .string s, .string ⟨#[]⟩, .int .i64 0] 86)) W → CBox w.heap.size #[.int .i64 3, .int .i64 n, .string s, .string st, .int .i64 fl] 86 W ∧ CBox (w.heap.size + 1) #[.int .i64 3, .int .i64 n, .string s, .string ⟨#[]⟩, .int .i64 0] 86 W ∧ Hid (Below w.heap.size w W)) := hide (fun W hb => ⟨(may_b0 w _ _ _).kp hb (by simp), (may_b1 w _ _ _).kp hb (by simp), hide ((may_w0 w _ _).trans (hb.below (by simp; omega) (by simp)))⟩)
  obtain ⟨SB, hSB⟩ : ∃ SB, (emptyB st || isSg st) = SB := ⟨_, rfl⟩
  rw [hSB]
  have HSB := hide hSB
  clear hSB
  go_enter Tryz.func110, Tryz.ntmps110
  go_upto_region 14 with fail
  go_cut [60] (fun v wc => v = .bool (!(SB && (decide (0 ≤ fl) && decide (fl ≤ 5)))) ∧ Hid (Kp [] ((w.alloc (.cells #[.int .i64 3, .int .i64 n, .string s, .string st, .int .i64 fl] 86)).alloc (.cells #[.int .i64 3, .int .i64 n, .string s, .string ⟨#[]⟩, .int .i64 0] 86)) wc))
  case first =>
    obtain ⟨b0, b1, _⟩ := unhide HL _ (Kp.refl _ _)
    obtain ⟨⟨x0, x1, x2, x3, x4⟩, _⟩ := pt_put b0
    clear b0 b1 q
    by_cases he : emptyB st = true
    · have g1 : st.toList.isEmpty = true := by rw [emp_toList]; exact he
      obtain rfl : SB = true := by rw [← unhide HSB, he]; rfl
      clear he HSB HNM HKW HSG HL
      by_cases f0 : 0 ≤ fl
      · have gf : (fl < 0) = False := eq_false (by omega)
        by_cases f5 : fl ≤ 5
        · have gg : (5 < fl) = False := eq_false (by omega)
          go_wp2
          go_meet
          exact ⟨by rw [decide_eq_true (show 0 ≤ fl by omega), decide_eq_true (show fl ≤ 5 by omega)]; rfl, hide (Kp.refl _ _)⟩
        · have gg : (5 < fl) = True := eq_true (by omega)
          go_wp2
          go_meet
          exact ⟨by rw [decide_eq_true (show 0 ≤ fl by omega), decide_eq_false (show ¬ fl ≤ 5 by omega)]; rfl, hide (Kp.refl _ _)⟩
      · have gf : (fl < 0) = True := eq_true (by omega)
        go_wp2
        go_meet
        exact ⟨by rw [decide_eq_false (show ¬ 0 ≤ fl by omega)]; rfl, hide (Kp.refl _ _)⟩
    · have he' : emptyB st = false := by simpa using he
      have g1 : st.toList.isEmpty = false := by rw [emp_toList]; exact he'
      have h0 : 0 < st.size := by
        unfold emptyB at he'
        have := beq_eq_false_iff_ne.1 he'
        omega
      have HS2 : Hid ((nameB st && (decide (97 ≤ st[0].toNat) && freeW st.data.toList)) = SB) := hide (by rw [← unhide HSB, he', Bool.false_or, unhide HSG h0])
      clear he he' HSB HSG
      cases hnm : nameB st with
      | false =>
        obtain rfl : SB = false := by rw [← unhide HS2, hnm]; rfl
        rw [hnm] at HNM
        clear hnm HS2 HKW HL
        go_wp2_with fail
        refine (unhide HNM _).mono ?_
        rintro e w1 ⟨rfl, rfl⟩
        clear HNM
        go_wp2
        go_meet
        exact ⟨rfl, hide (Kp.refl _ _)⟩
      | true =>
        rw [hnm] at HNM
        by_cases h97 : 97 ≤ st[0].toNat
        · have gi : ((st[0].toNat : Int) < 97) = False := eq_false (by omega)
          have HKW2 := hide (unhide HKW ((w.alloc (.cells #[.int .i64 3, .int .i64 n, .string s, .string st, .int .i64 fl] 86)).alloc (.cells #[.int .i64 3, .int .i64 n, .string s, .string ⟨#[]⟩, .int .i64 0] 86)))
          have HS3 : Hid (freeW st.data.toList = SB) := hide (by rw [← unhide HS2, hnm, decide_eq_true h97]; rfl)
          rw [unhide HS3] at HKW2
          clear HS2 HKW hnm h97
          cases SB with
          | false =>
            go_wp2_with fail
            refine (unhide HNM _).mono ?_
            rintro e w1 ⟨rfl, rfl⟩
            clear HNM
            go_wp2_with fail
            refine (unhide HKW2).mono ?_
            rintro e w1 ⟨rfl, hk1⟩
            clear HKW2
            go_wp2
            go_meet
            exact ⟨rfl, hide hk1⟩
          | true =>
            go_wp2_with fail
            refine (unhide HNM _).mono ?_
            rintro e w1 ⟨rfl, rfl⟩
            clear HNM
            go_wp2_with fail
            refine (unhide HKW2).mono ?_
            rintro e w1 ⟨rfl, hk1⟩
            obtain ⟨b0, _, _⟩ := unhide HL w1 hk1
            clear x0 x1 x2 x3 x4 HKW2
            obtain ⟨⟨x0, x1, x2, x3, x4⟩, _⟩ := pt_put b0
            have HK1 := hide hk1
            clear b0 hk1 HL
            by_cases f0 : 0 ≤ fl
            · have gf : (fl < 0) = False := eq_false (by omega)
              by_cases f5 : fl ≤ 5
              · have gg : (5 < fl) = False := eq_false (by omega)
                go_wp2
                go_meet
                exact ⟨by rw [decide_eq_true (show 0 ≤ fl by omega), decide_eq_true (show fl ≤ 5 by omega)]; rfl, HK1⟩
              · have gg : (5 < fl) = True := eq_true (by omega)
                go_wp2
                go_meet
                exact ⟨by rw [decide_eq_true (show 0 ≤ fl by omega), decide_eq_false (show ¬ fl ≤ 5 by omega)]; rfl, HK1⟩
            · have gf : (fl < 0) = True := eq_true (by omega)
              go_wp2
              go_meet
              exact ⟨by rw [decide_eq_false (show ¬ 0 ≤ fl by omega)]; rfl, HK1⟩
        · have gi : ((st[0].toNat : Int) < 97) = True := eq_true (by omega)
          obtain rfl : SB = false := by rw [← unhide HS2, hnm, decide_eq_false h97]; rfl
          clear HS2 HKW hnm h97 HL
          go_wp2_with fail
          refine (unhide HNM _).mono ?_
          rintro e w1 ⟨rfl, rfl⟩
          clear HNM
          go_wp2
          go_meet
          exact ⟨rfl, hide (Kp.refl _ _)⟩
  case rest =>
    obtain ⟨rfl, HKC⟩ := hcut
    obtain ⟨b0, b1, HB⟩ := unhide HL wc (unhide HKC)
    obtain ⟨⟨x0, x1, x2, x3, x4⟩, _⟩ := pt_put b0
    obtain ⟨⟨y0, y1, y2, y3, y4⟩, _⟩ := pt_put b1
    clear b0 b1 HL HKC HNM HKW HSG HSB
    have HR : Hid ((SB && (decide (0 ≤ fl) && (decide (fl ≤ 5) && R))) = ((SB && (decide (0 ≤ fl) && decide (fl ≤ 5))) && R)) := hide (by cases SB <;> cases decide (0 ≤ fl) <;> cases decide (fl ≤ 5) <;> rfl)
    generalize (SB && (decide (0 ≤ fl) && decide (fl ≤ 5))) = C at *
    cases C with
    | false =>
      go_wp2
      go_ret
      exact ⟨by rw [unhide HR]; rfl, unhide HB⟩
    | true =>
      go_wp2
      go_ret
      exact ⟨by rw [unhide HR]; rfl, unhide HB⟩
/-- May a part be, as the document has it. -/
theorem rMay_any (p : Pt) (w : World) (hs : p.s.size ≤ 140737488351232) (hst : p.st.size ≤ 9223372036854775807) : Calls Tryz.prog 110 #[p.v] w fun e w' => e = .returned (.bool (mayP p)) ∧ Below w.heap.size w w' := by
  by_cases h1 : p.kd = 1
  · exact rMay_num p w h1
  · by_cases h2 : p.kd = 2
    · exact rMay_text p w h2 hs
    · by_cases h3 : p.kd = 3
      · exact rMay_field p w h3 hst
      · exact rMay_op p w ⟨h1, h2, h3⟩
end Go.Proofs.YtjijhefmbmdbeaaGreatDoor
