/-
  Two parts held against one another; the kind of a leaf.
-/
import Derived.Test.YtogklmljllocbabGreatDoorF09
namespace Go.Proofs.YtogklmljllocbabGreatDoor
open Go.RowKit

def Pt.v (p : Pt) : Value := .agg #[.int .i64 p.kd, .int .i64 p.n, .string p.s, .string p.st, .int .i64 p.fl]
def Pt.c (p : Pt) : Array Value := #[.int .i64 p.kd, .int .i64 p.n, .string p.s, .string p.st, .int .i64 p.fl]
/-- The same? -/
def ptEq (a b : Pt) : Bool := a.kd == b.kd && (a.n == b.n && (a.s.data.toList == b.s.data.toList && (a.st.data.toList == b.st.data.toList && a.fl == b.fl)))
theorem ptEq_iff (a b : Pt) : ptEq a b = true ↔ a = b := by
  obtain ⟨k, n, s, t, f⟩ := a
  obtain ⟨k', n', s', t', f'⟩ := b
  unfold ptEq
  simp only [Bool.and_eq_true, beq_iff_eq, Pt.mk.injEq]
  constructor
  · rintro ⟨h1, h2, h3, h4, h5⟩
    exact ⟨h1, h2, by rw [← txt_self s, ← txt_self s', h3], by rw [← txt_self t, ← txt_self t', h4], h5⟩
  · rintro ⟨h1, h2, h3, h4, h5⟩
    exact ⟨h1, h2, by rw [h3], by rw [h4], h5⟩
theorem eqP (d : Nat) (a b : Pt) (w : World) : (Op.equalIn (d + 2) 89 a.v b.v).run Tryz.prog w = .ok (ptEq a b) w := by
  obtain ⟨k, n, s, t, f⟩ := a
  obtain ⟨k', n', s', t', f'⟩ := b
  have hi := fun (a b : Int) (w : World) => run_equalIn_int (P := Tryz.prog) w d 3 .i64 .i64 a b Tryz.underlying3
  have hi6 := fun (a b : Int) (w : World) => run_equalIn_int (P := Tryz.prog) w d 2 .i64 .i64 a b Tryz.underlying2
  have hs := fun (a b : ByteArray) (w : World) => run_equalIn_string (P := Tryz.prog) w d 9 a b Tryz.underlying9
  unfold Op.equalIn Pt.v ptEq
  simp only [Sem.run_bind, run_underlying Tryz.underlying89, Result.andThen_ok]
  simp [part, Tryz.sizeOf3, Tryz.sizeOf2, Tryz.sizeOf9, go_sem, hi, hi6, hs, ByteArray.toList_eq]
  by_cases h0 : k = k' <;> by_cases h1 : n = n' <;> by_cases h2 : s.data = s'.data <;> by_cases h3 : t.data = t'.data <;> by_cases h4 : f = f' <;> simp [h0, h1, h2, h3, h4]
theorem emp_iff (s : ByteArray) : emptyB s = true ↔ s = txt [] := ⟨empty_txt, fun h => by rw [h]; rfl⟩
theorem emp_list (s : ByteArray) : s.toList.isEmpty = emptyB s := by
  rw [toList_data]
  unfold emptyB
  rw [Bool.eq_iff_iff, List.isEmpty_iff, beq_iff_eq]
  exact List.length_eq_zero_iff.symm
theorem eqP1 (p : Pt) : ptEq p ⟨1, p.n, txt [], txt [], 0⟩ = true ↔ p.kd = 1 ∧ emptyB p.s = true ∧ emptyB p.st = true ∧ p.fl = 0 := by
  obtain ⟨k, n, s, t, f⟩ := p
  rw [ptEq_iff, emp_iff, emp_iff]
  simp
theorem eqP2 (p : Pt) : ptEq p ⟨2, 0, p.s, txt [], 0⟩ = true ↔ p.kd = 2 ∧ p.n = 0 ∧ emptyB p.st = true ∧ p.fl = 0 := by
  obtain ⟨k, n, s, t, f⟩ := p
  rw [ptEq_iff, emp_iff]
  simp
theorem eqP3 (p : Pt) : ptEq p ⟨3, 0, txt [], p.st, p.fl⟩ = true ↔ p.kd = 3 ∧ p.n = 0 ∧ emptyB p.s = true := by
  obtain ⟨k, n, s, t, f⟩ := p
  rw [ptEq_iff, emp_iff]
  simp
theorem eqPk (p : Pt) : ptEq p (opP p.kd) = bareP p := by
  obtain ⟨k, n, s, t, f⟩ := p
  rw [Bool.eq_iff_iff, ptEq_iff]
  unfold opP bareP
  simp [emp_iff]
/-- The kind of a leaf, as it is asked for. -/
theorem lfK_ask (p : Pt) : lfK p = if ptEq p ⟨1, p.n, txt [], txt [], 0⟩ = true ∧ 0 ≤ p.n then 1 else if ptEq p ⟨2, 0, p.s, txt [], 0⟩ = true ∧ isTx p.s = true then 2 else if ptEq p ⟨3, 0, txt [], p.st, p.fl⟩ = true ∧ (emptyB p.st = true ∨ isSg p.st = true) then fldK p.fl else 0 := by
  unfold lfK
  simp only [eqP1, eqP2, eqP3, and_assoc]
/-- Parts that a Go program can hold. -/
def Pt.fit (p : Pt) : Prop := p.st.size ≤ 9223372036854775807
theorem part_left {w W : World} {a b c d e : Value} (h : CBox w.heap.size #[a, b, c, d, e] 89 (w.alloc (.cells #[a, b, c, d, e] 89))) (hk : Kp [] (w.alloc (.cells #[a, b, c, d, e] 89)) W) (hT : TbE w) :
    (W.cell? ⟨w.heap.size, 0, none⟩ = some a ∧ W.cell? ⟨w.heap.size, 1, none⟩ = some b ∧ W.cell? ⟨w.heap.size, 2, none⟩ = some c ∧ W.cell? ⟨w.heap.size, 3, none⟩ = some d ∧ W.cell? ⟨w.heap.size, 4, none⟩ = some e) ∧ Hid (TbE W) ∧ Hid (Below w.heap.size w W) := by
  have h2 := h.kp hk (by simp)
  exact ⟨⟨h2.cell rfl, h2.cell rfl, h2.cell rfl, h2.cell rfl, h2.cell rfl⟩, hide ((hT.alloc _).kp hk (by simp)), hide (((Below.refl _ _).alloc (Nat.le_refl _) _).trans (hk.below (by simp) (by simp)))⟩
set_option maxHeartbeats 2000000 in
set_option maxRecDepth 100000 in
theorem leafKind_any (p : Pt) (w : World) (hT : TbE w) (hf : p.fit) : Calls Tryz.prog 153 #[p.v] w fun e w' => e = .returned (.int .i64 (lfK p)) ∧ Below w.heap.size w w' := by
  have q1 := fun W => eqP 9998 p ⟨1, p.n, txt [], txt [], 0⟩ W
  have q2 := fun W => eqP 9998 p ⟨2, 0, p.s, txt [], 0⟩ W
  have q3 := fun W => eqP 9998 p ⟨3, 0, txt [], p.st, p.fl⟩ W
  have TX := hide (fun W => isText_any p.s W)
  have SG := hide (fun W hW => isStage_any p.st W hW hf)
  have FK := hide (fun W => fieldKind_any p.fl W)
  have em := emp_list p.st
  rw [lfK_ask]
  generalize ptEq p ⟨1, p.n, txt [], txt [], 0⟩ = b1 at *
  generalize ptEq p ⟨2, 0, p.s, txt [], 0⟩ = b2 at *
  generalize ptEq p ⟨3, 0, txt [], p.st, p.fl⟩ = b3 at *
  generalize isTx p.s = bt at *
  generalize isSg p.st = bs at *
  generalize emptyB p.st = be at *
  generalize fldK p.fl = K at *
  clear hf
  obtain ⟨kd, n, s, st, fl⟩ := p
  unfold Pt.v txt at *
  dsimp only at *
  have CX : CBox w.heap.size #[.int .i64 kd, .int .i64 n, .string s, .string st, .int .i64 fl] 89 (w.alloc (.cells #[.int .i64 kd, .int .i64 n, .string s, .string st, .int .i64 fl] 89)) := CBox.new w _ _
  have HT0 := hide (hT.alloc (.cells #[.int .i64 kd, .int .i64 n, .string s, .string st, .int .i64 fl] 89))
  have HB0 : Hid (Below w.heap.size w (w.alloc (.cells #[.int .i64 kd, .int .i64 n, .string s, .string st, .int .i64 fl] 89))) := hide ((Below.refl _ _).alloc (Nat.le_refl _) _)
  have PC := hide (fun W (hk : Kp [] (w.alloc (.cells #[.int .i64 kd, .int .i64 n, .string s, .string st, .int .i64 fl] 89)) W) => part_left CX hk hT)
  clear hT CX
  go_enter Tryz.func153, Tryz.ntmps153
  by_cases hn : 0 ≤ n
  · cases b1
    · have h0 : ¬ (false = true ∧ 0 ≤ n) := by simp
      cases b2
      · have h1 : ¬ (false = true ∧ bt = true) := by simp
        cases b3
        · rw [if_neg h0, if_neg h1, if_neg (by simp)]
          go_wp2_with (first
            | (go_at_call 199; refine (unhide TX _).mono ?_; rintro e w1 ⟨rfl, hk⟩; obtain ⟨⟨d0, d1, d2, d3, d4⟩, HT1, HB1⟩ := unhide PC w1 hk; clear hk PC)
            | (go_at_call 200; first | (refine (unhide SG _ (unhide HT1)).mono ?_; rintro e w2 ⟨rfl, hw2⟩; subst hw2; clear HT1) | (refine (unhide SG _ (unhide HT0)).mono ?_; rintro e w2 ⟨rfl, hw2⟩; subst hw2; clear HT0))
            | (go_at_call 201; refine (unhide FK _).mono ?_; rintro e w3 ⟨rfl, hw3⟩; subst hw3))
          go_ret
          first | exact ⟨rfl, unhide HB1⟩ | exact ⟨rfl, unhide HB0⟩
        · cases be
          · cases bs
            · rw [if_neg h0, if_neg h1, if_neg (by simp)]
              go_wp2_with (first
                | (go_at_call 199; refine (unhide TX _).mono ?_; rintro e w1 ⟨rfl, hk⟩; obtain ⟨⟨d0, d1, d2, d3, d4⟩, HT1, HB1⟩ := unhide PC w1 hk; clear hk PC)
                | (go_at_call 200; first | (refine (unhide SG _ (unhide HT1)).mono ?_; rintro e w2 ⟨rfl, hw2⟩; subst hw2; clear HT1) | (refine (unhide SG _ (unhide HT0)).mono ?_; rintro e w2 ⟨rfl, hw2⟩; subst hw2; clear HT0))
                | (go_at_call 201; refine (unhide FK _).mono ?_; rintro e w3 ⟨rfl, hw3⟩; subst hw3))
              go_ret
              first | exact ⟨rfl, unhide HB1⟩ | exact ⟨rfl, unhide HB0⟩
            · rw [if_neg h0, if_neg h1, if_pos (by simp)]
              go_wp2_with (first
                | (go_at_call 199; refine (unhide TX _).mono ?_; rintro e w1 ⟨rfl, hk⟩; obtain ⟨⟨d0, d1, d2, d3, d4⟩, HT1, HB1⟩ := unhide PC w1 hk; clear hk PC)
                | (go_at_call 200; first | (refine (unhide SG _ (unhide HT1)).mono ?_; rintro e w2 ⟨rfl, hw2⟩; subst hw2; clear HT1) | (refine (unhide SG _ (unhide HT0)).mono ?_; rintro e w2 ⟨rfl, hw2⟩; subst hw2; clear HT0))
                | (go_at_call 201; refine (unhide FK _).mono ?_; rintro e w3 ⟨rfl, hw3⟩; subst hw3))
              go_ret
              first | exact ⟨rfl, unhide HB1⟩ | exact ⟨rfl, unhide HB0⟩
          · rw [if_neg h0, if_neg h1, if_pos (by simp)]
            go_wp2_with (first
              | (go_at_call 199; refine (unhide TX _).mono ?_; rintro e w1 ⟨rfl, hk⟩; obtain ⟨⟨d0, d1, d2, d3, d4⟩, HT1, HB1⟩ := unhide PC w1 hk; clear hk PC)
              | (go_at_call 200; first | (refine (unhide SG _ (unhide HT1)).mono ?_; rintro e w2 ⟨rfl, hw2⟩; subst hw2; clear HT1) | (refine (unhide SG _ (unhide HT0)).mono ?_; rintro e w2 ⟨rfl, hw2⟩; subst hw2; clear HT0))
              | (go_at_call 201; refine (unhide FK _).mono ?_; rintro e w3 ⟨rfl, hw3⟩; subst hw3))
            go_ret
            first | exact ⟨rfl, unhide HB1⟩ | exact ⟨rfl, unhide HB0⟩
      · cases bt
        · have h1 : ¬ (true = true ∧ false = true) := by simp
          cases b3
          · rw [if_neg h0, if_neg h1, if_neg (by simp)]
            go_wp2_with (first
              | (go_at_call 199; refine (unhide TX _).mono ?_; rintro e w1 ⟨rfl, hk⟩; obtain ⟨⟨d0, d1, d2, d3, d4⟩, HT1, HB1⟩ := unhide PC w1 hk; clear hk PC)
              | (go_at_call 200; first | (refine (unhide SG _ (unhide HT1)).mono ?_; rintro e w2 ⟨rfl, hw2⟩; subst hw2; clear HT1) | (refine (unhide SG _ (unhide HT0)).mono ?_; rintro e w2 ⟨rfl, hw2⟩; subst hw2; clear HT0))
              | (go_at_call 201; refine (unhide FK _).mono ?_; rintro e w3 ⟨rfl, hw3⟩; subst hw3))
            go_ret
            first | exact ⟨rfl, unhide HB1⟩ | exact ⟨rfl, unhide HB0⟩
          · cases be
            · cases bs
              · rw [if_neg h0, if_neg h1, if_neg (by simp)]
                go_wp2_with (first
                  | (go_at_call 199; refine (unhide TX _).mono ?_; rintro e w1 ⟨rfl, hk⟩; obtain ⟨⟨d0, d1, d2, d3, d4⟩, HT1, HB1⟩ := unhide PC w1 hk; clear hk PC)
                  | (go_at_call 200; first | (refine (unhide SG _ (unhide HT1)).mono ?_; rintro e w2 ⟨rfl, hw2⟩; subst hw2; clear HT1) | (refine (unhide SG _ (unhide HT0)).mono ?_; rintro e w2 ⟨rfl, hw2⟩; subst hw2; clear HT0))
                  | (go_at_call 201; refine (unhide FK _).mono ?_; rintro e w3 ⟨rfl, hw3⟩; subst hw3))
                go_ret
                first | exact ⟨rfl, unhide HB1⟩ | exact ⟨rfl, unhide HB0⟩
              · rw [if_neg h0, if_neg h1, if_pos (by simp)]
                go_wp2_with (first
                  | (go_at_call 199; refine (unhide TX _).mono ?_; rintro e w1 ⟨rfl, hk⟩; obtain ⟨⟨d0, d1, d2, d3, d4⟩, HT1, HB1⟩ := unhide PC w1 hk; clear hk PC)
                  | (go_at_call 200; first | (refine (unhide SG _ (unhide HT1)).mono ?_; rintro e w2 ⟨rfl, hw2⟩; subst hw2; clear HT1) | (refine (unhide SG _ (unhide HT0)).mono ?_; rintro e w2 ⟨rfl, hw2⟩; subst hw2; clear HT0))
                  | (go_at_call 201; refine (unhide FK _).mono ?_; rintro e w3 ⟨rfl, hw3⟩; subst hw3))
                go_ret
                first | exact ⟨rfl, unhide HB1⟩ | exact ⟨rfl, unhide HB0⟩
            · rw [if_neg h0, if_neg h1, if_pos (by simp)]
              go_wp2_with (first
                | (go_at_call 199; refine (unhide TX _).mono ?_; rintro e w1 ⟨rfl, hk⟩; obtain ⟨⟨d0, d1, d2, d3, d4⟩, HT1, HB1⟩ := unhide PC w1 hk; clear hk PC)
                | (go_at_call 200; first | (refine (unhide SG _ (unhide HT1)).mono ?_; rintro e w2 ⟨rfl, hw2⟩; subst hw2; clear HT1) | (refine (unhide SG _ (unhide HT0)).mono ?_; rintro e w2 ⟨rfl, hw2⟩; subst hw2; clear HT0))
                | (go_at_call 201; refine (unhide FK _).mono ?_; rintro e w3 ⟨rfl, hw3⟩; subst hw3))
              go_ret
              first | exact ⟨rfl, unhide HB1⟩ | exact ⟨rfl, unhide HB0⟩
        · rw [if_neg h0, if_pos (by simp)]
          go_wp2_with (first
            | (go_at_call 199; refine (unhide TX _).mono ?_; rintro e w1 ⟨rfl, hk⟩; obtain ⟨⟨d0, d1, d2, d3, d4⟩, HT1, HB1⟩ := unhide PC w1 hk; clear hk PC)
            | (go_at_call 200; first | (refine (unhide SG _ (unhide HT1)).mono ?_; rintro e w2 ⟨rfl, hw2⟩; subst hw2; clear HT1) | (refine (unhide SG _ (unhide HT0)).mono ?_; rintro e w2 ⟨rfl, hw2⟩; subst hw2; clear HT0))
            | (go_at_call 201; refine (unhide FK _).mono ?_; rintro e w3 ⟨rfl, hw3⟩; subst hw3))
          go_ret
          first | exact ⟨rfl, unhide HB1⟩ | exact ⟨rfl, unhide HB0⟩
    · rw [if_pos ⟨rfl, hn⟩]
      go_wp2_with (first
        | (go_at_call 199; refine (unhide TX _).mono ?_; rintro e w1 ⟨rfl, hk⟩; obtain ⟨⟨d0, d1, d2, d3, d4⟩, HT1, HB1⟩ := unhide PC w1 hk; clear hk PC)
        | (go_at_call 200; first | (refine (unhide SG _ (unhide HT1)).mono ?_; rintro e w2 ⟨rfl, hw2⟩; subst hw2; clear HT1) | (refine (unhide SG _ (unhide HT0)).mono ?_; rintro e w2 ⟨rfl, hw2⟩; subst hw2; clear HT0))
        | (go_at_call 201; refine (unhide FK _).mono ?_; rintro e w3 ⟨rfl, hw3⟩; subst hw3))
      go_ret
      first | exact ⟨rfl, unhide HB1⟩ | exact ⟨rfl, unhide HB0⟩
  · cases b1
    · have h0 : ¬ (false = true ∧ 0 ≤ n) := by simp
      cases b2
      · have h1 : ¬ (false = true ∧ bt = true) := by simp
        cases b3
        · rw [if_neg h0, if_neg h1, if_neg (by simp)]
          go_wp2_with (first
            | (go_at_call 199; refine (unhide TX _).mono ?_; rintro e w1 ⟨rfl, hk⟩; obtain ⟨⟨d0, d1, d2, d3, d4⟩, HT1, HB1⟩ := unhide PC w1 hk; clear hk PC)
            | (go_at_call 200; first | (refine (unhide SG _ (unhide HT1)).mono ?_; rintro e w2 ⟨rfl, hw2⟩; subst hw2; clear HT1) | (refine (unhide SG _ (unhide HT0)).mono ?_; rintro e w2 ⟨rfl, hw2⟩; subst hw2; clear HT0))
            | (go_at_call 201; refine (unhide FK _).mono ?_; rintro e w3 ⟨rfl, hw3⟩; subst hw3))
          go_ret
          first | exact ⟨rfl, unhide HB1⟩ | exact ⟨rfl, unhide HB0⟩
        · cases be
          · cases bs
            · rw [if_neg h0, if_neg h1, if_neg (by simp)]
              go_wp2_with (first
                | (go_at_call 199; refine (unhide TX _).mono ?_; rintro e w1 ⟨rfl, hk⟩; obtain ⟨⟨d0, d1, d2, d3, d4⟩, HT1, HB1⟩ := unhide PC w1 hk; clear hk PC)
                | (go_at_call 200; first | (refine (unhide SG _ (unhide HT1)).mono ?_; rintro e w2 ⟨rfl, hw2⟩; subst hw2; clear HT1) | (refine (unhide SG _ (unhide HT0)).mono ?_; rintro e w2 ⟨rfl, hw2⟩; subst hw2; clear HT0))
                | (go_at_call 201; refine (unhide FK _).mono ?_; rintro e w3 ⟨rfl, hw3⟩; subst hw3))
              go_ret
              first | exact ⟨rfl, unhide HB1⟩ | exact ⟨rfl, unhide HB0⟩
            · rw [if_neg h0, if_neg h1, if_pos (by simp)]
              go_wp2_with (first
                | (go_at_call 199; refine (unhide TX _).mono ?_; rintro e w1 ⟨rfl, hk⟩; obtain ⟨⟨d0, d1, d2, d3, d4⟩, HT1, HB1⟩ := unhide PC w1 hk; clear hk PC)
                | (go_at_call 200; first | (refine (unhide SG _ (unhide HT1)).mono ?_; rintro e w2 ⟨rfl, hw2⟩; subst hw2; clear HT1) | (refine (unhide SG _ (unhide HT0)).mono ?_; rintro e w2 ⟨rfl, hw2⟩; subst hw2; clear HT0))
                | (go_at_call 201; refine (unhide FK _).mono ?_; rintro e w3 ⟨rfl, hw3⟩; subst hw3))
              go_ret
              first | exact ⟨rfl, unhide HB1⟩ | exact ⟨rfl, unhide HB0⟩
          · rw [if_neg h0, if_neg h1, if_pos (by simp)]
            go_wp2_with (first
              | (go_at_call 199; refine (unhide TX _).mono ?_; rintro e w1 ⟨rfl, hk⟩; obtain ⟨⟨d0, d1, d2, d3, d4⟩, HT1, HB1⟩ := unhide PC w1 hk; clear hk PC)
              | (go_at_call 200; first | (refine (unhide SG _ (unhide HT1)).mono ?_; rintro e w2 ⟨rfl, hw2⟩; subst hw2; clear HT1) | (refine (unhide SG _ (unhide HT0)).mono ?_; rintro e w2 ⟨rfl, hw2⟩; subst hw2; clear HT0))
              | (go_at_call 201; refine (unhide FK _).mono ?_; rintro e w3 ⟨rfl, hw3⟩; subst hw3))
            go_ret
            first | exact ⟨rfl, unhide HB1⟩ | exact ⟨rfl, unhide HB0⟩
      · cases bt
        · have h1 : ¬ (true = true ∧ false = true) := by simp
          cases b3
          · rw [if_neg h0, if_neg h1, if_neg (by simp)]
            go_wp2_with (first
              | (go_at_call 199; refine (unhide TX _).mono ?_; rintro e w1 ⟨rfl, hk⟩; obtain ⟨⟨d0, d1, d2, d3, d4⟩, HT1, HB1⟩ := unhide PC w1 hk; clear hk PC)
              | (go_at_call 200; first | (refine (unhide SG _ (unhide HT1)).mono ?_; rintro e w2 ⟨rfl, hw2⟩; subst hw2; clear HT1) | (refine (unhide SG _ (unhide HT0)).mono ?_; rintro e w2 ⟨rfl, hw2⟩; subst hw2; clear HT0))
              | (go_at_call 201; refine (unhide FK _).mono ?_; rintro e w3 ⟨rfl, hw3⟩; subst hw3))
            go_ret
            first | exact ⟨rfl, unhide HB1⟩ | exact ⟨rfl, unhide HB0⟩
          · cases be
            · cases bs
              · rw [if_neg h0, if_neg h1, if_neg (by simp)]
                go_wp2_with (first
                  | (go_at_call 199; refine (unhide TX _).mono ?_; rintro e w1 ⟨rfl, hk⟩; obtain ⟨⟨d0, d1, d2, d3, d4⟩, HT1, HB1⟩ := unhide PC w1 hk; clear hk PC)
                  | (go_at_call 200; first | (refine (unhide SG _ (unhide HT1)).mono ?_; rintro e w2 ⟨rfl, hw2⟩; subst hw2; clear HT1) | (refine (unhide SG _ (unhide HT0)).mono ?_; rintro e w2 ⟨rfl, hw2⟩; subst hw2; clear HT0))
                  | (go_at_call 201; refine (unhide FK _).mono ?_; rintro e w3 ⟨rfl, hw3⟩; subst hw3))
                go_ret
                first | exact ⟨rfl, unhide HB1⟩ | exact ⟨rfl, unhide HB0⟩
              · rw [if_neg h0, if_neg h1, if_pos (by simp)]
                go_wp2_with (first
                  | (go_at_call 199; refine (unhide TX _).mono ?_; rintro e w1 ⟨rfl, hk⟩; obtain ⟨⟨d0, d1, d2, d3, d4⟩, HT1, HB1⟩ := unhide PC w1 hk; clear hk PC)
                  | (go_at_call 200; first | (refine (unhide SG _ (unhide HT1)).mono ?_; rintro e w2 ⟨rfl, hw2⟩; subst hw2; clear HT1) | (refine (unhide SG _ (unhide HT0)).mono ?_; rintro e w2 ⟨rfl, hw2⟩; subst hw2; clear HT0))
                  | (go_at_call 201; refine (unhide FK _).mono ?_; rintro e w3 ⟨rfl, hw3⟩; subst hw3))
                go_ret
                first | exact ⟨rfl, unhide HB1⟩ | exact ⟨rfl, unhide HB0⟩
            · rw [if_neg h0, if_neg h1, if_pos (by simp)]
              go_wp2_with (first
                | (go_at_call 199; refine (unhide TX _).mono ?_; rintro e w1 ⟨rfl, hk⟩; obtain ⟨⟨d0, d1, d2, d3, d4⟩, HT1, HB1⟩ := unhide PC w1 hk; clear hk PC)
                | (go_at_call 200; first | (refine (unhide SG _ (unhide HT1)).mono ?_; rintro e w2 ⟨rfl, hw2⟩; subst hw2; clear HT1) | (refine (unhide SG _ (unhide HT0)).mono ?_; rintro e w2 ⟨rfl, hw2⟩; subst hw2; clear HT0))
                | (go_at_call 201; refine (unhide FK _).mono ?_; rintro e w3 ⟨rfl, hw3⟩; subst hw3))
              go_ret
              first | exact ⟨rfl, unhide HB1⟩ | exact ⟨rfl, unhide HB0⟩
        · rw [if_neg h0, if_pos (by simp)]
          go_wp2_with (first
            | (go_at_call 199; refine (unhide TX _).mono ?_; rintro e w1 ⟨rfl, hk⟩; obtain ⟨⟨d0, d1, d2, d3, d4⟩, HT1, HB1⟩ := unhide PC w1 hk; clear hk PC)
            | (go_at_call 200; first | (refine (unhide SG _ (unhide HT1)).mono ?_; rintro e w2 ⟨rfl, hw2⟩; subst hw2; clear HT1) | (refine (unhide SG _ (unhide HT0)).mono ?_; rintro e w2 ⟨rfl, hw2⟩; subst hw2; clear HT0))
            | (go_at_call 201; refine (unhide FK _).mono ?_; rintro e w3 ⟨rfl, hw3⟩; subst hw3))
          go_ret
          first | exact ⟨rfl, unhide HB1⟩ | exact ⟨rfl, unhide HB0⟩
    · have h0 : ¬ (true = true ∧ 0 ≤ n) := fun h => hn h.2
      cases b2
      · have h1 : ¬ (false = true ∧ bt = true) := by simp
        cases b3
        · rw [if_neg h0, if_neg h1, if_neg (by simp)]
          go_wp2_with (first
            | (go_at_call 199; refine (unhide TX _).mono ?_; rintro e w1 ⟨rfl, hk⟩; obtain ⟨⟨d0, d1, d2, d3, d4⟩, HT1, HB1⟩ := unhide PC w1 hk; clear hk PC)
            | (go_at_call 200; first | (refine (unhide SG _ (unhide HT1)).mono ?_; rintro e w2 ⟨rfl, hw2⟩; subst hw2; clear HT1) | (refine (unhide SG _ (unhide HT0)).mono ?_; rintro e w2 ⟨rfl, hw2⟩; subst hw2; clear HT0))
            | (go_at_call 201; refine (unhide FK _).mono ?_; rintro e w3 ⟨rfl, hw3⟩; subst hw3))
          go_ret
          first | exact ⟨rfl, unhide HB1⟩ | exact ⟨rfl, unhide HB0⟩
        · cases be
          · cases bs
            · rw [if_neg h0, if_neg h1, if_neg (by simp)]
              go_wp2_with (first
                | (go_at_call 199; refine (unhide TX _).mono ?_; rintro e w1 ⟨rfl, hk⟩; obtain ⟨⟨d0, d1, d2, d3, d4⟩, HT1, HB1⟩ := unhide PC w1 hk; clear hk PC)
                | (go_at_call 200; first | (refine (unhide SG _ (unhide HT1)).mono ?_; rintro e w2 ⟨rfl, hw2⟩; subst hw2; clear HT1) | (refine (unhide SG _ (unhide HT0)).mono ?_; rintro e w2 ⟨rfl, hw2⟩; subst hw2; clear HT0))
                | (go_at_call 201; refine (unhide FK _).mono ?_; rintro e w3 ⟨rfl, hw3⟩; subst hw3))
              go_ret
              first | exact ⟨rfl, unhide HB1⟩ | exact ⟨rfl, unhide HB0⟩
            · rw [if_neg h0, if_neg h1, if_pos (by simp)]
              go_wp2_with (first
                | (go_at_call 199; refine (unhide TX _).mono ?_; rintro e w1 ⟨rfl, hk⟩; obtain ⟨⟨d0, d1, d2, d3, d4⟩, HT1, HB1⟩ := unhide PC w1 hk; clear hk PC)
                | (go_at_call 200; first | (refine (unhide SG _ (unhide HT1)).mono ?_; rintro e w2 ⟨rfl, hw2⟩; subst hw2; clear HT1) | (refine (unhide SG _ (unhide HT0)).mono ?_; rintro e w2 ⟨rfl, hw2⟩; subst hw2; clear HT0))
                | (go_at_call 201; refine (unhide FK _).mono ?_; rintro e w3 ⟨rfl, hw3⟩; subst hw3))
              go_ret
              first | exact ⟨rfl, unhide HB1⟩ | exact ⟨rfl, unhide HB0⟩
          · rw [if_neg h0, if_neg h1, if_pos (by simp)]
            go_wp2_with (first
              | (go_at_call 199; refine (unhide TX _).mono ?_; rintro e w1 ⟨rfl, hk⟩; obtain ⟨⟨d0, d1, d2, d3, d4⟩, HT1, HB1⟩ := unhide PC w1 hk; clear hk PC)
              | (go_at_call 200; first | (refine (unhide SG _ (unhide HT1)).mono ?_; rintro e w2 ⟨rfl, hw2⟩; subst hw2; clear HT1) | (refine (unhide SG _ (unhide HT0)).mono ?_; rintro e w2 ⟨rfl, hw2⟩; subst hw2; clear HT0))
              | (go_at_call 201; refine (unhide FK _).mono ?_; rintro e w3 ⟨rfl, hw3⟩; subst hw3))
            go_ret
            first | exact ⟨rfl, unhide HB1⟩ | exact ⟨rfl, unhide HB0⟩
      · cases bt
        · have h1 : ¬ (true = true ∧ false = true) := by simp
          cases b3
          · rw [if_neg h0, if_neg h1, if_neg (by simp)]
            go_wp2_with (first
              | (go_at_call 199; refine (unhide TX _).mono ?_; rintro e w1 ⟨rfl, hk⟩; obtain ⟨⟨d0, d1, d2, d3, d4⟩, HT1, HB1⟩ := unhide PC w1 hk; clear hk PC)
              | (go_at_call 200; first | (refine (unhide SG _ (unhide HT1)).mono ?_; rintro e w2 ⟨rfl, hw2⟩; subst hw2; clear HT1) | (refine (unhide SG _ (unhide HT0)).mono ?_; rintro e w2 ⟨rfl, hw2⟩; subst hw2; clear HT0))
              | (go_at_call 201; refine (unhide FK _).mono ?_; rintro e w3 ⟨rfl, hw3⟩; subst hw3))
            go_ret
            first | exact ⟨rfl, unhide HB1⟩ | exact ⟨rfl, unhide HB0⟩
          · cases be
            · cases bs
              · rw [if_neg h0, if_neg h1, if_neg (by simp)]
                go_wp2_with (first
                  | (go_at_call 199; refine (unhide TX _).mono ?_; rintro e w1 ⟨rfl, hk⟩; obtain ⟨⟨d0, d1, d2, d3, d4⟩, HT1, HB1⟩ := unhide PC w1 hk; clear hk PC)
                  | (go_at_call 200; first | (refine (unhide SG _ (unhide HT1)).mono ?_; rintro e w2 ⟨rfl, hw2⟩; subst hw2; clear HT1) | (refine (unhide SG _ (unhide HT0)).mono ?_; rintro e w2 ⟨rfl, hw2⟩; subst hw2; clear HT0))
                  | (go_at_call 201; refine (unhide FK _).mono ?_; rintro e w3 ⟨rfl, hw3⟩; subst hw3))
                go_ret
                first | exact ⟨rfl, unhide HB1⟩ | exact ⟨rfl, unhide HB0⟩
              · rw [if_neg h0, if_neg h1, if_pos (by simp)]
                go_wp2_with (first
                  | (go_at_call 199; refine (unhide TX _).mono ?_; rintro e w1 ⟨rfl, hk⟩; obtain ⟨⟨d0, d1, d2, d3, d4⟩, HT1, HB1⟩ := unhide PC w1 hk; clear hk PC)
                  | (go_at_call 200; first | (refine (unhide SG _ (unhide HT1)).mono ?_; rintro e w2 ⟨rfl, hw2⟩; subst hw2; clear HT1) | (refine (unhide SG _ (unhide HT0)).mono ?_; rintro e w2 ⟨rfl, hw2⟩; subst hw2; clear HT0))
                  | (go_at_call 201; refine (unhide FK _).mono ?_; rintro e w3 ⟨rfl, hw3⟩; subst hw3))
                go_ret
                first | exact ⟨rfl, unhide HB1⟩ | exact ⟨rfl, unhide HB0⟩
            · rw [if_neg h0, if_neg h1, if_pos (by simp)]
              go_wp2_with (first
                | (go_at_call 199; refine (unhide TX _).mono ?_; rintro e w1 ⟨rfl, hk⟩; obtain ⟨⟨d0, d1, d2, d3, d4⟩, HT1, HB1⟩ := unhide PC w1 hk; clear hk PC)
                | (go_at_call 200; first | (refine (unhide SG _ (unhide HT1)).mono ?_; rintro e w2 ⟨rfl, hw2⟩; subst hw2; clear HT1) | (refine (unhide SG _ (unhide HT0)).mono ?_; rintro e w2 ⟨rfl, hw2⟩; subst hw2; clear HT0))
                | (go_at_call 201; refine (unhide FK _).mono ?_; rintro e w3 ⟨rfl, hw3⟩; subst hw3))
              go_ret
              first | exact ⟨rfl, unhide HB1⟩ | exact ⟨rfl, unhide HB0⟩
        · rw [if_neg h0, if_pos (by simp)]
          go_wp2_with (first
            | (go_at_call 199; refine (unhide TX _).mono ?_; rintro e w1 ⟨rfl, hk⟩; obtain ⟨⟨d0, d1, d2, d3, d4⟩, HT1, HB1⟩ := unhide PC w1 hk; clear hk PC)
            | (go_at_call 200; first | (refine (unhide SG _ (unhide HT1)).mono ?_; rintro e w2 ⟨rfl, hw2⟩; subst hw2; clear HT1) | (refine (unhide SG _ (unhide HT0)).mono ?_; rintro e w2 ⟨rfl, hw2⟩; subst hw2; clear HT0))
            | (go_at_call 201; refine (unhide FK _).mono ?_; rintro e w3 ⟨rfl, hw3⟩; subst hw3))
          go_ret
          first | exact ⟨rfl, unhide HB1⟩ | exact ⟨rfl, unhide HB0⟩
end Go.Proofs.YtogklmljllocbabGreatDoor
