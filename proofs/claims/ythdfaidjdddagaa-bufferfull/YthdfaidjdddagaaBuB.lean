/-
  A buffer's leaves: let go; a key within its ranges, without a parent, behind another one; is an entry there.
-/
import Derived.Test.YthdfaidjdddagaaBuA
import Derived.Test.YthdfaidjdddagaaChecked
import Derived.WalkKit
import Derived.WalkLawsBesides
namespace Go.Proofs.Ythdfaidjdddagaa
open Go.RowKit

set_option maxRecDepth 100000 in
theorem letGo_not (b i : Nat) (hi : i < 4096) (c : Nat → Ent) (m : Int) (w : World) (h : Bu b c m w) (hl : (c i).h = 0) : Calls Try.prog 31 #[.pointer (some ⟨b, i * 5 + 3, none⟩)] w fun e w' => e = .returned (.bool false) ∧ w' = w := by
  have h3 := h.h i hi
  rw [hl] at h3
  clear h hl
  go_enter Try.func31, Try.ntmps31
  go_wp2
  go_ret
  exact ⟨rfl, rfl⟩
set_option maxRecDepth 100000 in
theorem letGo_ok (b i : Nat) (hi : i < 4096) (c : Nat → Ent) (m : Int) (w : World) (h : Bu b c m w) (hl : 0 < (c i).h) (ht : (c i).h ≤ 4611686018427387904) : Calls Try.prog 31 #[.pointer (some ⟨b, i * 5 + 3, none⟩)] w fun e w' => e = .returned (.bool true) ∧ Bu b (lgE c i) m w' ∧ Kp [b] w w' := by
  have h3 := h.h i hi
  have h4 := h.froz (i * 5 + 3)
  have HN := hide (h.setH i hi ((c i).h - 1))
  have hne : ¬ (c i).h = 0 := by omega
  clear h
  go_enter Try.func31, Try.ntmps31
  go_wp2
  go_ret
  exact ⟨rfl, unhide HN, Kp.set _ _ _ _⟩
/-- Is an entry there, by its number? -/
def hasE (c : Nat → Ent) (id : Int) : Bool := decide (0 ≤ id ∧ id < 4096) && lvE (c id.toNat)
theorem hasE_nat (c : Nat → Ent) (i : Nat) (hi : i < 4096) : hasE c (i : Int) = lvE (c i) := by
  have : (i : Int) < 4096 := by omega
  simp [hasE, this]
theorem hasE_some {c : Nat → Ent} {id : Int} (h : hasE c id = true) : ∃ i : Nat, id = (i : Int) ∧ i < 4096 ∧ lvE (c i) = true := by
  unfold hasE at h
  simp at h
  obtain ⟨⟨h1, h2⟩, h3⟩ := h
  exact ⟨id.toNat, by omega, by omega, h3⟩
theorem hasE_neg (c : Nat → Ent) : hasE c (-1) = false := rfl
/-- A key within its ranges. -/
def okK (s p : Int) : Bool := decide (0 ≤ s ∧ s < 8 ∧ 0 ≤ p ∧ p ≤ 1073741824)
theorem okK_iff (s p : Int) : okK s p = true ↔ 0 ≤ s ∧ s < 8 ∧ 0 ≤ p ∧ p ≤ 1073741824 := by simp [okK]
set_option maxRecDepth 100000 in
theorem inRange_any (s p q : Int) (w : World) : Calls Try.prog 24 #[.agg #[.int .i64 s, .int .i64 p, .int .i64 q]] w fun e w' => e = .returned (.bool (okK s p)) ∧ Kp [] w w' := by
  have HB : Hid (okK s p = true ↔ 0 ≤ s ∧ s < 8 ∧ 0 ≤ p ∧ p ≤ 1073741824) := hide (okK_iff s p)
  generalize okK s p = B at *
  have hN := CBox.new w #[.int .i64 s, .int .i64 p, .int .i64 q] 54
  have c0 := hN.cell (i := 0) (v := .int .i64 s) rfl
  have c1 := hN.cell (i := 1) (v := .int .i64 p) rfl
  clear hN
  go_enter Try.func24, Try.ntmps24
  by_cases h1 : 0 ≤ s
  · by_cases h2 : s < 8
    · by_cases h3 : 0 ≤ p
      · by_cases h4 : p ≤ 1073741824
        · go_wp2
          go_ret
          exact ⟨ret_bool (Bool.eq_iff_iff.2 (by rw [unhide HB]; simp; omega)), Kp.alloc w _⟩
        · go_wp2
          go_ret
          exact ⟨ret_bool (Bool.eq_iff_iff.2 (by rw [unhide HB]; simp; omega)), Kp.alloc w _⟩
      · go_wp2
        go_ret
        exact ⟨ret_bool (Bool.eq_iff_iff.2 (by rw [unhide HB]; simp; omega)), Kp.alloc w _⟩
    · go_wp2
      go_ret
      exact ⟨ret_bool (Bool.eq_iff_iff.2 (by rw [unhide HB]; simp; omega)), Kp.alloc w _⟩
  · go_wp2
    go_ret
    exact ⟨ret_bool (Bool.eq_iff_iff.2 (by rw [unhide HB]; simp; omega)), Kp.alloc w _⟩
set_option maxRecDepth 100000 in
theorem isFirst_any (s p q : Int) (w : World) : Calls Try.prog 35 #[.agg #[.int .i64 s, .int .i64 p, .int .i64 q]] w fun e w' => e = .returned (.bool (decide (q = -1))) ∧ Kp [] w w' := by
  have HB : Hid (decide (q = -1) = true ↔ q = -1) := hide (by simp)
  generalize decide (q = -1) = B at *
  have hN := CBox.new w #[.int .i64 s, .int .i64 p, .int .i64 q] 54
  have c2 := hN.cell (i := 2) (v := .int .i64 q) rfl
  clear hN
  go_enter Try.func35, Try.ntmps35
  go_wp2
  go_ret
  exact ⟨ret_bool (Bool.eq_iff_iff.2 (by rw [unhide HB]; simp)), Kp.alloc w _⟩
/-- A key that may stand behind another one. -/
def folK (s p s' p' : Int) : Bool := decide (s' ≤ s ∧ p' < p)
set_option maxRecDepth 100000 in
theorem follows_any (s p q s' p' q' : Int) (w : World) : Calls Try.prog 36 #[.agg #[.int .i64 s, .int .i64 p, .int .i64 q], .agg #[.int .i64 s', .int .i64 p', .int .i64 q']] w fun e w' => e = .returned (.bool (folK s p s' p')) ∧ Kp [] w w' := by
  have HB : Hid (folK s p s' p' = true ↔ s' ≤ s ∧ p' < p) := hide (by simp [folK])
  generalize folK s p s' p' = B at *
  have hN : CBox (w.heap.size + 1) #[.int .i64 s', .int .i64 p', .int .i64 q'] 54 ((w.alloc (.cells #[.int .i64 s, .int .i64 p, .int .i64 q] 54)).alloc (.cells #[.int .i64 s', .int .i64 p', .int .i64 q'] 54)) := by
    have := CBox.new (w.alloc (.cells #[.int .i64 s, .int .i64 p, .int .i64 q] 54)) #[.int .i64 s', .int .i64 p', .int .i64 q'] 54
    rw [World.size_alloc] at this
    exact this
  have hM := (CBox.new w #[.int .i64 s, .int .i64 p, .int .i64 q] 54).kp (Kp.alloc _ (.cells #[.int .i64 s', .int .i64 p', .int .i64 q'] 54)) (by simp)
  have c0 := hM.cell (i := 0) (v := .int .i64 s) rfl
  have c1 := hM.cell (i := 1) (v := .int .i64 p) rfl
  have d0 := hN.cell (i := 0) (v := .int .i64 s') rfl
  have d1 := hN.cell (i := 1) (v := .int .i64 p') rfl
  have HK : Hid (Kp [] w ((w.alloc (.cells #[.int .i64 s, .int .i64 p, .int .i64 q] 54)).alloc (.cells #[.int .i64 s', .int .i64 p', .int .i64 q'] 54))) := hide ((Kp.alloc _ _).trans (Kp.alloc _ _) (by simp))
  clear hN hM
  go_enter Try.func36, Try.ntmps36
  by_cases h1 : s' ≤ s
  · by_cases h2 : p' < p
    · go_wp2
      go_ret
      exact ⟨ret_bool (Bool.eq_iff_iff.2 (by rw [unhide HB]; simp; omega)), unhide HK⟩
    · go_wp2
      go_ret
      exact ⟨ret_bool (Bool.eq_iff_iff.2 (by rw [unhide HB]; simp; omega)), unhide HK⟩
  · go_wp2
    go_ret
    exact ⟨ret_bool (Bool.eq_iff_iff.2 (by rw [unhide HB]; simp; omega)), unhide HK⟩
/-- All counts are small. -/
def Sml (c : Nat → Ent) : Prop := ∀ i, i < 4096 → 0 ≤ (c i).h ∧ (c i).h ≤ 2305843009213693952 ∧ 0 ≤ (c i).k ∧ (c i).k ≤ 4096
theorem BIv.sml {c : Nat → Ent} {x : Int} {m : Nat} {B : Int} (h : BIv c x m B) (hB : B ≤ 2305843009213693952) : Sml c := fun i hi => ⟨(h.low i hi).1, Int.le_trans (h.top i hi) hB, (h.low i hi).2, h.kle i hi⟩
set_option maxRecDepth 100000 in
theorem has_any (b : Nat) (id : Int) (c : Nat → Ent) (m : Int) (w : World) (h : Bu b c m w) (hS : Sml c) : Calls Try.prog 30 #[.pointer (some ⟨b, 0, none⟩), .int .i64 id] w fun e w' => e = .returned (.bool (hasE c id)) ∧ Kp [] w w' := by
  by_cases h1 : 0 ≤ id
  · by_cases h2 : id < 4096
    · obtain ⟨i, rfl⟩ : ∃ i : Nat, id = (i : Int) := ⟨id.toNat, by omega⟩
      have hi : i < 4096 := by omega
      rw [hasE_nat c i hi]
      obtain ⟨g1, g2, g3, g4⟩ := hS i hi
      have SM := hide (sum_any b i hi c m w h (by omega) (by omega))
      have HB : Hid (lvE (c i) = true ↔ 0 < (c i).h + (c i).k) := hide (lvE_iff _)
      generalize lvE (c i) = B at *
      generalize (c i).h + (c i).k = S at *
      clear h hS h1 g1 g2 g3 g4
      go_enter Try.func30, Try.ntmps30
      go_wp2_with fail
      refine (unhide SM).mono ?_
      rintro r w1 ⟨rfl, HK⟩
      have HK := hide HK
      go_wp2
      go_ret
      exact ⟨ret_bool (Bool.eq_iff_iff.2 (by rw [unhide HB]; simp)), unhide HK⟩
    · have e : hasE c id = false := by simp [hasE, h2]
      rw [e]
      clear h hS e
      go_enter Try.func30, Try.ntmps30
      go_wp2
      go_ret
      exact ⟨rfl, Kp.refl _ _⟩
  · have e : hasE c id = false := by simp [hasE, h1]
    rw [e]
    clear h hS e
    go_enter Try.func30, Try.ntmps30
    go_wp2
    go_ret
    exact ⟨rfl, Kp.refl _ _⟩
theorem eqK (d : Nat) (a0 a1 a2 b0 b1 b2 : Int) (w : World) : (Op.equalIn (d + 2) 54 (.agg #[.int .i64 a0, .int .i64 a1, .int .i64 a2]) (.agg #[.int .i64 b0, .int .i64 b1, .int .i64 b2])).run Try.prog w = .ok (a0 == b0 && (a1 == b1 && a2 == b2)) w := by
  have hi := fun (a b : Int) (w : World) => run_equalIn_int (P := Try.prog) w d 3 .i64 .i64 a b Try.underlying3
  unfold Op.equalIn
  simp only [Sem.run_bind, run_underlying Try.underlying54, Result.andThen_ok]
  simp [part, Try.sizeOf3, go_sem, hi]
  by_cases h0 : a0 = b0 <;> by_cases h1 : a1 = b1 <;> by_cases h2 : a2 = b2 <;> simp [h0, h1, h2]
end Go.Proofs.Ythdfaidjdddagaa
