/-
  A buffer: how it lies; its leaves: an entry's count, is it there, held once more, let go.
  A buffer's leaves: let go; a key within its ranges, without a parent, behind another one; is an entry there.
-/
import Derived.Test.YthdfaidjdddagaaProg
import Derived.Test.YthdfaidjdddagaaL01
import Derived.Test.YthdfaidjdddagaaL02
import Derived.Tactics
import Derived.Tactics2
import Derived.Laws.Pointers
import Derived.Laws.Tables
import Derived.Deep.QuietTactic
import Derived.BigQuiet
import Derived.Test.YthdfaidjdddagaaChecked
import Derived.WalkKit
import Derived.WalkLawsBesides
namespace Go.Proofs.Ythdfaidjdddagaa
open Go.RowKit

/-- A buffer lies there: its entries, and how many. -/
structure Bu (b : Nat) (c : Nat → Ent) (m : Int) (w : World) : Prop where
  ex : ∃ cur : Array Value, w.heap[b]? = some (.cells cur 63 (0, 0)) ∧ cur.size = 20481 ∧ cur[20480]? = some (.int .i64 m) ∧ ∀ i, i < 4096 → cur[i * 5]? = some (.int .i64 (c i).s) ∧ cur[i * 5 + 1]? = some (.int .i64 (c i).p) ∧ cur[i * 5 + 2]? = some (.int .i64 (c i).q) ∧ cur[i * 5 + 3]? = some (.int .i64 (c i).h) ∧ cur[i * 5 + 4]? = some (.int .i64 (c i).k)
theorem Bu.kp {b : Nat} {c : Nat → Ent} {m : Int} {w w' : World} {F : List Nat} (h : Bu b c m w) (hk : Kp F w w') (hF : b ∉ F) : Bu b c m w' := by
  obtain ⟨cur, h1, h2⟩ := h.ex
  exact ⟨cur, (hk.block b (Array.getElem?_eq_some_iff.1 h1).1 hF).trans h1, h2⟩
theorem Bu.lt {b : Nat} {c : Nat → Ent} {m : Int} {w : World} (h : Bu b c m w) : b < w.heap.size := by
  obtain ⟨cur, h1, _⟩ := h.ex
  exact (Array.getElem?_eq_some_iff.1 h1).1
theorem cell_of {w : World} {b k : Nat} {t : TypeId} {cur : Array Value} {v : Value} (h : w.heap[b]? = some (.cells cur t (0, 0))) (hv : cur[k]? = some v) : w.cell? ⟨b, k, none⟩ = some v := by simp [World.cell?, h, hv]
theorem Bu.m {b : Nat} {c : Nat → Ent} {m : Int} {w : World} (h : Bu b c m w) : w.cell? ⟨b, 20480, none⟩ = some (.int .i64 m) := by
  obtain ⟨cur, h1, _, h3, _⟩ := h.ex
  exact cell_of h1 h3
theorem Bu.s {b : Nat} {c : Nat → Ent} {m : Int} {w : World} (h : Bu b c m w) (i : Nat) (hi : i < 4096) : w.cell? ⟨b, i * 5, none⟩ = some (.int .i64 (c i).s) := by
  obtain ⟨cur, h1, _, _, h4⟩ := h.ex
  exact cell_of h1 (h4 i hi).1
theorem Bu.p {b : Nat} {c : Nat → Ent} {m : Int} {w : World} (h : Bu b c m w) (i : Nat) (hi : i < 4096) : w.cell? ⟨b, i * 5 + 1, none⟩ = some (.int .i64 (c i).p) := by
  obtain ⟨cur, h1, _, _, h4⟩ := h.ex
  exact cell_of h1 (h4 i hi).2.1
theorem Bu.q {b : Nat} {c : Nat → Ent} {m : Int} {w : World} (h : Bu b c m w) (i : Nat) (hi : i < 4096) : w.cell? ⟨b, i * 5 + 2, none⟩ = some (.int .i64 (c i).q) := by
  obtain ⟨cur, h1, _, _, h4⟩ := h.ex
  exact cell_of h1 (h4 i hi).2.2.1
theorem Bu.h {b : Nat} {c : Nat → Ent} {m : Int} {w : World} (h : Bu b c m w) (i : Nat) (hi : i < 4096) : w.cell? ⟨b, i * 5 + 3, none⟩ = some (.int .i64 (c i).h) := by
  obtain ⟨cur, h1, _, _, h4⟩ := h.ex
  exact cell_of h1 (h4 i hi).2.2.2.1
theorem Bu.k {b : Nat} {c : Nat → Ent} {m : Int} {w : World} (h : Bu b c m w) (i : Nat) (hi : i < 4096) : w.cell? ⟨b, i * 5 + 4, none⟩ = some (.int .i64 (c i).k) := by
  obtain ⟨cur, h1, _, _, h4⟩ := h.ex
  exact cell_of h1 (h4 i hi).2.2.2.2
theorem Bu.froz {b : Nat} {c : Nat → Ent} {m : Int} {w : World} (h : Bu b c m w) (i : Nat) : w.frozen? ⟨b, i, none⟩ = false := by
  obtain ⟨cur, h1, _⟩ := h.ex
  simp [World.frozen?, h1]
theorem heap_set {w : World} {b k : Nat} {t : TypeId} {cur : Array Value} (h : w.heap[b]? = some (.cells cur t (0, 0))) (v : Value) : (w.setCell ⟨b, k, none⟩ v).heap[b]? = some (.cells (cur.setIfInBounds k v) t (0, 0)) := by
  unfold World.setCell
  simp [h, Array.getElem?_modify]
/-- A cell set. -/
theorem Bu.setM {b : Nat} {c : Nat → Ent} {m : Int} {w : World} (h : Bu b c m w) (n : Int) : Bu b c n (w.setCell ⟨b, 20480, none⟩ (.int .i64 n)) := by
  obtain ⟨cur, h1, h2, _, h4⟩ := h.ex
  refine ⟨_, heap_set h1 _, by simp [h2], by simp [h2], fun i hi => ?_⟩
  obtain ⟨a1, a2, a3, a4, a5⟩ := h4 i hi
  refine ⟨?_, ?_, ?_, ?_, ?_⟩ <;> (rw [Array.getElem?_setIfInBounds_ne (by omega)]; assumption)
theorem Bu.setH {b : Nat} {c : Nat → Ent} {m : Int} {w : World} (h : Bu b c m w) (i : Nat) (hi : i < 4096) (x : Int) : Bu b (setE c i ⟨(c i).s, (c i).p, (c i).q, x, (c i).k⟩) m (w.setCell ⟨b, i * 5 + 3, none⟩ (.int .i64 x)) := by
  obtain ⟨cur, h1, h2, h3, h4⟩ := h.ex
  refine ⟨_, heap_set h1 _, by simp [h2], by rw [Array.getElem?_setIfInBounds_ne (by omega)]; exact h3, fun j hj => ?_⟩
  obtain ⟨a1, a2, a3, a4, a5⟩ := h4 j hj
  by_cases e : j = i
  · subst e
    rw [setE_same]
    refine ⟨?_, ?_, ?_, ?_, ?_⟩
    · rw [Array.getElem?_setIfInBounds_ne (by omega)]; exact a1
    · rw [Array.getElem?_setIfInBounds_ne (by omega)]; exact a2
    · rw [Array.getElem?_setIfInBounds_ne (by omega)]; exact a3
    · rw [Array.getElem?_setIfInBounds_self_of_lt (by omega)]
    · rw [Array.getElem?_setIfInBounds_ne (by omega)]; exact a5
  · rw [setE_ne _ _ e]
    refine ⟨?_, ?_, ?_, ?_, ?_⟩ <;> (rw [Array.getElem?_setIfInBounds_ne (by omega)]; assumption)
theorem Bu.setK {b : Nat} {c : Nat → Ent} {m : Int} {w : World} (h : Bu b c m w) (i : Nat) (hi : i < 4096) (x : Int) : Bu b (setE c i ⟨(c i).s, (c i).p, (c i).q, (c i).h, x⟩) m (w.setCell ⟨b, i * 5 + 4, none⟩ (.int .i64 x)) := by
  obtain ⟨cur, h1, h2, h3, h4⟩ := h.ex
  refine ⟨_, heap_set h1 _, by simp [h2], by rw [Array.getElem?_setIfInBounds_ne (by omega)]; exact h3, fun j hj => ?_⟩
  obtain ⟨a1, a2, a3, a4, a5⟩ := h4 j hj
  by_cases e : j = i
  · subst e
    rw [setE_same]
    refine ⟨?_, ?_, ?_, ?_, ?_⟩
    · rw [Array.getElem?_setIfInBounds_ne (by omega)]; exact a1
    · rw [Array.getElem?_setIfInBounds_ne (by omega)]; exact a2
    · rw [Array.getElem?_setIfInBounds_ne (by omega)]; exact a3
    · rw [Array.getElem?_setIfInBounds_ne (by omega)]; exact a4
    · rw [Array.getElem?_setIfInBounds_self_of_lt (by omega)]
  · rw [setE_ne _ _ e]
    refine ⟨?_, ?_, ?_, ?_, ?_⟩ <;> (rw [Array.getElem?_setIfInBounds_ne (by omega)]; assumption)
/-- An entry's cells set, one behind the other. -/
def put5 (b i : Nat) (e : Ent) (w : World) : World := ((((w.setCell ⟨b, i * 5, none⟩ (.int .i64 e.s)).setCell ⟨b, i * 5 + 1, none⟩ (.int .i64 e.p)).setCell ⟨b, i * 5 + 2, none⟩ (.int .i64 e.q)).setCell ⟨b, i * 5 + 3, none⟩ (.int .i64 e.h)).setCell ⟨b, i * 5 + 4, none⟩ (.int .i64 e.k)
theorem Bu.put {b : Nat} {c : Nat → Ent} {m : Int} {w : World} (h : Bu b c m w) (i : Nat) (hi : i < 4096) (e : Ent) : Bu b (setE c i e) m (put5 b i e w) := by
  obtain ⟨cur, h1, h2, h3, h4⟩ := h.ex
  refine ⟨_, heap_set (heap_set (heap_set (heap_set (heap_set h1 _) _) _) _) _, by simp [h2], ?_, fun j hj => ?_⟩
  · repeat rw [Array.getElem?_setIfInBounds_ne (by omega)]
    exact h3
  · obtain ⟨a1, a2, a3, a4, a5⟩ := h4 j hj
    by_cases e1 : j = i
    · subst e1
      rw [setE_same]
      simp only [Array.getElem?_setIfInBounds, Array.size_setIfInBounds]
      have g1 : j * 5 < cur.size := by omega
      have g2 : j * 5 + 1 < cur.size := by omega
      have g3 : j * 5 + 2 < cur.size := by omega
      have g4 : j * 5 + 3 < cur.size := by omega
      have g5 : j * 5 + 4 < cur.size := by omega
      simp [g1, g2, g3, g4, g5]
    · rw [setE_ne _ _ e1]
      refine ⟨?_, ?_, ?_, ?_, ?_⟩ <;> (repeat rw [Array.getElem?_setIfInBounds_ne (by omega)]) <;> assumption
theorem Kp.put5 (b i : Nat) (e : Ent) (w : World) : Kp [b] w (put5 b i e w) := by
  unfold Go.Proofs.Ythdfaidjdddagaa.put5
  exact ((((Kp.set w b _ _).trans (Kp.set _ b _ _) (by simp)).trans (Kp.set _ b _ _) (by simp)).trans (Kp.set _ b _ _) (by simp)).trans (Kp.set _ b _ _) (by simp)

set_option maxRecDepth 100000 in
theorem sum_any (b i : Nat) (hi : i < 4096) (c : Nat → Ent) (m : Int) (w : World) (h : Bu b c m w) (hl : -4611686018427387904 ≤ (c i).h + (c i).k) (ht : (c i).h + (c i).k ≤ 4611686018427387904) : Calls Try.prog 34 #[.pointer (some ⟨b, i * 5 + 3, none⟩)] w fun e w' => e = .returned (.int .i64 ((c i).h + (c i).k)) ∧ Kp [] w w' := by
  have h3 := h.h i hi
  have h4 := h.k i hi
  clear h
  go_enter Try.func34, Try.ntmps34
  go_wp2
  go_quiet (fail)
  go_wp2
  go_ret
  exact ⟨rfl, Kp.drewQ w _⟩
set_option maxRecDepth 100000 in
theorem hold_any (b i : Nat) (hi : i < 4096) (c : Nat → Ent) (m : Int) (w : World) (h : Bu b c m w) (hl : 0 ≤ (c i).h) (ht : (c i).h ≤ 4611686018427387904) : Calls Try.prog 27 #[.pointer (some ⟨b, i * 5 + 3, none⟩)] w fun e w' => e = .returned (.tuple #[]) ∧ Bu b (hoE c i) m w' ∧ Kp [b] w w' := by
  have h3 := h.h i hi
  have h4 := h.froz (i * 5 + 3)
  have HN := hide (h.setH i hi ((c i).h + 1))
  clear h
  go_enter Try.func27, Try.ntmps27
  go_wp2
  go_end0
  exact ⟨rfl, unhide HN, Kp.set _ _ _ _⟩
end Go.Proofs.Ythdfaidjdddagaa
namespace Go.Proofs.Ythdfaidjdddagaa
open Go.RowKit

set_option maxRecDepth 100000 in
theorem letGo_not (b i : Nat) (hi : i < 4096) (c : Nat → Ent) (m : Int) (w : World) (h : Bu b c m w) (hl : (c i).h = 0) : Calls Try.prog 31 #[.pointer (some ⟨b, i * 5 + 3, none⟩)] w fun e w' => e = .returned (.bool false) ∧ w' = w := by
  have h3 := h.h i hi
  rw [hl] at h3
  clear h hl
  go_enter Try.func31, Try.ntmps31
  go_wp2
  go_ret
  exact ⟨rfl, rfl⟩
set_option maxRecDepth 100000 in
theorem letGo_ok (b i : Nat) (hi : i < 4096) (c : Nat → Ent) (m : Int) (w : World) (h : Bu b c m w) (hl : 0 < (c i).h) (ht : (c i).h ≤ 4611686018427387904) : Calls Try.prog 31 #[.pointer (some ⟨b, i * 5 + 3, none⟩)] w fun e w' => e = .returned (.bool true) ∧ Bu b (lgE c i) m w' ∧ Kp [b] w w' := by
  have h3 := h.h i hi
  have h4 := h.froz (i * 5 + 3)
  have HN := hide (h.setH i hi ((c i).h - 1))
  have hne : ¬ (c i).h = 0 := by omega
  clear h
  go_enter Try.func31, Try.ntmps31
  go_wp2
  go_ret
  exact ⟨rfl, unhide HN, Kp.set _ _ _ _⟩
/-- Is an entry there, by its number? -/
def hasE (c : Nat → Ent) (id : Int) : Bool := decide (0 ≤ id ∧ id < 4096) && lvE (c id.toNat)
theorem hasE_nat (c : Nat → Ent) (i : Nat) (hi : i < 4096) : hasE c (i : Int) = lvE (c i) := by
  have : (i : Int) < 4096 := by omega
  simp [hasE, this]
theorem hasE_some {c : Nat → Ent} {id : Int} (h : hasE c id = true) : ∃ i : Nat, id = (i : Int) ∧ i < 4096 ∧ lvE (c i) = true := by
  unfold hasE at h
  simp at h
  obtain ⟨⟨h1, h2⟩, h3⟩ := h
  exact ⟨id.toNat, by omega, by omega, h3⟩
theorem hasE_neg (c : Nat → Ent) : hasE c (-1) = false := rfl
/-- A key within its ranges. -/
def okK (s p : Int) : Bool := decide (0 ≤ s ∧ s < 8 ∧ 0 ≤ p ∧ p ≤ 1073741824)
theorem okK_iff (s p : Int) : okK s p = true ↔ 0 ≤ s ∧ s < 8 ∧ 0 ≤ p ∧ p ≤ 1073741824 := by simp [okK]
set_option maxRecDepth 100000 in
theorem inRange_any (s p q : Int) (w : World) : Calls Try.prog 24 #[.agg #[.int .i64 s, .int .i64 p, .int .i64 q]] w fun e w' => e = .returned (.bool (okK s p)) ∧ Kp [] w w' := by
  have HB : Hid (okK s p = true ↔ 0 ≤ s ∧ s < 8 ∧ 0 ≤ p ∧ p ≤ 1073741824) := hide (okK_iff s p)
  generalize okK s p = B at *
  have hN := CBox.new w #[.int .i64 s, .int .i64 p, .int .i64 q] 54
  have c0 := hN.cell (i := 0) (v := .int .i64 s) rfl
  have c1 := hN.cell (i := 1) (v := .int .i64 p) rfl
  clear hN
  go_enter Try.func24, Try.ntmps24
  by_cases h1 : 0 ≤ s
  · by_cases h2 : s < 8
    · by_cases h3 : 0 ≤ p
      · by_cases h4 : p ≤ 1073741824
        · go_wp2
          go_ret
          exact ⟨ret_bool (Bool.eq_iff_iff.2 (by rw [unhide HB]; simp; omega)), Kp.alloc w _⟩
        · go_wp2
          go_ret
          exact ⟨ret_bool (Bool.eq_iff_iff.2 (by rw [unhide HB]; simp; omega)), Kp.alloc w _⟩
      · go_wp2
        go_ret
        exact ⟨ret_bool (Bool.eq_iff_iff.2 (by rw [unhide HB]; simp; omega)), Kp.alloc w _⟩
    · go_wp2
      go_ret
      exact ⟨ret_bool (Bool.eq_iff_iff.2 (by rw [unhide HB]; simp; omega)), Kp.alloc w _⟩
  · go_wp2
    go_ret
    exact ⟨ret_bool (Bool.eq_iff_iff.2 (by rw [unhide HB]; simp; omega)), Kp.alloc w _⟩
set_option maxRecDepth 100000 in
theorem isFirst_any (s p q : Int) (w : World) : Calls Try.prog 35 #[.agg #[.int .i64 s, .int .i64 p, .int .i64 q]] w fun e w' => e = .returned (.bool (decide (q = -1))) ∧ Kp [] w w' := by
  have HB : Hid (decide (q = -1) = true ↔ q = -1) := hide (by simp)
  generalize decide (q = -1) = B at *
  have hN := CBox.new w #[.int .i64 s, .int .i64 p, .int .i64 q] 54
  have c2 := hN.cell (i := 2) (v := .int .i64 q) rfl
  clear hN
  go_enter Try.func35, Try.ntmps35
  go_wp2
  go_ret
  exact ⟨ret_bool (Bool.eq_iff_iff.2 (by rw [unhide HB]; simp)), Kp.alloc w _⟩
/-- A key that may stand behind another one. -/
def folK (s p s' p' : Int) : Bool := decide (s' ≤ s ∧ p' < p)
set_option maxRecDepth 100000 in
theorem follows_any (s p q s' p' q' : Int) (w : World) : Calls Try.prog 36 #[.agg #[.int .i64 s, .int .i64 p, .int .i64 q], .agg #[.int .i64 s', .int .i64 p', .int .i64 q']] w fun e w' => e = .returned (.bool (folK s p s' p')) ∧ Kp [] w w' := by
  have HB : Hid (folK s p s' p' = true ↔ s' ≤ s ∧ p' < p) := hide (by simp [folK])
  generalize folK s p s' p' = B at *
  have hN : CBox (w.heap.size + 1) #[.int .i64 s', .int .i64 p', .int .i64 q'] 54 ((w.alloc (.cells #[.int .i64 s, .int .i64 p, .int .i64 q] 54)).alloc (.cells #[.int .i64 s', .int .i64 p', .int .i64 q'] 54)) := by
    have := CBox.new (w.alloc (.cells #[.int .i64 s, .int .i64 p, .int .i64 q] 54)) #[.int .i64 s', .int .i64 p', .int .i64 q'] 54
    rw [World.size_alloc] at this
    exact this
  have hM := (CBox.new w #[.int .i64 s, .int .i64 p, .int .i64 q] 54).kp (Kp.alloc _ (.cells #[.int .i64 s', .int .i64 p', .int .i64 q'] 54)) (by simp)
  have c0 := hM.cell (i := 0) (v := .int .i64 s) rfl
  have c1 := hM.cell (i := 1) (v := .int .i64 p) rfl
  have d0 := hN.cell (i := 0) (v := .int .i64 s') rfl
  have d1 := hN.cell (i := 1) (v := .int .i64 p') rfl
  have HK : Hid (Kp [] w ((w.alloc (.cells #[.int .i64 s, .int .i64 p, .int .i64 q] 54)).alloc (.cells #[.int .i64 s', .int .i64 p', .int .i64 q'] 54))) := hide ((Kp.alloc _ _).trans (Kp.alloc _ _) (by simp))
  clear hN hM
  go_enter Try.func36, Try.ntmps36
  by_cases h1 : s' ≤ s
  · by_cases h2 : p' < p
    · go_wp2
      go_ret
      exact ⟨ret_bool (Bool.eq_iff_iff.2 (by rw [unhide HB]; simp; omega)), unhide HK⟩
    · go_wp2
      go_ret
      exact ⟨ret_bool (Bool.eq_iff_iff.2 (by rw [unhide HB]; simp; omega)), unhide HK⟩
  · go_wp2
    go_ret
    exact ⟨ret_bool (Bool.eq_iff_iff.2 (by rw [unhide HB]; simp; omega)), unhide HK⟩
/-- All counts are small. -/
def Sml (c : Nat → Ent) : Prop := ∀ i, i < 4096 → 0 ≤ (c i).h ∧ (c i).h ≤ 2305843009213693952 ∧ 0 ≤ (c i).k ∧ (c i).k ≤ 4096
theorem BIv.sml {c : Nat → Ent} {x : Int} {m : Nat} {B : Int} (h : BIv c x m B) (hB : B ≤ 2305843009213693952) : Sml c := fun i hi => ⟨(h.low i hi).1, Int.le_trans (h.top i hi) hB, (h.low i hi).2, h.kle i hi⟩
set_option maxRecDepth 100000 in
theorem has_any (b : Nat) (id : Int) (c : Nat → Ent) (m : Int) (w : World) (h : Bu b c m w) (hS : Sml c) : Calls Try.prog 30 #[.pointer (some ⟨b, 0, none⟩), .int .i64 id] w fun e w' => e = .returned (.bool (hasE c id)) ∧ Kp [] w w' := by
  by_cases h1 : 0 ≤ id
  · by_cases h2 : id < 4096
    · obtain ⟨i, rfl⟩ : ∃ i : Nat, id = (i : Int) := ⟨id.toNat, by omega⟩
      have hi : i < 4096 := by omega
      rw [hasE_nat c i hi]
      obtain ⟨g1, g2, g3, g4⟩ := hS i hi
      have SM := hide (sum_any b i hi c m w h (by omega) (by omega))
      have HB : Hid (lvE (c i) = true ↔ 0 < (c i).h + (c i).k) := hide (lvE_iff _)
      generalize lvE (c i) = B at *
      generalize (c i).h + (c i).k = S at *
      clear h hS h1 g1 g2 g3 g4
      go_enter Try.func30, Try.ntmps30
      go_wp2_with fail
      refine (unhide SM).mono ?_
      rintro r w1 ⟨rfl, HK⟩
      have HK := hide HK
      go_wp2
      go_ret
      exact ⟨ret_bool (Bool.eq_iff_iff.2 (by rw [unhide HB]; simp)), unhide HK⟩
    · have e : hasE c id = false := by simp [hasE, h2]
      rw [e]
      clear h hS e
      go_enter Try.func30, Try.ntmps30
      go_wp2
      go_ret
      exact ⟨rfl, Kp.refl _ _⟩
  · have e : hasE c id = false := by simp [hasE, h1]
    rw [e]
    clear h hS e
    go_enter Try.func30, Try.ntmps30
    go_wp2
    go_ret
    exact ⟨rfl, Kp.refl _ _⟩
theorem eqK (d : Nat) (a0 a1 a2 b0 b1 b2 : Int) (w : World) : (Op.equalIn (d + 2) 54 (.agg #[.int .i64 a0, .int .i64 a1, .int .i64 a2]) (.agg #[.int .i64 b0, .int .i64 b1, .int .i64 b2])).run Try.prog w = .ok (a0 == b0 && (a1 == b1 && a2 == b2)) w := by
  have hi := fun (a b : Int) (w : World) => run_equalIn_int (P := Try.prog) w d 3 .i64 .i64 a b Try.underlying3
  unfold Op.equalIn
  simp only [Sem.run_bind, run_underlying Try.underlying54, Result.andThen_ok]
  simp [part, Try.sizeOf3, go_sem, hi]
  by_cases h0 : a0 = b0 <;> by_cases h1 : a1 = b1 <;> by_cases h2 : a2 = b2 <;> simp [h0, h1, h2]
end Go.Proofs.Ythdfaidjdddagaa
