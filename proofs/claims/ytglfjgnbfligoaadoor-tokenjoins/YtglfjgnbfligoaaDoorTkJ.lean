/-
  cutEnd: the tokens ahead of an end as the last one.
-/
import Derived.Test.YtglfjgnbfligoaaDoorTkI
import Derived.Deep.RegionHeld3
import Derived.Deep.RegionWith
namespace Go.Proofs.YtglfjgnbfligoaaDoor
open Go.RowKit

/-- The tokens ahead of an end, and the end. -/
def isEnd (l : List Tk) : Bool := match l.getLast? with | some t => t.kd == 0 | none => false
def cutL (l : List Tk) : List Tk := if isEnd l = true then l.dropLast else l
def endT (l : List Tk) : Tk := if isEnd l = true then l.getLast?.getD ⟨0, ⟨#[]⟩, 0, 0⟩ else ⟨0, ⟨#[]⟩, 0, 0⟩
theorem TksAt.take {w : World} {ad : Option Addr} {l : List Tk} (h : TksAt w ad l) (n : Nat) : TksAt w ad (l.take n) := fun hl => by
  obtain ⟨b, off, e, hlt, hc⟩ := h (by intro e; subst e; simp at hl)
  refine ⟨b, off, e, hlt, fun i hi => ?_⟩
  rw [List.length_take] at hi
  have := hc i (by omega)
  simpa using this
theorem TksAt.cut {w : World} {ad : Option Addr} {l : List Tk} (h : TksAt w ad l) : TksAt w ad (cutL l) := by
  unfold cutL
  split
  · rw [List.dropLast_eq_take]; exact h.take _
  · exact h
theorem cutL_mem {l : List Tk} {t : Tk} (h : t ∈ cutL l) : t ∈ l := by
  unfold cutL at h
  split at h
  · exact List.dropLast_subset _ h
  · exact h
theorem isEnd_at (l : List Tk) (m : Nat) (h : l.length = m + 1) : isEnd l = (l[m].kd == 0) := by
  unfold isEnd
  rw [List.getLast?_eq_getElem?, show l.length - 1 = m by omega, List.getElem?_eq_getElem (by omega)]
theorem endT_at (l : List Tk) (m : Nat) (h : l.length = m + 1) (he : isEnd l = true) : endT l = l[m] := by
  unfold endT
  rw [if_pos he, List.getLast?_eq_getElem?, show l.length - 1 = m by omega, List.getElem?_eq_getElem (by omega)]
  rfl
set_option maxHeartbeats 2000000 in
set_option maxRecDepth 100000 in
theorem cutEnd_any (ad : Option Addr) (cap : Nat) (l : List Tk) (w : World) (hl : l.length ≤ 9223372036854775807) (hcap : l.length ≤ cap) (hA : TksAt w ad l) :
    Calls Tryd.prog 22 #[.slice ad l.length cap] w fun e w' => e = .returned (.tuple #[.slice ad (cutL l).length cap, (endT l).v]) ∧ Below w.heap.size w w' := by
  cases hn : l.length with
  | zero =>
    obtain rfl := List.eq_nil_of_length_eq_zero hn
    have e1 : cutL [] = [] := rfl
    have e2 : endT [] = ⟨0, ⟨#[]⟩, 0, 0⟩ := rfl
    rw [e1, e2]
    clear hA e1 e2 hn
    go_enter Tryd.func22, Tryd.ntmps22
    go_wp2
    exact bodyPost_ret (v := .tuple #[.slice ad 0 cap, .agg #[.int .i64 0, .string ⟨#[]⟩, .int .i64 0, .int .i64 0]]) (by simp [results, Tryd.results22, go_sem]) rfl ⟨rfl, (Below.refl _ _).alloc (Nat.le_refl _) _⟩
  | succ m =>
    obtain ⟨b, off, rfl, hlt, c0, c1, c2, c3⟩ := hA.at m (by omega)
    have h1 := isEnd_at l m hn
    have h2 := endT_at l m hn
    have k1 := Kp.alloc w (.cells #[.int .i64 0, .string ⟨#[]⟩, .int .i64 0, .int .i64 0] 35)
    have d0 := k1.cell c0 (by simp)
    have d1 := k1.cell c1 (by simp)
    have d2 := k1.cell c2 (by simp)
    have d3 := k1.cell c3 (by simp)
    generalize l[m] = T at *
    obtain ⟨k, s, n, p⟩ := T
    dsimp only at *
    clear c0 c1 c2 c3 k1 hA
    by_cases he : k = 0
    · subst he
      rw [show ((0 : Int) == 0) = true from rfl] at h1
      rw [h2 h1, show (cutL l).length = m by unfold cutL; rw [if_pos h1, List.length_dropLast]; omega]
      clear h1 h2
      have HL := hide hn
      have hl2 : m + 1 ≤ 9223372036854775807 := by omega
      have hcap2 : m + 1 ≤ cap := by omega
      clear hn hl hcap
      go_enter Tryd.func22, Tryd.ntmps22
      go_wp2_with fail
      have HB : Hid (Below w.heap.size w (w.alloc (.cells #[.int .i64 0, .string ⟨#[]⟩, .int .i64 0, .int .i64 0] 35))) := hide ((Below.refl _ _).alloc (Nat.le_refl _) _)
      have hbx : CBox w.heap.size #[.int .i64 0, .string ⟨#[]⟩, .int .i64 0, .int .i64 0] 35 (w.alloc (.cells #[.int .i64 0, .string ⟨#[]⟩, .int .i64 0, .int .i64 0] 35)) := CBox.new w _ _
      have hne : b ≠ w.heap.size := by omega
      generalize w.alloc (.cells #[.int .i64 0, .string ⟨#[]⟩, .int .i64 0, .int .i64 0] 35) = W at *
      have x0 := CBox.cell (i := 0) (v := .int .i64 0) hbx rfl
      have x1 := CBox.cell (i := 1) (v := .string ⟨#[]⟩) hbx rfl
      have x2 := CBox.cell (i := 2) (v := .int .i64 0) hbx rfl
      have x3 := CBox.cell (i := 3) (v := .int .i64 0) hbx rfl
      have f0 := CBox.froz hbx 0
      have f1 := CBox.froz hbx 1
      have f2 := CBox.froz hbx 2
      have f3 := CBox.froz hbx 3
      clear hbx
      go_region_with (fail)
      all_goals (go_wp2; exact bodyPost_ret (v := .tuple #[.slice (some ⟨b, off, none⟩) m cap, .agg #[.int .i64 0, .string s, .int .i64 n, .int .i64 p]]) (by simp [results, Tryd.results22, go_sem, x0, x1, x2, x3]) rfl ⟨rfl, ((((unhide HB).drew.setCell (p := ⟨w.heap.size, 0, none⟩) (Nat.le_refl _) _).setCell (p := ⟨w.heap.size, 1, none⟩) (Nat.le_refl _) _).setCell (p := ⟨w.heap.size, 2, none⟩) (Nat.le_refl _) _).setCell (p := ⟨w.heap.size, 3, none⟩) (Nat.le_refl _) _⟩)
    · have g : (k == 0) = false := by simpa using he
      rw [g] at h1
      have e2 : endT l = ⟨0, ⟨#[]⟩, 0, 0⟩ := by unfold endT; rw [h1]; rfl
      have e1 : cutL l = l := by unfold cutL; rw [h1]; rfl
      rw [e1, e2, hn]
      have HL := hide hn
      have hl2 : m + 1 ≤ 9223372036854775807 := by omega
      have g2 : (k != 0) = true := by simpa using he
      clear e1 e2 h1 h2 hn hl hcap
      go_enter Tryd.func22, Tryd.ntmps22
      go_wp2
      exact bodyPost_ret (v := .tuple #[.slice (some ⟨b, off, none⟩) (m + 1) cap, .agg #[.int .i64 0, .string ⟨#[]⟩, .int .i64 0, .int .i64 0]]) (by simp [results, Tryd.results22, go_sem]) rfl ⟨rfl, (Below.refl _ _).alloc (Nat.le_refl _) _⟩
end Go.Proofs.YtglfjgnbfligoaaDoor
