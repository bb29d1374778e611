/-
  EventSorts: rows of matches.
-/
import Derived.Test.YtnikkjbjidhhlaaEsP
import Derived.Test.YtnikkjbjidhhlaaKp1
namespace Go.Proofs.Ytnikkjbjidhhlaa
open Go.RowKit

def Hd.c2 (h : Hd) : List Value := [.string h.k, .slice h.a h.s.length h.c]
/-- Matches as cells. -/
def hdC (l : List Hd) : List Value := l.flatMap Hd.c2
theorem hdC_append (a b : List Hd) : hdC (a ++ b) = hdC a ++ hdC b := by unfold hdC; simp
theorem hdC_length (a : List Hd) : (hdC a).length = a.length * 2 := by
  unfold hdC
  induction a with
  | nil => rfl
  | cons x a ih => rw [List.flatMap_cons, List.length_append, ih, List.length_cons]; simp [Hd.c2]; omega
theorem hdC_one (l : List Hd) : ∀ u ∈ hdC l, u.oneCell' = true := fun u hu => by
  unfold hdC at hu
  obtain ⟨h, _, hu⟩ := List.mem_flatMap.1 hu
  simp [Hd.c2] at hu
  rcases hu with rfl | rfl <;> rfl
theorem hdC_at (l : List Hd) (i : Nat) (hi : i < l.length) : (hdC l)[i * 2]? = some (.string l[i].k) ∧ (hdC l)[i * 2 + 1]? = some (.slice l[i].a l[i].s.length l[i].c) := by
  have e : l = l.take i ++ l[i] :: l.drop (i + 1) := by rw [List.getElem_cons_drop, List.take_append_drop]
  have hl : (hdC (l.take i)).length = i * 2 := by rw [hdC_length, List.length_take]; congr 1; omega
  have e2 : hdC l = hdC (l.take i) ++ (Hd.c2 l[i] ++ hdC (l.drop (i + 1))) := by
    have h := congrArg hdC e
    rw [hdC_append] at h
    refine h.trans ?_
    unfold hdC
    rw [List.flatMap_cons]
  rw [e2]
  refine ⟨?_, ?_⟩ <;> rw [List.getElem?_append_right (by omega), hl]
  · simp [Hd.c2]
  · rw [show i * 2 + 1 - i * 2 = 1 by omega]; simp [Hd.c2]
theorem info_match : (Try.prog.info? 28).map (fun i => (i.zero, i.size, i.bytes)) = some (some (.agg #[.string ⟨#[]⟩, .slice none 0 0]), 2, 40) := by kernel_rfl
/-- A row of matches of the call's own. -/
def HRow (w : World) (v : Value) (l : List Hd) : Prop := w.ownsRow 0 28 2 v l.length (hdC l)
theorem HRow.nil (w : World) : HRow w (.slice none 0 0) [] := ⟨rfl, Or.inl ⟨rfl, rfl⟩⟩
theorem HRow.empty (w : World) : HRow (w.alloc (.cells #[] 28)) (.slice (some ⟨w.heap.size, 0, none⟩) 0 0) [] :=
  ⟨rfl, Or.inr ⟨w.heap.size, 0, #[], rfl, Nat.zero_le _, CBox.new w _ _, Nat.le_refl _, by unfold maxLen; omega, rfl, rfl⟩⟩
theorem HRow.len {w : World} {v : Value} {l : List Hd} (h : HRow w v l) : ∃ ad cap, v = .slice ad l.length cap := by
  obtain ⟨h0, ⟨rfl, h1⟩ | ⟨g, cap, cur, rfl, hg, hh, h2, h3, h4, h5⟩⟩ := h
  · exact ⟨none, 0, by rw [h1]⟩
  · exact ⟨_, _, rfl⟩
theorem HRow.kp {F : List Nat} {w w' : World} {v : Value} {l : List Hd} (h : HRow w v l) (hk : Kp F w w') (hF : ∀ g, v.ownBlock = some g → g ∉ F) : HRow w' v l := by
  obtain ⟨h0, ⟨rfl, h1⟩ | ⟨g, cap, cur, rfl, hg, hh, h2, h3, h4, h5⟩⟩ := h
  · exact ⟨h0, Or.inl ⟨rfl, h1⟩⟩
  · exact ⟨h0, Or.inr ⟨g, cap, cur, rfl, hg, (hk.block g (Array.getElem?_eq_some_iff.1 hh).1 (hF g rfl)).trans hh, h2, h3, h4, h5⟩⟩
theorem HRow.lt {w : World} {g n cap : Nat} {l : List Hd} (h : HRow w (.slice (some ⟨g, 0, none⟩) n cap) l) : g < w.heap.size ∧ l.length ≤ cap ∧ cap ≤ maxLen ∧ n = l.length := by
  obtain ⟨h0, ⟨e, h1⟩ | ⟨g', cap', cur, e, hg, hh, h2, h3, h4, h5⟩⟩ := h
  · cases e
  · injection e with e1 e2 e3
    injection e1 with e1
    injection e1 with e1
    subst e1 e3
    exact ⟨(Array.getElem?_eq_some_iff.1 hh).1, h2, h3, e2⟩
/-- The cells of a row, from anywhere in it on. -/
theorem HRow.cells {w : World} {g n cap : Nat} {l : List Hd} (h : HRow w (.slice (some ⟨g, 0, none⟩) n cap) l) (j : Nat) (x : Value) (hx : (hdC l)[j]? = some x) : w.cell? ⟨g, j, none⟩ = some x := by
  obtain ⟨h0, ⟨e, h1⟩ | ⟨g', cap', cur, e, hg, hh, h2, h3, h4, h5⟩⟩ := h
  · cases e
  · injection e with e1 e2 e3
    injection e1 with e1
    injection e1 with e1
    subst e1
    have hj : j < l.length * 2 := by
      have := (List.getElem?_eq_some_iff.1 hx).1
      rw [hdC_length] at this
      exact this
    rw [← h5, List.getElem?_take_of_lt hj] at hx
    simp at hx
    simp [World.cell?, hh, hx]
theorem HRow.at {w : World} {v : Value} {l : List Hd} (h : HRow w v l) (hl : 0 < l.length) : ∃ g cap, v = .slice (some ⟨g, 0, none⟩) l.length cap ∧ g < w.heap.size ∧ l.length ≤ cap ∧ cap ≤ maxLen ∧ ∀ i (hi : i < l.length), w.cell? ⟨g, i * 2, none⟩ = some (.string l[i].k) ∧ w.cell? ⟨g, i * 2 + 1, none⟩ = some (.slice l[i].a l[i].s.length l[i].c) := by
  obtain ⟨ad, cap, rfl⟩ := h.len
  obtain ⟨h0, ⟨e, h1⟩ | ⟨g', cap', cur, e, hg, hh, h2, h3, h4, h5⟩⟩ := id h
  · omega
  · injection e with e1 e2 e3
    subst e1 e3
    have hlt := HRow.lt h
    refine ⟨g', cap, rfl, hlt.1, hlt.2.1, hlt.2.2.1, fun i hi => ?_⟩
    obtain ⟨c0, c1⟩ := hdC_at l i hi
    exact ⟨HRow.cells h _ _ c0, HRow.cells h _ _ c1⟩
/-- A match that may be, whose stages lie there. -/
def Hd.ok (w : World) (h : Hd) : Prop := MtOk h.k h.s ∧ StagesAt w h.a h.s ∧ mayM h.k h.s = true
theorem StagesAt.kp {w w' : World} {ad : Option Addr} {ss : List (List Int)} (h : StagesAt w ad ss) (hk : Kp [] w w') : StagesAt w' ad ss := h.below (hk.below (Nat.le_refl _) (by simp)) (Nat.le_refl _)
theorem Hd.ok.kp {w w' : World} {h : Hd} (hh : h.ok w) (hk : Kp [] w w') : h.ok w' := ⟨hh.1, hh.2.1.kp hk, hh.2.2⟩
theorem compareH {x y : Hd} {w : World} (hx : x.ok w) (hy : y.ok w) : Calls Try.prog 12 #[.agg #[.string x.k, .slice x.a x.s.length x.c], .agg #[.string y.k, .slice y.a y.s.length y.c]] w fun e w' => e = .returned (.tuple #[.int .i64 (cH x y), .int .i64 0]) ∧ Kp [] w w' := by
  refine (compare_any x.k x.a x.c x.s y.k y.a y.c y.s w hx.1 hy.1 hx.2.1 hy.2.1).mono ?_
  rintro e w' ⟨rfl, hb⟩
  have e1 : cmpV x.k x.s y.k y.s = cH x y := if_pos ⟨hx.2.2, hy.2.2⟩
  have e2 : cmpE x.k x.s y.k y.s = 0 := if_pos ⟨hx.2.2, hy.2.2⟩
  rw [e1, e2]
  exact ⟨rfl, Kp.ofBelow hb⟩
end Go.Proofs.Ytnikkjbjidhhlaa
