/-
  Tokens there and back: plain facts; rows of tokens whose places are changed.
-/
import Derived.Test.YtglfjgnbfligoaaDoorTPlc
namespace Go.Proofs.YtglfjgnbfligoaaDoor
open Go.RowKit

theorem end_is (ts : List Tk) (n : Nat) : isEnd (ts ++ [endK n]) = true := by unfold isEnd; rw [List.getLast?_concat]; rfl
theorem end_cut (ts : List Tk) (n : Nat) : cutL (ts ++ [endK n]) = ts := by unfold cutL; rw [if_pos (end_is ts n), List.dropLast_concat]
theorem end_tok (ts : List Tk) (n : Nat) : endT (ts ++ [endK n]) = endK n := by unfold endT; rw [if_pos (end_is ts n), List.getLast?_concat]; rfl
theorem joR_end (ts : List Tk) (n : Nat) (h : ∀ t ∈ ts, wrOk t = true) (hl : ts.length ≤ 4096) : joR (ts ++ [endK n]) = if 262144 < (joinB ts).length then ([], 2) else (joinB ts, 0) := by
  unfold joR
  rw [end_cut, end_tok, if_neg (by omega), if_neg (not_not_intro h), if_neg (not_not_intro ⟨rfl, rfl⟩)]
theorem joR_ok (l : List Tk) (h : (joR l).2 = 0) : (∀ t ∈ cutL l, wrOk t = true) ∧ (cutL l).length ≤ 4096 ∧ (joR l).1 = joinB (cutL l) ∧ (joinB (cutL l)).length ≤ 262144 ∧ (endT l).s.size = 0 ∧ (endT l).n = 0 := by
  unfold joR at h ⊢
  split at h
  · simp at h
  · rename_i h1
    rw [if_neg h1]
    split at h
    · simp at h
    · rename_i h2
      rw [if_neg h2]
      split at h
      · simp at h
      · rename_i h3
        rw [if_neg h3]
        split at h
        · simp at h
        · rename_i h4
          rw [if_neg h4]
          have h3' := Decidable.not_not.1 h3
          exact ⟨Decidable.not_not.1 h2, by omega, rfl, by omega, h3'.1, h3'.2⟩
theorem joR_err (l : List Tk) (h : ¬ (joR l).2 = 0) : (joR l).1 = [] := by
  unfold joR at h ⊢
  split
  · rfl
  · rename_i h1
    rw [if_neg h1] at h
    split
    · rfl
    · rename_i h2
      rw [if_neg h2] at h
      split
      · rfl
      · rename_i h3
        rw [if_neg h3] at h
        split
        · rfl
        · rename_i h4
          rw [if_neg h4] at h
          exact absurd rfl h
/-- The same but for places. -/
def Alike (a b : List Tk) : Prop := a.length = b.length ∧ ∀ i (h : i < a.length) (h' : i < b.length), a[i].kd = b[i].kd ∧ a[i].s = b[i].s ∧ a[i].n = b[i].n
theorem alike_of_map {a b : List Tk} (h : a.map (Tk.out · 0) = b.map (Tk.out · 0)) : Alike a b := by
  refine ⟨by simpa using congrArg List.length h, fun i h1 h2 => ?_⟩
  have e : (a.map (Tk.out · 0))[i]'(by simpa using h1) = (b.map (Tk.out · 0))[i]'(by simpa using h2) := by simp only [h]
  rw [List.getElem_map, List.getElem_map] at e
  unfold Tk.out at e
  simp only [Tk.mk.injEq] at e
  exact ⟨e.1, e.2.1, e.2.2.1⟩
theorem Alike.snoc {a b : List Tk} (h : Alike a b) {x y : Tk} (hx : x.kd = y.kd ∧ x.s = y.s ∧ x.n = y.n) : Alike (a ++ [x]) (b ++ [y]) := by
  refine ⟨by simp [h.1], fun i h1 h2 => ?_⟩
  rcases Nat.lt_or_ge i a.length with hi | hi
  · rw [List.getElem_append_left hi, List.getElem_append_left (by have := h.1; omega)]
    exact h.2 i hi (by have := h.1; omega)
  · have e1 : i = a.length := by simp at h1; omega
    have e2 : i = b.length := by rw [← h.1]; exact e1
    rw [List.getElem_append_right (by omega), List.getElem_append_right (by omega)]
    simp only [e1, h.1, Nat.sub_self, List.getElem_cons_zero]
    exact hx
/-- What is joined is parted into the same. -/
theorem join_back (a : List Tk) (h : ∀ t ∈ a, wrOk t = true) (hl : a.length ≤ 4096) (hj : (joinB a).length ≤ 262144) : ∃ ts, tsR (txt (joinB a)) = .good ts ∧ Alike ts a := by
  obtain ⟨ts, h1, h2⟩ := toks_join a 0 h hl
  refine ⟨ts, ?_, alike_of_map h2⟩
  unfold tsR
  rw [if_neg (by rw [txt_size]; omega), txt_list]
  exact h1
/-- A row of tokens whose places may be anything. -/
def RowK (b : Nat) (l : List Tk) (w : World) : Prop := ∃ cur : Array Value, w.heap[b]? = some (.cells cur 35 (0, 0)) ∧ ∀ j (h : j < l.length), cur[j * 4]? = some (.int .i64 l[j].kd) ∧ cur[j * 4 + 1]? = some (.string l[j].s) ∧ cur[j * 4 + 2]? = some (.int .i64 l[j].n) ∧ ∃ v, cur[j * 4 + 3]? = some (.int .i64 v)
theorem OwnsK.row {B : Nat} {w : World} {v : Value} {l : List Tk} (h : OwnsK B w v l) (hne : l ≠ []) : ∃ g cp, v = .slice (some ⟨g, 0, none⟩) l.length cp ∧ B ≤ g ∧ g < w.heap.size ∧ RowK g l w := by
  obtain ⟨_, ⟨rfl, h0⟩ | ⟨g, cp, cur, rfl, hB, hh, _⟩⟩ := id h
  · exact absurd (List.eq_nil_of_length_eq_zero h0) hne
  · have hl := World.ownsRow.lt h g rfl
    refine ⟨g, cp, rfl, hB, hl.2, cur, hh, fun j hj => ?_⟩
    obtain ⟨a, b, c, d⟩ := tkC_get l j hj
    have key : ∀ i, i < l.length * 4 → cur[i]? = (tkC l)[i]? := fun i hi => by
      have e := World.ownsRow.cellAt h i hi
      rw [show w.cell? ⟨g, i, none⟩ = cur[i]? by simp [World.cell?, hh]] at e
      exact e
    exact ⟨(key _ (by omega)).trans a, (key _ (by omega)).trans b, (key _ (by omega)).trans c, _, (key _ (by omega)).trans d⟩
theorem RowK.kp {b : Nat} {l : List Tk} {w w' : World} {F : List Nat} (h : RowK b l w) (hk : Kp F w w') (hF : b ∉ F) : RowK b l w' := by
  obtain ⟨cur, h1, h2⟩ := h
  exact ⟨cur, (hk.block b (Array.getElem?_eq_some_iff.1 h1).1 hF).trans h1, h2⟩
theorem RowK.cells {b : Nat} {l : List Tk} {w : World} (h : RowK b l w) (j : Nat) (hj : j < l.length) : w.cell? ⟨b, j * 4, none⟩ = some (.int .i64 l[j].kd) ∧ w.cell? ⟨b, j * 4 + 1, none⟩ = some (.string l[j].s) ∧ w.cell? ⟨b, j * 4 + 2, none⟩ = some (.int .i64 l[j].n) ∧ (∃ v, w.cell? ⟨b, j * 4 + 3, none⟩ = some (.int .i64 v)) ∧ w.frozen? ⟨b, j * 4 + 3, none⟩ = false := by
  obtain ⟨cur, h1, h2⟩ := h
  obtain ⟨c0, c1, c2, v, c3⟩ := h2 j hj
  exact ⟨by simp [World.cell?, h1, c0], by simp [World.cell?, h1, c1], by simp [World.cell?, h1, c2], ⟨v, by simp [World.cell?, h1, c3]⟩, by simp [World.frozen?, h1]⟩
theorem RowK.set {b : Nat} {l : List Tk} {w : World} (h : RowK b l w) (i : Nat) (x : Int) : RowK b l (w.setCell ⟨b, i * 4 + 3, none⟩ (.int .i64 x)) := by
  obtain ⟨cur, h1, h2⟩ := h
  refine ⟨cur.setIfInBounds (i * 4 + 3) (.int .i64 x), CBox.set h1 _ _, fun j hj => ?_⟩
  obtain ⟨c0, c1, c2, v, c3⟩ := h2 j hj
  refine ⟨?_, ?_, ?_, ?_⟩
  · rw [Array.getElem?_setIfInBounds_ne (by omega)]; exact c0
  · rw [Array.getElem?_setIfInBounds_ne (by omega)]; exact c1
  · rw [Array.getElem?_setIfInBounds_ne (by omega)]; exact c2
  · by_cases hij : i = j
    · subst hij
      have hlt := (Array.getElem?_eq_some_iff.1 c3).1
      exact ⟨x, by rw [Array.getElem?_setIfInBounds_self_of_lt hlt]⟩
    · exact ⟨v, by rw [Array.getElem?_setIfInBounds_ne (by omega)]; exact c3⟩
theorem RowK.set_at {b : Nat} {l : List Tk} {w : World} (h : RowK b l w) (i : Nat) (hi : i < l.length) (x : Int) : (w.setCell ⟨b, i * 4 + 3, none⟩ (.int .i64 x)).cell? ⟨b, i * 4 + 3, none⟩ = some (.int .i64 x) := by
  obtain ⟨cur, h1, h2⟩ := h
  obtain ⟨_, _, _, v, c3⟩ := h2 i hi
  have hlt := (Array.getElem?_eq_some_iff.1 c3).1
  exact (CBox.set h1 (i * 4 + 3) (.int .i64 x)).cell (by rw [Array.getElem?_setIfInBounds_self_of_lt hlt])
/-- Both places set to 0: what the two rows hold then. -/
theorem two_rows {gx gy : Nat} {L1 L2 : List Tk} {w : World} {k : Nat} (hx : RowK gx L1 w) (hy : RowK gy L2 w) (hne : gx ≠ gy) (h1 : k < L1.length) (h2 : k < L2.length) (ha : Alike L1 L2) :
    ∃ W, W = (w.setCell ⟨gx, k * 4 + 3, none⟩ (.int .i64 0)).setCell ⟨gy, k * 4 + 3, none⟩ (.int .i64 0) ∧ RowK gx L1 W ∧ RowK gy L2 W ∧ Kp [gx, gy] w W ∧ ∃ (a : Int) (b : ByteArray) (c : Int),
      W.cell? ⟨gx, k * 4, none⟩ = some (.int .i64 a) ∧ W.cell? ⟨gx, k * 4 + 1, none⟩ = some (.string b) ∧ W.cell? ⟨gx, k * 4 + 2, none⟩ = some (.int .i64 c) ∧ W.cell? ⟨gx, k * 4 + 3, none⟩ = some (.int .i64 0) ∧
      W.cell? ⟨gy, k * 4, none⟩ = some (.int .i64 a) ∧ W.cell? ⟨gy, k * 4 + 1, none⟩ = some (.string b) ∧ W.cell? ⟨gy, k * 4 + 2, none⟩ = some (.int .i64 c) ∧ W.cell? ⟨gy, k * 4 + 3, none⟩ = some (.int .i64 0) := by
  have k1 := Kp.set w gx (k * 4 + 3) (.int .i64 0)
  have k2 := Kp.set (w.setCell ⟨gx, k * 4 + 3, none⟩ (.int .i64 0)) gy (k * 4 + 3) (.int .i64 0)
  have hx2 := (hx.set k 0).kp k2 (by simp; omega)
  have hy1 := hy.kp k1 (by simp; omega)
  have hy2 := hy1.set k 0
  obtain ⟨x0, x1, x2, _, _⟩ := hx2.cells k h1
  obtain ⟨y0, y1, y2, _, _⟩ := hy2.cells k h2
  obtain ⟨e0, e1, e2⟩ := ha.2 k h1 h2
  refine ⟨_, rfl, hx2, hy2, ⟨rfl, rfl, rfl, by simp, fun i hi hm => ?_⟩, L1[k].kd, L1[k].s, L1[k].n, x0, x1, x2, k2.cell (hx.set_at k h1 0) (by simp; omega), by rw [e0]; exact y0, by rw [e1]; exact y1, by rw [e2]; exact y2, hy1.set_at k h2 0⟩
  simp only [List.mem_cons, List.not_mem_nil, or_false, not_or] at hm
  rw [k2.block i (by simpa using hi) (by simpa using hm.2), k1.block i hi (by simpa using hm.1)]
theorem size_zero {s : ByteArray} (h : s.size = 0) : s = ⟨#[]⟩ := by
  have := List.eq_nil_of_length_eq_zero (l := s.data.toList) (by rw [size_list]; exact h)
  rw [← txt_self s, this]; rfl
theorem back_end {l ts : List Tk} {n : Nat} (hal : Alike ts (cutL l)) (hs : (endT l).s.size = 0) (hn : (endT l).n = 0) (he : isEnd l = true) : Alike (ts ++ [endK n]) l := by
  have hne : l ≠ [] := fun e => by subst e; cases he
  have e1 : cutL l = l.dropLast := by unfold cutL; rw [if_pos he]
  obtain ⟨m, hm⟩ : ∃ m, l.length = m + 1 := ⟨l.length - 1, by have := List.length_pos_iff.2 hne; omega⟩
  have e2 := endT_at l m hm he
  have e3 := isEnd_at l m hm
  rw [he] at e3
  have e4 : l.getLast hne = l[m] := by rw [List.getLast_eq_getElem]; congr 1; omega
  have e5 : l = l.dropLast ++ [l[m]] := by rw [← e4]; exact (List.dropLast_concat_getLast hne).symm
  rw [e1] at hal
  rw [e2] at hs hn
  rw [e5]
  refine hal.snoc ⟨?_, ?_, ?_⟩
  · exact (beq_iff_eq.1 e3.symm).symm
  · exact (size_zero hs).symm
  · exact hn.symm
theorem back_all {l ts : List Tk} (hal : Alike ts (cutL l)) (he : isEnd l = false) : Alike ts l := by
  have e1 : cutL l = l := by unfold cutL; rw [he]; rfl
  rw [e1] at hal
  exact hal
theorem isEnd_nil : isEnd [] = false := rfl
end Go.Proofs.YtglfjgnbfligoaaDoor
