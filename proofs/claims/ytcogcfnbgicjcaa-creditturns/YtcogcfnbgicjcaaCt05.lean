/-
  Rows of texts of which the first ones may have been taken off: appended to, read, one taken out.
  CreditTurns: its walk.
-/
import Derived.Test.YtcogcfnbgicjcaaCt04
import Derived.Laws.Append
import Derived.Deep.DeepCutAuto
namespace Go.Proofs.Ytcogcfnbgicjcaa
open Go.RowKit

/-- A row of texts that may begin anywhere in its block. -/
def TxQ (B : Nat) (w : World) (v : Value) (l : List ByteArray) : Prop :=
  (v = .slice none 0 0 ∧ l = []) ∨ ∃ g off cap cur, v = .slice (some ⟨g, off, none⟩) l.length cap ∧ B ≤ g ∧ w.heap[g]? = some (.cells cur 9 (0, 0)) ∧ l.length ≤ cap ∧ cap ≤ 9223372036854775807 ∧ off + cap ≤ cur.size ∧ (cur.toList.drop off).take l.length = l.map Value.string
theorem TxQ.of {B : Nat} {w : World} {v : Value} {l : List ByteArray} (h : TxO B w v l) : TxQ B w v l := by
  obtain ⟨_, ⟨rfl, h0⟩ | ⟨g, cap, cur, rfl, h1, h2, h3, h4, h5, h6⟩⟩ := h
  · exact Or.inl ⟨rfl, List.eq_nil_of_length_eq_zero h0⟩
  · unfold maxLen at h4
    exact Or.inr ⟨g, 0, cap, cur, rfl, h1, h2, h3, by omega, by omega, by simpa using h6⟩
theorem TxQ.kp {B : Nat} {w w' : World} {v : Value} {l : List ByteArray} {F : List Nat} (h : TxQ B w v l) (hk : Kp F w w') (hF : ∀ g, v.ownBlock = some g → g ∉ F) : TxQ B w' v l := by
  rcases h with h | ⟨g, off, cap, cur, rfl, h1, h2, h3⟩
  · exact Or.inl h
  · exact Or.inr ⟨g, off, cap, cur, rfl, h1, CBox.kp (show CBox g cur 9 w from h2) hk (hF g rfl), h3⟩
theorem TxQ.block {B : Nat} {w : World} {v : Value} {l : List ByteArray} (h : TxQ B w v l) {k : Nat} (hk : v.ownBlock = some k) : B ≤ k ∧ ∃ cur, w.heap[k]? = some (.cells cur 9 (0, 0)) := by
  rcases h with ⟨rfl, _⟩ | ⟨g, off, cap, cur, rfl, h1, h2, _⟩
  · cases hk
  · simp [Value.ownBlock] at hk
    subst hk
    exact ⟨h1, cur, h2⟩
theorem TxQ.form {B : Nat} {w : World} {v : Value} {l : List ByteArray} (h : TxQ B w v l) : ∃ ad cp, v = .slice ad l.length cp ∧ l.length ≤ cp ∧ cp ≤ 9223372036854775807 := by
  rcases h with ⟨rfl, rfl⟩ | ⟨g, off, cap, cur, rfl, h1, h2, h3, h4, _⟩
  · exact ⟨none, 0, rfl, Nat.le_refl _, by omega⟩
  · exact ⟨_, cap, rfl, h3, h4⟩
/-- Where it has texts: its address, and each text. -/
theorem TxQ.cells {B : Nat} {w : World} {v : Value} {l : List ByteArray} (h : TxQ B w v l) (hl : 0 < l.length) : ∃ g off cap, v = .slice (some ⟨g, off, none⟩) l.length cap ∧ B ≤ g ∧ g < w.heap.size ∧ l.length ≤ cap ∧ cap ≤ 9223372036854775807 ∧ ∀ i (hi : i < l.length), w.cell? ⟨g, off + i, none⟩ = some (.string l[i]) := by
  rcases h with ⟨_, rfl⟩ | ⟨g, off, cap, cur, rfl, h1, h2, h3, h4, h5, h6⟩
  · cases hl
  · refine ⟨g, off, cap, rfl, h1, (Array.getElem?_eq_some_iff.1 h2).1, h3, h4, fun i hi => ?_⟩
    have e1 : w.cell? ⟨g, off + i, none⟩ = cur[off + i]? := by simp [World.cell?, h2]
    have e2 : ((cur.toList.drop off).take l.length)[i]? = some (.string l[i]) := by
      rw [h6, List.getElem?_map, List.getElem?_eq_getElem hi]
      rfl
    rw [List.getElem?_take_of_lt hi, List.getElem?_drop, Array.getElem?_toList] at e2
    rw [e1, e2]
/-- The first text taken off. -/
theorem TxQ.tail {B : Nat} {w : World} {g off cap : Nat} {x : ByteArray} {l : List ByteArray} (h : TxQ B w (.slice (some ⟨g, off, none⟩) (l.length + 1) cap) (x :: l)) : TxQ B w (.slice (if cap = 1 then some ⟨g, off, none⟩ else some ⟨g, off + 1, none⟩) l.length (cap - 1)) l := by
  rcases h with ⟨e, _⟩ | ⟨g', off', cap', cur, e, h1, h2, h3, h4, h5, h6⟩
  · cases e
  · injection e with e1 e2 e3
    injection e1 with e1
    injection e1 with e1 e4
    subst e1 e3 e4
    rw [List.length_cons] at h3 h6
    by_cases hc : cap = 1
    · rw [if_pos hc]
      obtain rfl : l = [] := List.eq_nil_of_length_eq_zero (by omega)
      exact Or.inr ⟨g, off, cap - 1, cur, rfl, h1, h2, by simp, by omega, by omega, rfl⟩
    · rw [if_neg hc]
      refine Or.inr ⟨g, off + 1, cap - 1, cur, rfl, h1, h2, by omega, by omega, by omega, ?_⟩
      have e := congrArg (List.drop 1) h6
      rw [List.map_cons, List.drop_take, List.drop_drop, Nat.add_sub_cancel] at e
      rw [e]
      rfl
theorem heap_setRowT {w : World} {g : Nat} {cur cs : Array Value} {t : TypeId} (h : w.heap[g]? = some (.cells cur t (0, 0))) : (w.setRow g cs).heap[g]? = some (.cells cs t (0, 0)) := by
  unfold World.setRow
  simp [Array.getElem?_modify, h]
theorem Kp.setRowT (w : World) (g : Nat) (cs : Array Value) : Kp [g] w (w.setRow g cs) := by
  refine ⟨rfl, rfl, rfl, by simp [World.setRow], fun k hk hn => ?_⟩
  unfold World.setRow
  have hg : g ≠ k := fun e => hn (by simp [e])
  simp [Array.getElem?_modify, hg]
theorem strs_one (l : List ByteArray) : ∀ u ∈ l.map Value.string, u.oneCell' = true := fun u hu => by
  obtain ⟨x, _, rfl⟩ := List.mem_map.1 hu
  rfl
/-- Texts of another row are put at its end. -/
theorem TxQ.app {B : Nat} {w : World} {v x : Value} {l ys : List ByteArray} (h : TxQ B w v l) (hB : B ≤ w.heap.size) (hx : TxO 0 w x ys) (hl : l.length + ys.length ≤ 1000000) (ty : TypeId) :
    ∃ ad cap w', (Builtin.append_ #[39, 39] ty #[v, x]).run Try.prog w = .ok (.slice ad (l.length + ys.length) cap) w' ∧ TxQ B w' (.slice ad (l.length + ys.length) cap) (l ++ ys) ∧ Kp v.ownBlock.toList w w' ∧ ((Value.slice ad (l.length + ys.length) cap).ownBlock = v.ownBlock ∨ (Value.slice ad (l.length + ys.length) cap).ownBlock = some w.heap.size) := by
  obtain ⟨i0, hi, hz0, hz1, hz2⟩ := info_parts info_txt
  have hys : (ys.map Value.string).length = ys.length := List.length_map ..
  obtain ⟨_, ⟨rfl, h0⟩ | ⟨gx, cx, curx, rfl, _, _, hnx, hmx, _⟩⟩ := id hx
  · obtain rfl : ys = [] := List.eq_nil_of_length_eq_zero h0
    simp only [List.length_nil, Nat.add_zero, List.append_nil]
    rcases h with ⟨rfl, rfl⟩ | ⟨g, off, cap, cur, rfl, h1, h2, h3, h4, h5, h6⟩
    · refine ⟨none, 0, w, ?_, Or.inl ⟨rfl, rfl⟩, Kp.refl _ _, Or.inl rfl⟩
      simp [Builtin.append_, run_underlying Try.underlying39, sizeOf, typeInfo, hi, Builtin.lenOf, Builtin.firstCells]
    · refine ⟨_, cap, w, ?_, Or.inr ⟨g, off, cap, cur, rfl, h1, h2, h3, h4, h5, h6⟩, Kp.refl _ _, Or.inl rfl⟩
      simp [Builtin.append_, run_underlying Try.underlying39, sizeOf, typeInfo, hi, Builtin.lenOf, Builtin.firstCells, h3, storeCells]
  · have hnews : ∀ j u, (ys.map Value.string)[j]? = some u → w.cell? ((⟨gx, 0, none⟩ : Addr).add j) = some u := fun j u hj => World.ownsRow.cells hx (g := gx) rfl j u hj
    rcases h with ⟨rfl, rfl⟩ | ⟨g, off, cap, cur, rfl, h1, h2, h3, h4, h5, h6⟩
    · rcases Nat.eq_zero_or_pos ys.length with h0 | h0
      · obtain rfl : ys = [] := List.eq_nil_of_length_eq_zero h0
        refine ⟨none, 0, w, ?_, Or.inl ⟨rfl, rfl⟩, Kp.refl _ _, Or.inl rfl⟩
        simp [Builtin.append_, run_underlying Try.underlying39, sizeOf, typeInfo, hi, Builtin.lenOf, Builtin.firstCells, loadCells, loadCellsFrom]
      · have hr := run_append_nil (P := Try.prog) w 39 ty 9 i0 _ Try.underlying39 hi hz0 ⟨gx, 0, none⟩ ys.length cx (ys.map Value.string) (by rw [hys, hz1, Nat.mul_one]) hnews h0 (by omega) (by rw [hz2]; omega)
        refine ⟨some ⟨w.heap.size, 0, none⟩, grownCap w ys.length 0 9, _, by simpa using hr, ?_, ?_, Or.inr rfl⟩
        · have hgc := grownCap_ge w ys.length 0 9
          have hgm : grownCap w ys.length 0 9 ≤ 9223372036854775807 := by
            have := grownCap_le_maxLen w ys.length 0 9 (by unfold maxLen; omega)
            unfold maxLen at this
            omega
          refine Or.inr ⟨w.heap.size, 0, grownCap w ys.length 0 9, _, by simp, hB, heap_alloc_new w.drew _, ?_, hgm, ?_, ?_⟩
          · simpa using hgc
          · rw [Array.size_append, size_zeroCells]
            have e3 : (Value.string ⟨#[]⟩).cells.size = 1 := rfl
            rw [e3]
            simp only [List.size_toArray, hys]
            omega
          · rw [List.nil_append, List.drop_zero, Array.toList_append, ← hys, List.take_left']
            simp
        · exact (Kp.drew w).trans (Kp.alloc _ _) (by simp)
    · by_cases hroom : l.length + ys.length ≤ cap
      · have hcl : cur.toList.length = cur.size := by simp
        have h1c := strs_one ys
        have hfa : (l ++ ys).map Value.string = l.map Value.string ++ ys.map Value.string := List.map_append
        rw [← h6] at hfa
        generalize ys.map Value.string = NS at *
        have hf := run_firstCells_some (P := Try.prog) w i0.size ys.length ⟨gx, 0, none⟩ ys.length cx NS (by rw [hys, hz1, Nat.mul_one]) hnews
        have hst := run_storeCells_at Try.prog g (off + l.length) 9 NS 0 cur w h2 (by rw [hys]; omega) h1c
        simp only [Nat.add_zero] at hst
        rw [hz1] at hf
        refine ⟨some ⟨g, off, none⟩, cap, w.setRow g (cur.toList.take (off + l.length) ++ NS ++ cur.toList.drop (off + l.length + NS.length)).toArray, ?_, Or.inr ⟨g, off, cap, (cur.toList.take (off + l.length) ++ NS ++ cur.toList.drop (off + l.length + NS.length)).toArray, by rw [List.length_append], h1, heap_setRowT h2, by rw [List.length_append]; exact hroom, h4, ?_, ?_⟩, Kp.setRowT w g _, Or.inl rfl⟩
        · simp [Builtin.append_, run_underlying Try.underlying39, sizeOf, typeInfo, hi, Builtin.lenOf, hroom, hf, hz1, Go.WideShapes.add_plain, hst]
        · simp only [List.size_toArray, List.length_append, List.length_take, List.length_drop, hcl, hys]
          omega
        · rw [hfa]
          show ((cur.toList.take (off + l.length) ++ NS ++ cur.toList.drop (off + l.length + NS.length)).drop off).take ((l ++ ys).length) = _
          have e1 : (cur.toList.take (off + l.length) ++ NS ++ cur.toList.drop (off + l.length + NS.length)).drop off = ((cur.toList.drop off).take l.length ++ NS) ++ cur.toList.drop (off + l.length + NS.length) := by
            rw [List.append_assoc, List.drop_append_of_le_length (by rw [List.length_take, hcl]; omega), List.drop_take, Nat.add_sub_cancel_left, List.append_assoc]
          rw [e1]
          refine List.take_left' ?_
          rw [List.length_append, List.length_take, List.length_drop, hcl, hys, List.length_append]
          omega
      · have hol : (l.map Value.string).length = l.length := List.length_map ..
        have holds : ∀ j u, (l.map Value.string)[j]? = some u → w.cell? ((⟨g, off, none⟩ : Addr).add j) = some u := fun j u hj => by
          have hj3 : j < l.length := by rw [← hol]; exact (List.getElem?_eq_some_iff.1 hj).1
          rw [Go.WideShapes.add_plain]
          have e1 : w.cell? ⟨g, off + j, none⟩ = cur[off + j]? := by simp [World.cell?, h2]
          rw [← h6, List.getElem?_take_of_lt hj3, List.getElem?_drop, Array.getElem?_toList] at hj
          rw [e1, hj]
        have hr := run_append_grow (P := Try.prog) w 39 ty 9 i0 _ Try.underlying39 hi hz0 ⟨g, off, none⟩ l.length cap (l.map Value.string) (by rw [hol, hz1, Nat.mul_one]) holds ⟨gx, 0, none⟩ ys.length cx (ys.map Value.string) (by rw [hys, hz1, Nat.mul_one]) hnews (by omega) (by omega) (growslice_fits (by omega) (by rw [hz2]; omega))
        refine ⟨_, _, _, hr, ?_, ?_, Or.inr rfl⟩
        · refine Or.inr ⟨w.heap.size, 0, _, _, by rw [List.length_append], hB, heap_alloc_new w.drew _, ?_, ?_, ?_, ?_⟩
          · rw [List.length_append]
            exact grownCap_ge w _ _ _
          · have := grownCap_le_maxLen w (l.length + ys.length) cap 9 (by unfold maxLen; omega)
            unfold maxLen at this
            omega
          · have := grownCap_ge w (l.length + ys.length) cap 9
            rw [Array.size_append, Array.size_append, size_zeroCells]
            have e3 : (Value.string ⟨#[]⟩).cells.size = 1 := rfl
            rw [e3]
            simp only [List.size_toArray, hys, hol]
            omega
          · rw [List.drop_zero, Array.toList_append, Array.toList_append, List.map_append]
            refine List.take_left' ?_
            simp only [List.length_append, hys, hol]
        · exact ((Kp.drew w).trans (Kp.alloc _ _) (by simp)).mono (by simp)
/-- What is put together anew: the first texts, and those behind one that is left out. -/
theorem row_raiseT {B g cap : Nat} {W : World} {n : Nat} {l : List ByteArray} (h : TxO 0 W (.slice (some ⟨g, 0, none⟩) n cap) l) (hB : B ≤ g) : TxO B W (.slice (some ⟨g, 0, none⟩) n cap) l := by
  obtain ⟨h1, ⟨e1, _⟩ | ⟨g', cap', cur, e1, _, h4⟩⟩ := h
  · cases e1
  · cases e1
    exact ⟨h1, .inr ⟨g, cap, cur, rfl, hB, h4⟩⟩
theorem TxO.empty {B : Nat} (W : World) (hB : B ≤ W.heap.size) : TxO B (W.alloc (.cells #[] 9)) (.slice (some ⟨W.heap.size, 0, none⟩) 0 0) [] :=
  ⟨rfl, Or.inr ⟨W.heap.size, 0, #[], rfl, hB, heap_alloc_new W _, Nat.le_refl _, Nat.zero_le _, rfl, rfl⟩⟩
/-- Texts that lie anywhere are put at the end of a row of the call's own. -/
theorem TxO.appAny {B : Nat} {w : World} {g cap0 n : Nat} {l ys : List ByteArray} (h : TxO B w (.slice (some ⟨g, 0, none⟩) n cap0) l) (ad : Option Addr) (c : Nat) (hnone : ad = none → ys.length = 0 ∧ c = 0) (hsp : ∀ a, ad = some a → a.spot = none) (hc : ∀ a, ad = some a → ∀ j u, (ys.map Value.string)[j]? = some u → w.cell? (a.add j) = some u) (hn : n = l.length) (hB : B ≤ w.heap.size) (hl : l.length + ys.length ≤ 1000000) (ty : TypeId) :
    ∃ g' cap w', (Builtin.append_ #[39, 39] ty #[.slice (some ⟨g, 0, none⟩) n cap0, .slice ad ys.length c]).run Try.prog w = .ok (.slice (some ⟨g', 0, none⟩) (n + ys.length) cap) w' ∧ TxO B w' (.slice (some ⟨g', 0, none⟩) (n + ys.length) cap) (l ++ ys) ∧ Kp [g] w w' := by
  obtain ⟨i0, hi, hz0, hz1, hz2⟩ := info_parts info_txt
  subst hn
  have hgB : B ≤ g := (h.block (k := g) rfl).1
  obtain ⟨g', cap, w', hr, r1, r2, r3⟩ := run_app_any (P := Try.prog) (w := w) 39 ty 9 i0 (.string ⟨#[]⟩) 1 16 Try.underlying39 hi hz0 hz1 hz2 rfl (by decide) (h.lower (Nat.zero_le _)) ad ys.length c (ys.map Value.string) (by rw [List.length_map, Nat.mul_one]) hnone hsp hc (strs_one ys) (by unfold maxLen; omega) (by omega)
  refine ⟨g', cap, w', hr, row_raiseT ?_ (by rcases r3 with r3 | r3 <;> omega), Kp.of r2⟩
  unfold TxO
  rw [List.length_append, List.map_append]
  exact r1
end Go.Proofs.Ytcogcfnbgicjcaa
namespace Go.Proofs.Ytcogcfnbgicjcaa
open Go.RowKit Cr

/-- One more text. -/
theorem TxQ.push {B : Nat} {w : World} {v : Value} {l : List ByteArray} {g : Nat} {x : ByteArray} (h : TxQ B w v l) (hB : B ≤ w.heap.size) (hg : CBox g #[.string x] 9 w) (hl : l.length + 1 ≤ 1000000) (ty : TypeId) :
    ∃ ad cap w', (Builtin.append_ #[39, 39] ty #[v, .slice (some ⟨g, 0, none⟩) 1 1]).run Try.prog w = .ok (.slice ad (l.length + 1) cap) w' ∧ TxQ B w' (.slice ad (l.length + 1) cap) (l ++ [x]) ∧ Kp v.ownBlock.toList w w' ∧ ((Value.slice ad (l.length + 1) cap).ownBlock = v.ownBlock ∨ (Value.slice ad (l.length + 1) cap).ownBlock = some w.heap.size) :=
  h.app hB (x := .slice (some ⟨g, 0, none⟩) 1 1) (ys := [x]) ⟨rfl, Or.inr ⟨g, 1, #[.string x], rfl, Nat.zero_le _, hg, Nat.le_refl _, by decide, rfl, rfl⟩⟩ hl ty
/-- A store's block is no row of texts. -/
theorem tq_ne {w : World} {b B : Nat} {s : Sto} {v : Value} {l : List ByteArray} (h : CrAt w b s) (t : TxQ B w v l) {k : Nat} (hk : v.ownBlock = some k) : k ≠ b := by
  obtain ⟨cs, f, h⟩ := h
  obtain ⟨_, cur, hc⟩ := t.block hk
  rintro rfl
  have := h.box
  unfold CBox at this
  rw [hc] at this
  injection this with e; injection e with _ e; exact absurd e (by decide)
/-- What there is between two texts: the store, and what was put in and not taken yet. -/
structure Tn (w w' : World) (b : Nat) (v : Value) (s : Sto) (q : List ByteArray) : Prop where
  st : CrAt w' b s
  row : TxQ w.heap.size w' v q
  kp : Kp [] w w'
  ge : w.heap.size ≤ b
  sz : ∀ x ∈ q, x.size ≤ 281474976710656
theorem Tn.call {w W W' : World} {b : Nat} {v : Value} {s s' : Sto} {q : List ByteArray} (h : Tn w W b v s q) (a : CrAt W' b s') (k : Kp [b] W W') : Tn w W' b v s' q :=
  ⟨a, h.row.kp k (fun g hg => by simpa using tq_ne h.st h.row hg), kp_own h.kp k h.ge, h.ge, h.sz⟩
theorem Tn.quiet {w W W' : World} {b : Nat} {v : Value} {s : Sto} {q : List ByteArray} (h : Tn w W b v s q) (k : Kp [] W W') : Tn w W' b v s q :=
  h.call (h.st.kp k (by simp)) (k.mono (by simp))
theorem Tn.push {w W : World} {b : Nat} {v : Value} {s : Sto} {q : List ByteArray} (h : Tn w W b v s q) (x : ByteArray) (hx : x.size ≤ 281474976710656) (hq : q.length ≤ 1000) (ty : TypeId) :
    ∃ ad cap w', (Builtin.append_ #[39, 39] ty #[v, .slice (some ⟨W.heap.size, 0, none⟩) 1 1]).run Try.prog (W.alloc (.cells #[.string x] 9)) = .ok (.slice ad (q.length + 1) cap) w' ∧ Tn w w' b (.slice ad (q.length + 1) cap) s (q ++ [x]) := by
  have ka := Kp.alloc W (.cells #[.string x] 9)
  have h1 := h.quiet ka
  have hsz := h1.kp.size
  obtain ⟨ad, cap, w', hr, r1, r2, _⟩ := h1.row.push hsz (CBox.new W _ _) (by omega) ty
  refine ⟨ad, cap, w', hr, ⟨h1.st.kp r2 (fun hm => ?_), r1, h1.kp.trans r2 (fun k hk => ?_), h.ge, fun y hy => ?_⟩⟩
  · exact tq_ne h1.st h1.row (by simpa using hm) rfl
  · exact Or.inr (h1.row.block (by simpa using hk)).1
  · rcases List.mem_append.1 hy with hy | hy
    · exact h.sz y hy
    · rw [List.mem_singleton] at hy
      subst hy
      exact hx
theorem tn_cell {w W : World} {ad : Option Addr} {l : List ByteArray} (h : StrsAt w ad l) (hb : Kp [] w W) (i : Nat) (hi : i < l.length) : ∃ b o, ad = some ⟨b, o, none⟩ ∧ W.cell? ⟨b, o + i, none⟩ = some (.string l[i]) := by
  obtain ⟨b, o, e, _, hc⟩ := h (by intro e; rw [e] at hi; cases hi)
  exact ⟨b, o, e, hb.cell (hc i hi) (by simp)⟩
theorem tn_cell2 {w W : World} {b o : Nat} {l : List ByteArray} (h : StrsAt w (some ⟨b, o, none⟩) l) (hb : Kp [] w W) (i : Nat) (hi : i < l.length) : W.cell? ⟨b, o + i, none⟩ = some (.string l[i]) := by
  obtain ⟨b', o', e, hc⟩ := tn_cell h hb i hi
  injection e with e
  injection e with e1 e2
  subst e1 e2
  exact hc
set_option maxHeartbeats 8000000 in
set_option maxRecDepth 100000 in
theorem cturns_walk (x0 : Int) (ad : Option Addr) (cap : Nat) (l : List ByteArray) (w : World) (_hl : l.length ≤ 9223372036854775807) (hA : StrsAt w ad l) (_hok : ∀ y ∈ l, y.size ≤ 9223372036854775807) (hz : ∀ y ∈ l, y.size ≤ 281474976710656) :
    Calls Try.prog 5 #[.int .i64 x0, .slice ad l.length cap] w fun e w' => e = .returned (.bool true) ∧ Below w.heap.size w w' := by
  have WK := hide (cWorks_any w)
  have AM := hide (fun W => cAmong_any x0 9 W (by decide) (by decide))
  obtain ⟨n, hn⟩ : ∃ n : Nat, x0 % 9 = (n : Int) := ⟨(x0 % 9).toNat, by have := Int.emod_nonneg x0 (show (9 : Int) ≠ 0 by decide); omega⟩
  have hnl : n < 9 := by have := Int.emod_lt_of_pos x0 (show (0 : Int) < 9 by decide); omega
  rw [hn] at AM
  obtain ⟨c, hc⟩ : ∃ c : Nat, c = 1 + n := ⟨_, rfl⟩
  have hc0 : (1 : Int) + (n : Int) = (c : Int) := by omega
  have hc1 : 1 ≤ c ∧ c ≤ 9 := by omega
  have NS := hide (fun W => newStore_ok c W (by omega) (by omega))
  have HL := hide hA
  have HZ := hide hz
  clear hA hz hn hc
  go_enter Try.func5, Try.ntmps5
  go_wp2_with fail
  refine (unhide WK).mono ?_
  rintro r w1 ⟨rfl, k1⟩
  have K1 := hide k1
  clear WK k1
  go_wp2_with fail
  refine (unhide AM _).mono ?_
  rintro r w1' ⟨rfl, rfl⟩
  clear AM
  go_wp2_with fail
  refine (unhide NS _).mono ?_
  rintro r w2 ⟨rfl, a2, k2⟩
  have hsz := (unhide K1).size
  have HS : Hid (Tn w w2 w1'.heap.size (.slice none 0 0) ⟨c, 0, []⟩ []) := hide ⟨a2, Or.inl ⟨rfl, rfl⟩, (unhide K1).trans k2 (by simp), hsz, fun x hx => by cases hx⟩
  clear NS a2 k2 K1 hsz
  generalize w1'.heap.size = b at *
  go_wp2_with fail
  go_loopw [8, 7] (fun iv v wr => ∃ (k : Nat) (q : List ByteArray), k ≤ l.length ∧ k ≤ 100 ∧ q.length ≤ c ∧ iv = .int .i64 (k : Int) ∧ (∃ a cp, v = .slice a q.length cp ∧ q.length ≤ cp ∧ cp ≤ 9223372036854775807) ∧ Hid (Tn w wr b v ⟨c, 0, q⟩ q)) (fun iv _ _ => l.length - (intOf iv).toNat)
  case atStart => exact ⟨0, [], Nat.zero_le _, by decide, Nat.zero_le _, rfl, ⟨none, 0, rfl, Nat.le_refl _, by decide⟩, HS⟩
  case round =>
    clear HS
    obtain ⟨k, q, hkl, hk, hqc, rfl, ⟨qa, qcp, rfl, hq1, hq2⟩, HR⟩ := hrel
    by_cases h1 : k < l.length ∧ k < 100
    · obtain ⟨h1, h2⟩ := h1
      have h1i : (k : Int) < (l.length : Int) := by omega
      have h2i : (k : Int) < 100 := by omega
      obtain ⟨lb, lo, rfl⟩ : ∃ lb lo, ad = some ⟨lb, lo, none⟩ := by
        obtain ⟨lb, lo, e, _⟩ := tn_cell (unhide HL) (unhide HR).kp k h1
        exact ⟨lb, lo, e⟩
      by_cases hf : q.length = c
      · have hfi : (q.length : Int) = (c : Int) := by omega
        obtain ⟨x, p, rfl⟩ : ∃ x p, q = x :: p := by
          cases q with
          | nil => rw [List.length_nil] at hf; omega
          | cons x p => exact ⟨x, p, rfl⟩
        have hpl : (x :: p).length = p.length + 1 := rfl
        have G9 : Hid (Calls Try.prog 18 #[.pointer (some ⟨b, 0, none⟩), .int .i64 9] wr fun e w' => e = .returned (.tuple #[.int .i64 0, .int .i64 0]) ∧ CrAt w' b ⟨c, 0, x :: p⟩ ∧ Kp [b] wr w') := hide (by
          have := cGive_any b ⟨c, 0, x :: p⟩ 9 wr (unhide HR).st
          have e1 : gvN ⟨c, 0, x :: p⟩ 9 = 0 := by unfold gvN; dsimp only; omega
          unfold gvS at this
          rw [e1] at this
          exact this)
        have PK := hide (fun W (h : CrAt W b ⟨c, 0, x :: p⟩) => (show Calls Try.prog 20 #[.pointer (some ⟨b, 0, none⟩)] W fun e w' => e = .returned (.tuple #[.string x, .int .i64 0]) ∧ Kp [] W w' from cPeek_any b ⟨c, 0, x :: p⟩ W h (unhide HR).sz))
        have TK := hide (fun W (h : CrAt W b ⟨c, 0, x :: p⟩) => (show Calls Try.prog 17 #[.pointer (some ⟨b, 0, none⟩)] W fun e w' => e = .returned (.tuple #[.string x, .int .i64 0]) ∧ CrAt w' b ⟨c, 0, p⟩ ∧ Kp [b] W w' from cTake_any b ⟨c, 0, x :: p⟩ W h))
        rw [hpl] at hf hfi hq1
        have HRL : Hid (Tn w wr b (.slice qa (p.length + 1) qcp) ⟨c, 0, x :: p⟩ (x :: p)) := hide (unhide HR)
        clear HR hpl hqc
        go_wp2_with fail
        refine (unhide G9).mono ?_
        rintro r wa ⟨rfl, a1, k1⟩
        have HA := hide ((unhide HRL).call a1 k1)
        clear G9 HRL a1 k1
        go_wp2_with fail
        refine (unhide PK _ (unhide HA).st).mono ?_
        rintro r wb ⟨rfl, k2⟩
        have HB := hide ((unhide HA).quiet k2)
        clear PK HA k2
        go_wp2_with fail
        refine (unhide TK _ (unhide HB).st).mono ?_
        rintro r wc ⟨rfl, a3, k3⟩
        have HC := hide ((unhide HB).call a3 k3)
        clear TK HB a3 k3
        obtain ⟨qg, qo, qc2, eq, _, _, _, _, qcell⟩ := (unhide HC).row.cells (by simp)
        simp only [Value.slice.injEq] at eq
        obtain ⟨rfl, _, rfl⟩ := eq
        have q0 := qcell 0 (by simp)
        rw [Nat.add_zero] at q0
        have q0 : wc.cell? ⟨qg, qo, none⟩ = some (.string x) := q0
        clear qcell
        obtain ⟨nad, hnad⟩ : ∃ nad : Option Addr, nad = if qcp = 1 then some ⟨qg, qo, none⟩ else some ⟨qg, qo + 1, none⟩ := ⟨_, rfl⟩
        have HD : Hid (Tn w wc b (.slice nad p.length (qcp - 1)) ⟨c, 0, p⟩ p) := hide ⟨(unhide HC).st, by rw [hnad]; exact (unhide HC).row.tail, (unhide HC).kp, (unhide HC).ge, fun y hy => (unhide HC).sz y (List.mem_cons_of_mem _ hy)⟩
        have hnad2 : (if qcp = 1 then some (⟨qg, qo, none⟩ : Addr) else some ⟨qg, qo + 1, none⟩) = nad := hnad.symm
        have hrn : c - 1 = p.length := by omega
        have hpi : (1 : Int) ≤ ((p.length + 1 : Nat) : Int) := by omega
        have hp0 : (0 : Int) < ((p.length + 1 : Nat) : Int) := by omega
        clear HC hnad
        have hq3 : p.length ≤ qcp - 1 := by omega
        have hyz := unhide HZ l[k] (List.getElem_mem h1)
        have G1 : Hid (Calls Try.prog 18 #[.pointer (some ⟨b, 0, none⟩), .int .i64 1] wc fun e w' => e = .returned (.tuple #[.int .i64 1, .int .i64 0]) ∧ CrAt w' b ⟨c, 1, p⟩ ∧ Kp [b] wc w') := hide (by
          have := cGive_any b ⟨c, 0, p⟩ 1 wc (unhide HD).st
          have e1 : gvN ⟨c, 0, p⟩ 1 = 1 := by unfold gvN; dsimp only; omega
          unfold gvS at this
          rw [e1] at this
          exact this)
        have P1 := hide (fun W (h : CrAt W b ⟨c, 1, p⟩) => (show Calls Try.prog 16 #[.pointer (some ⟨b, 0, none⟩), .string l[k]] W fun e w' => e = .returned (.int .i64 0) ∧ CrAt w' b ⟨c, 0, p ++ [l[k]]⟩ ∧ Kp [b] W w' from cPut_any b ⟨c, 1, p⟩ l[k] W h hyz))
        have hPl : (p ++ [l[k]]).length = p.length + 1 := by rw [List.length_append, List.length_singleton]
        have hpc : p.length + 1 ≤ c := by omega
        go_wp2_with fail
        refine (unhide G1).mono ?_
        rintro r wa ⟨rfl, a1, k1⟩
        clear hfi
        have HA := hide ((unhide HD).call a1 k1)
        clear G1 HD a1 k1
        have hc2 := tn_cell2 (unhide HL) (unhide HA).kp k h1
        go_wp2_with fail
        refine (unhide P1 _ (unhide HA).st).mono ?_
        rintro r wb ⟨rfl, a2, k2⟩
        have HB := hide ((unhide HA).call a2 k2)
        clear P1 HA a2 k2 hc2
        have hc3 := tn_cell2 (unhide HL) (unhide HB).kp k h1
        obtain ⟨na, ncp, W5, hrun, h5⟩ := (unhide HB).push l[k] hyz (by omega) 39
        have hl5 := h5.row.form
        rw [hPl] at hl5
        obtain ⟨na', ncp', he5, hl51, hl52⟩ := hl5
        simp only [Value.slice.injEq] at he5
        obtain ⟨rfl, _, rfl⟩ := he5
        have LN := hide (cLen_any b _ W5 h5.st)
        have OW := hide (cOwed_any b _ W5 h5.st)
        dsimp only at LN OW
        rw [hPl] at LN
        have H5 := hide h5
        clear h5 HB
        generalize hQ : p ++ [l[k]] = Q at *
        clear hQ hyz
        generalize l[k] = y at *
        go_wp2_with (at_builtin; refine wpList_app_run rfl _ _ 39 rfl rfl rfl hrun ?_)
        clear hrun hc3
        go_wp2_with fail
        refine (unhide LN).mono ?_
        rintro r w7 ⟨rfl, rfl⟩
        go_wp2_with fail
        refine (unhide OW).mono ?_
        rintro r w7 ⟨rfl, rfl⟩
        clear LN OW
        go_wp2
        go_roundw
        case rel => first | exact ⟨k + 1, Q, by omega, by omega, by omega, by go_num, ⟨_, _, by rw [hPl], by omega, hl52⟩, H5⟩ | exact ⟨k + 1, Q, by omega, by omega, by omega, by go_num, ⟨_, _, by rw [hPl, hf], by omega, hl52⟩, (congrArg (fun z => Hid (Tn w _ b (.slice na z ncp) ⟨c, 0, Q⟩ Q)) hf).mp H5⟩
        case measure => simp [intOf]; omega
      · have hfi : ¬ (q.length : Int) = (c : Int) := by omega
        have hyz := unhide HZ l[k] (List.getElem_mem h1)
        have G1 : Hid (Calls Try.prog 18 #[.pointer (some ⟨b, 0, none⟩), .int .i64 1] wr fun e w' => e = .returned (.tuple #[.int .i64 1, .int .i64 0]) ∧ CrAt w' b ⟨c, 1, q⟩ ∧ Kp [b] wr w') := hide (by
          have := cGive_any b ⟨c, 0, q⟩ 1 wr (unhide HR).st
          have e1 : gvN ⟨c, 0, q⟩ 1 = 1 := by unfold gvN; dsimp only; omega
          unfold gvS at this
          rw [e1] at this
          exact this)
        have P1 := hide (fun W (h : CrAt W b ⟨c, 1, q⟩) => (show Calls Try.prog 16 #[.pointer (some ⟨b, 0, none⟩), .string l[k]] W fun e w' => e = .returned (.int .i64 0) ∧ CrAt w' b ⟨c, 0, q ++ [l[k]]⟩ ∧ Kp [b] W w' from cPut_any b ⟨c, 1, q⟩ l[k] W h hyz))
        have hPl : (q ++ [l[k]]).length = q.length + 1 := by rw [List.length_append, List.length_singleton]
        have hpc : q.length + 1 ≤ c := by omega
        go_wp2_with fail
        refine (unhide G1).mono ?_
        rintro r wa ⟨rfl, a1, k1⟩
        clear hfi
        have HA := hide ((unhide HR).call a1 k1)
        clear G1 HR a1 k1
        have hc2 := tn_cell2 (unhide HL) (unhide HA).kp k h1
        go_wp2_with fail
        refine (unhide P1 _ (unhide HA).st).mono ?_
        rintro r wb ⟨rfl, a2, k2⟩
        have HB := hide ((unhide HA).call a2 k2)
        clear P1 HA a2 k2 hc2
        have hc3 := tn_cell2 (unhide HL) (unhide HB).kp k h1
        obtain ⟨na, ncp, W5, hrun, h5⟩ := (unhide HB).push l[k] hyz (by omega) 39
        have hl5 := h5.row.form
        rw [hPl] at hl5
        obtain ⟨na', ncp', he5, hl51, hl52⟩ := hl5
        simp only [Value.slice.injEq] at he5
        obtain ⟨rfl, _, rfl⟩ := he5
        have LN := hide (cLen_any b _ W5 h5.st)
        have OW := hide (cOwed_any b _ W5 h5.st)
        dsimp only at LN OW
        rw [hPl] at LN
        have H5 := hide h5
        clear h5 HB
        generalize hQ : q ++ [l[k]] = Q at *
        clear hQ hyz
        generalize l[k] = y at *
        go_wp2_with (at_builtin; refine wpList_app_run rfl _ _ 39 rfl rfl rfl hrun ?_)
        clear hrun hc3
        go_wp2_with fail
        refine (unhide LN).mono ?_
        rintro r w7 ⟨rfl, rfl⟩
        go_wp2_with fail
        refine (unhide OW).mono ?_
        rintro r w7 ⟨rfl, rfl⟩
        clear LN OW
        go_wp2
        go_roundw
        case rel => first | exact ⟨k + 1, Q, by omega, by omega, by omega, by go_num, ⟨_, _, by rw [hPl], by omega, hl52⟩, H5⟩ | exact ⟨k + 1, Q, by omega, by omega, by omega, by go_num, ⟨_, _, by rw [hPl, hf], by omega, hl52⟩, (congrArg (fun z => Hid (Tn w _ b (.slice na z ncp) ⟨c, 0, Q⟩ Q)) hf).mp H5⟩
        case measure => simp [intOf]; omega
    · have hout : ¬ (k : Int) < (l.length : Int) ∨ ¬ (k : Int) < 100 := by omega
      have HF := hide ((unhide HR).kp.below (Nat.le_refl _) (by simp))
      clear HR HL HZ
      by_cases h5 : (k : Int) < (l.length : Int)
      · have h6 : ¬ (k : Int) < 100 := hout.resolve_left (fun h => h h5)
        clear hout
        go_wp2
        go_ret
        exact ⟨rfl, unhide HF⟩
      · clear hout
        go_wp2
        go_ret
        exact ⟨rfl, unhide HF⟩
end Go.Proofs.Ytcogcfnbgicjcaa
