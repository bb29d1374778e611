/-
  Rows of texts of which the first ones may have been taken off: appended to, read, one taken out.
  A slice of structs that comes in as an argument: they lie where it says.
-/
import Derived.Test.YtiomngpfolkgpaaL14
import Derived.Laws.Append
import Derived.Test.YtiomngpfolkgpaaL07
import Derived.Test.YtiomngpfolkgpaaProg
import Derived.ProofKit
import Derived.OpenShut
import Derived.Deep.Slices
namespace Go.Proofs.Ytiomngpfolkgpaa
open Go.RowKit

/-- A row of texts that may begin anywhere in its block. -/
def TxQ (B : Nat) (w : World) (v : Value) (l : List ByteArray) : Prop :=
  (v = .slice none 0 0 ∧ l = []) ∨ ∃ g off cap cur, v = .slice (some ⟨g, off, none⟩) l.length cap ∧ B ≤ g ∧ w.heap[g]? = some (.cells cur 9 (0, 0)) ∧ l.length ≤ cap ∧ cap ≤ 9223372036854775807 ∧ off + cap ≤ cur.size ∧ (cur.toList.drop off).take l.length = l.map Value.string
theorem TxQ.of {B : Nat} {w : World} {v : Value} {l : List ByteArray} (h : TxO B w v l) : TxQ B w v l := by
  obtain ⟨_, ⟨rfl, h0⟩ | ⟨g, cap, cur, rfl, h1, h2, h3, h4, h5, h6⟩⟩ := h
  · exact Or.inl ⟨rfl, List.eq_nil_of_length_eq_zero h0⟩
  · unfold maxLen at h4
    exact Or.inr ⟨g, 0, cap, cur, rfl, h1, h2, h3, by omega, by omega, by simpa using h6⟩
theorem TxQ.kp {B : Nat} {w w' : World} {v : Value} {l : List ByteArray} {F : List Nat} (h : TxQ B w v l) (hk : Kp F w w') (hF : ∀ g, v.ownBlock = some g → g ∉ F) : TxQ B w' v l := by
  rcases h with h | ⟨g, off, cap, cur, rfl, h1, h2, h3⟩
  · exact Or.inl h
  · exact Or.inr ⟨g, off, cap, cur, rfl, h1, CBox.kp (show CBox g cur 9 w from h2) hk (hF g rfl), h3⟩
theorem TxQ.block {B : Nat} {w : World} {v : Value} {l : List ByteArray} (h : TxQ B w v l) {k : Nat} (hk : v.ownBlock = some k) : B ≤ k ∧ ∃ cur, w.heap[k]? = some (.cells cur 9 (0, 0)) := by
  rcases h with ⟨rfl, _⟩ | ⟨g, off, cap, cur, rfl, h1, h2, _⟩
  · cases hk
  · simp [Value.ownBlock] at hk
    subst hk
    exact ⟨h1, cur, h2⟩
theorem TxQ.form {B : Nat} {w : World} {v : Value} {l : List ByteArray} (h : TxQ B w v l) : ∃ ad cp, v = .slice ad l.length cp ∧ l.length ≤ cp ∧ cp ≤ 9223372036854775807 := by
  rcases h with ⟨rfl, rfl⟩ | ⟨g, off, cap, cur, rfl, h1, h2, h3, h4, _⟩
  · exact ⟨none, 0, rfl, Nat.le_refl _, by omega⟩
  · exact ⟨_, cap, rfl, h3, h4⟩
/-- Where it has texts: its address, and each text. -/
theorem TxQ.cells {B : Nat} {w : World} {v : Value} {l : List ByteArray} (h : TxQ B w v l) (hl : 0 < l.length) : ∃ g off cap, v = .slice (some ⟨g, off, none⟩) l.length cap ∧ B ≤ g ∧ g < w.heap.size ∧ l.length ≤ cap ∧ cap ≤ 9223372036854775807 ∧ ∀ i (hi : i < l.length), w.cell? ⟨g, off + i, none⟩ = some (.string l[i]) := by
  rcases h with ⟨_, rfl⟩ | ⟨g, off, cap, cur, rfl, h1, h2, h3, h4, h5, h6⟩
  · cases hl
  · refine ⟨g, off, cap, rfl, h1, (Array.getElem?_eq_some_iff.1 h2).1, h3, h4, fun i hi => ?_⟩
    have e1 : w.cell? ⟨g, off + i, none⟩ = cur[off + i]? := by simp [World.cell?, h2]
    have e2 : ((cur.toList.drop off).take l.length)[i]? = some (.string l[i]) := by
      rw [h6, List.getElem?_map, List.getElem?_eq_getElem hi]
      rfl
    rw [List.getElem?_take_of_lt hi, List.getElem?_drop, Array.getElem?_toList] at e2
    rw [e1, e2]
/-- The first text taken off. -/
theorem TxQ.tail {B : Nat} {w : World} {g off cap : Nat} {x : ByteArray} {l : List ByteArray} (h : TxQ B w (.slice (some ⟨g, off, none⟩) (l.length + 1) cap) (x :: l)) : TxQ B w (.slice (if cap = 1 then some ⟨g, off, none⟩ else some ⟨g, off + 1, none⟩) l.length (cap - 1)) l := by
  rcases h with ⟨e, _⟩ | ⟨g', off', cap', cur, e, h1, h2, h3, h4, h5, h6⟩
  · cases e
  · injection e with e1 e2 e3
    injection e1 with e1
    injection e1 with e1 e4
    subst e1 e3 e4
    rw [List.length_cons] at h3 h6
    by_cases hc : cap = 1
    · rw [if_pos hc]
      obtain rfl : l = [] := List.eq_nil_of_length_eq_zero (by omega)
      exact Or.inr ⟨g, off, cap - 1, cur, rfl, h1, h2, by simp, by omega, by omega, rfl⟩
    · rw [if_neg hc]
      refine Or.inr ⟨g, off + 1, cap - 1, cur, rfl, h1, h2, by omega, by omega, by omega, ?_⟩
      have e := congrArg (List.drop 1) h6
      rw [List.map_cons, List.drop_take, List.drop_drop, Nat.add_sub_cancel] at e
      rw [e]
      rfl
theorem heap_setRowT {w : World} {g : Nat} {cur cs : Array Value} {t : TypeId} (h : w.heap[g]? = some (.cells cur t (0, 0))) : (w.setRow g cs).heap[g]? = some (.cells cs t (0, 0)) := by
  unfold World.setRow
  simp [Array.getElem?_modify, h]
theorem Kp.setRowT (w : World) (g : Nat) (cs : Array Value) : Kp [g] w (w.setRow g cs) := by
  refine ⟨rfl, rfl, rfl, by simp [World.setRow], fun k hk hn => ?_⟩
  unfold World.setRow
  have hg : g ≠ k := fun e => hn (by simp [e])
  simp [Array.getElem?_modify, hg]
theorem strs_one (l : List ByteArray) : ∀ u ∈ l.map Value.string, u.oneCell' = true := fun u hu => by
  obtain ⟨x, _, rfl⟩ := List.mem_map.1 hu
  rfl
/-- Texts of another row are put at its end. -/
theorem TxQ.app {B : Nat} {w : World} {v x : Value} {l ys : List ByteArray} (h : TxQ B w v l) (hB : B ≤ w.heap.size) (hx : TxO 0 w x ys) (hl : l.length + ys.length ≤ 1000000) (ty : TypeId) :
    ∃ ad cap w', (Builtin.append_ #[39, 39] ty #[v, x]).run Try.prog w = .ok (.slice ad (l.length + ys.length) cap) w' ∧ TxQ B w' (.slice ad (l.length + ys.length) cap) (l ++ ys) ∧ Kp v.ownBlock.toList w w' ∧ ((Value.slice ad (l.length + ys.length) cap).ownBlock = v.ownBlock ∨ (Value.slice ad (l.length + ys.length) cap).ownBlock = some w.heap.size) := by
  obtain ⟨i0, hi, hz0, hz1, hz2⟩ := info_parts info_txt
  have hys : (ys.map Value.string).length = ys.length := List.length_map ..
  obtain ⟨_, ⟨rfl, h0⟩ | ⟨gx, cx, curx, rfl, _, _, hnx, hmx, _⟩⟩ := id hx
  · obtain rfl : ys = [] := List.eq_nil_of_length_eq_zero h0
    simp only [List.length_nil, Nat.add_zero, List.append_nil]
    rcases h with ⟨rfl, rfl⟩ | ⟨g, off, cap, cur, rfl, h1, h2, h3, h4, h5, h6⟩
    · refine ⟨none, 0, w, ?_, Or.inl ⟨rfl, rfl⟩, Kp.refl _ _, Or.inl rfl⟩
      simp [Builtin.append_, run_underlying Try.underlying39, sizeOf, typeInfo, hi, Builtin.lenOf, Builtin.firstCells]
    · refine ⟨_, cap, w, ?_, Or.inr ⟨g, off, cap, cur, rfl, h1, h2, h3, h4, h5, h6⟩, Kp.refl _ _, Or.inl rfl⟩
      simp [Builtin.append_, run_underlying Try.underlying39, sizeOf, typeInfo, hi, Builtin.lenOf, Builtin.firstCells, h3, storeCells]
  · have hnews : ∀ j u, (ys.map Value.string)[j]? = some u → w.cell? ((⟨gx, 0, none⟩ : Addr).add j) = some u := fun j u hj => World.ownsRow.cells hx (g := gx) rfl j u hj
    rcases h with ⟨rfl, rfl⟩ | ⟨g, off, cap, cur, rfl, h1, h2, h3, h4, h5, h6⟩
    · rcases Nat.eq_zero_or_pos ys.length with h0 | h0
      · obtain rfl : ys = [] := List.eq_nil_of_length_eq_zero h0
        refine ⟨none, 0, w, ?_, Or.inl ⟨rfl, rfl⟩, Kp.refl _ _, Or.inl rfl⟩
        simp [Builtin.append_, run_underlying Try.underlying39, sizeOf, typeInfo, hi, Builtin.lenOf, Builtin.firstCells, loadCells, loadCellsFrom]
      · have hr := run_append_nil (P := Try.prog) w 39 ty 9 i0 _ Try.underlying39 hi hz0 ⟨gx, 0, none⟩ ys.length cx (ys.map Value.string) (by rw [hys, hz1, Nat.mul_one]) hnews h0 (by omega) (by rw [hz2]; omega)
        refine ⟨some ⟨w.heap.size, 0, none⟩, grownCap w ys.length 0 9, _, by simpa using hr, ?_, ?_, Or.inr rfl⟩
        · have hgc := grownCap_ge w ys.length 0 9
          have hgm : grownCap w ys.length 0 9 ≤ 9223372036854775807 := by
            have := grownCap_le_maxLen w ys.length 0 9 (by unfold maxLen; omega)
            unfold maxLen at this
            omega
          refine Or.inr ⟨w.heap.size, 0, grownCap w ys.length 0 9, _, by simp, hB, heap_alloc_new w.drew _, ?_, hgm, ?_, ?_⟩
          · simpa using hgc
          · rw [Array.size_append, size_zeroCells]
            have e3 : (Value.string ⟨#[]⟩).cells.size = 1 := rfl
            rw [e3]
            simp only [List.size_toArray, hys]
            omega
          · rw [List.nil_append, List.drop_zero, Array.toList_append, ← hys, List.take_left']
            simp
        · exact (Kp.drew w).trans (Kp.alloc _ _) (by simp)
    · by_cases hroom : l.length + ys.length ≤ cap
      · have hcl : cur.toList.length = cur.size := by simp
        have h1c := strs_one ys
        have hfa : (l ++ ys).map Value.string = l.map Value.string ++ ys.map Value.string := List.map_append
        rw [← h6] at hfa
        generalize ys.map Value.string = NS at *
        have hf := run_firstCells_some (P := Try.prog) w i0.size ys.length ⟨gx, 0, none⟩ ys.length cx NS (by rw [hys, hz1, Nat.mul_one]) hnews
        have hst := run_storeCells_at Try.prog g (off + l.length) 9 NS 0 cur w h2 (by rw [hys]; omega) h1c
        simp only [Nat.add_zero] at hst
        rw [hz1] at hf
        refine ⟨some ⟨g, off, none⟩, cap, w.setRow g (cur.toList.take (off + l.length) ++ NS ++ cur.toList.drop (off + l.length + NS.length)).toArray, ?_, Or.inr ⟨g, off, cap, (cur.toList.take (off + l.length) ++ NS ++ cur.toList.drop (off + l.length + NS.length)).toArray, by rw [List.length_append], h1, heap_setRowT h2, by rw [List.length_append]; exact hroom, h4, ?_, ?_⟩, Kp.setRowT w g _, Or.inl rfl⟩
        · simp [Builtin.append_, run_underlying Try.underlying39, sizeOf, typeInfo, hi, Builtin.lenOf, hroom, hf, hz1, Go.WideShapes.add_plain, hst]
        · simp only [List.size_toArray, List.length_append, List.length_take, List.length_drop, hcl, hys]
          omega
        · rw [hfa]
          show ((cur.toList.take (off + l.length) ++ NS ++ cur.toList.drop (off + l.length + NS.length)).drop off).take ((l ++ ys).length) = _
          have e1 : (cur.toList.take (off + l.length) ++ NS ++ cur.toList.drop (off + l.length + NS.length)).drop off = ((cur.toList.drop off).take l.length ++ NS) ++ cur.toList.drop (off + l.length + NS.length) := by
            rw [List.append_assoc, List.drop_append_of_le_length (by rw [List.length_take, hcl]; omega), List.drop_take, Nat.add_sub_cancel_left, List.append_assoc]
          rw [e1]
          refine List.take_left' ?_
          rw [List.length_append, List.length_take, List.length_drop, hcl, hys, List.length_append]
          omega
      · have hol : (l.map Value.string).length = l.length := List.length_map ..
        have holds : ∀ j u, (l.map Value.string)[j]? = some u → w.cell? ((⟨g, off, none⟩ : Addr).add j) = some u := fun j u hj => by
          have hj3 : j < l.length := by rw [← hol]; exact (List.getElem?_eq_some_iff.1 hj).1
          rw [Go.WideShapes.add_plain]
          have e1 : w.cell? ⟨g, off + j, none⟩ = cur[off + j]? := by simp [World.cell?, h2]
          rw [← h6, List.getElem?_take_of_lt hj3, List.getElem?_drop, Array.getElem?_toList] at hj
          rw [e1, hj]
        have hr := run_append_grow (P := Try.prog) w 39 ty 9 i0 _ Try.underlying39 hi hz0 ⟨g, off, none⟩ l.length cap (l.map Value.string) (by rw [hol, hz1, Nat.mul_one]) holds ⟨gx, 0, none⟩ ys.length cx (ys.map Value.string) (by rw [hys, hz1, Nat.mul_one]) hnews (by omega) (by omega) (growslice_fits (by omega) (by rw [hz2]; omega))
        refine ⟨_, _, _, hr, ?_, ?_, Or.inr rfl⟩
        · refine Or.inr ⟨w.heap.size, 0, _, _, by rw [List.length_append], hB, heap_alloc_new w.drew _, ?_, ?_, ?_, ?_⟩
          · rw [List.length_append]
            exact grownCap_ge w _ _ _
          · have := grownCap_le_maxLen w (l.length + ys.length) cap 9 (by unfold maxLen; omega)
            unfold maxLen at this
            omega
          · have := grownCap_ge w (l.length + ys.length) cap 9
            rw [Array.size_append, Array.size_append, size_zeroCells]
            have e3 : (Value.string ⟨#[]⟩).cells.size = 1 := rfl
            rw [e3]
            simp only [List.size_toArray, hys, hol]
            omega
          · rw [List.drop_zero, Array.toList_append, Array.toList_append, List.map_append]
            refine List.take_left' ?_
            simp only [List.length_append, hys, hol]
        · exact ((Kp.drew w).trans (Kp.alloc _ _) (by simp)).mono (by simp)
/-- What is put together anew: the first texts, and those behind one that is left out. -/
theorem row_raiseT {B g cap : Nat} {W : World} {n : Nat} {l : List ByteArray} (h : TxO 0 W (.slice (some ⟨g, 0, none⟩) n cap) l) (hB : B ≤ g) : TxO B W (.slice (some ⟨g, 0, none⟩) n cap) l := by
  obtain ⟨h1, ⟨e1, _⟩ | ⟨g', cap', cur, e1, _, h4⟩⟩ := h
  · cases e1
  · cases e1
    exact ⟨h1, .inr ⟨g, cap, cur, rfl, hB, h4⟩⟩
theorem TxO.empty {B : Nat} (W : World) (hB : B ≤ W.heap.size) : TxO B (W.alloc (.cells #[] 9)) (.slice (some ⟨W.heap.size, 0, none⟩) 0 0) [] :=
  ⟨rfl, Or.inr ⟨W.heap.size, 0, #[], rfl, hB, heap_alloc_new W _, Nat.le_refl _, Nat.zero_le _, rfl, rfl⟩⟩
/-- Texts that lie anywhere are put at the end of a row of the call's own. -/
theorem TxO.appAny {B : Nat} {w : World} {g cap0 n : Nat} {l ys : List ByteArray} (h : TxO B w (.slice (some ⟨g, 0, none⟩) n cap0) l) (ad : Option Addr) (c : Nat) (hnone : ad = none → ys.length = 0 ∧ c = 0) (hsp : ∀ a, ad = some a → a.spot = none) (hc : ∀ a, ad = some a → ∀ j u, (ys.map Value.string)[j]? = some u → w.cell? (a.add j) = some u) (hn : n = l.length) (hB : B ≤ w.heap.size) (hl : l.length + ys.length ≤ 1000000) (ty : TypeId) :
    ∃ g' cap w', (Builtin.append_ #[39, 39] ty #[.slice (some ⟨g, 0, none⟩) n cap0, .slice ad ys.length c]).run Try.prog w = .ok (.slice (some ⟨g', 0, none⟩) (n + ys.length) cap) w' ∧ TxO B w' (.slice (some ⟨g', 0, none⟩) (n + ys.length) cap) (l ++ ys) ∧ Kp [g] w w' := by
  obtain ⟨i0, hi, hz0, hz1, hz2⟩ := info_parts info_txt
  subst hn
  have hgB : B ≤ g := (h.block (k := g) rfl).1
  obtain ⟨g', cap, w', hr, r1, r2, r3⟩ := run_app_any (P := Try.prog) (w := w) 39 ty 9 i0 (.string ⟨#[]⟩) 1 16 Try.underlying39 hi hz0 hz1 hz2 rfl (by decide) (h.lower (Nat.zero_le _)) ad ys.length c (ys.map Value.string) (by rw [List.length_map, Nat.mul_one]) hnone hsp hc (strs_one ys) (by unfold maxLen; omega) (by omega)
  refine ⟨g', cap, w', hr, row_raiseT ?_ (by rcases r3 with r3 | r3 <;> omega), Kp.of r2⟩
  unfold TxO
  rw [List.length_append, List.map_append]
  exact r1
end Go.Proofs.Ytiomngpfolkgpaa
namespace Go.Proofs.Ytiomngpfolkgpaa
open Go.RowKit Go.Deep

/-- One of them. -/
structure A19 where
  k : Int
  n : Int
  t : ByteArray
  own : Bool
def A19.ok (a : A19) : Prop := (-9223372036854775808 ≤ a.k ∧ a.k ≤ 9223372036854775807) ∧ (-9223372036854775808 ≤ a.n ∧ a.n ≤ 9223372036854775807) ∧ a.t.size ≤ 9223372036854775807 ∧ True
def A19At (w : World) (ad : Option Addr) (l : List A19) : Prop :=
  l ≠ [] → ∃ b off, ad = some ⟨b, off, none⟩ ∧ b < w.heap.size ∧ ∀ i (h : i < l.length), w.cell? ⟨b, off + i * 4, none⟩ = some (.int .i64 l[i].k) ∧ w.cell? ⟨b, off + i * 4 + 1, none⟩ = some (.int .i64 l[i].n) ∧ w.cell? ⟨b, off + i * 4 + 2, none⟩ = some (.string l[i].t) ∧ w.cell? ⟨b, off + i * 4 + 3, none⟩ = some (.bool l[i].own)
theorem A19At.kp {w w' : World} {ad : Option Addr} {l : List A19} (h : A19At w ad l) (hk : Kp [] w w') : A19At w' ad l := fun hl => by
  obtain ⟨b, off, e, hlt, hc⟩ := h hl
  refine ⟨b, off, e, Nat.lt_of_lt_of_le hlt hk.size, fun i hi => ?_⟩
  obtain ⟨c0, c1, c2, c3⟩ := hc i hi
  exact ⟨hk.cell c0 (by simp), hk.cell c1 (by simp), hk.cell c2 (by simp), hk.cell c3 (by simp)⟩
theorem A19At.at {w : World} {ad : Option Addr} {l : List A19} (h : A19At w ad l) (i : Nat) (hi : i < l.length) : ∃ b off, ad = some ⟨b, off, none⟩ ∧ b < w.heap.size ∧ w.cell? ⟨b, off + i * 4, none⟩ = some (.int .i64 l[i].k) ∧ w.cell? ⟨b, off + i * 4 + 1, none⟩ = some (.int .i64 l[i].n) ∧ w.cell? ⟨b, off + i * 4 + 2, none⟩ = some (.string l[i].t) ∧ w.cell? ⟨b, off + i * 4 + 3, none⟩ = some (.bool l[i].own) := by
  obtain ⟨b, off, e, hlt, hc⟩ := h (by intro e; subst e; simp at hi)
  exact ⟨b, off, e, hlt, hc i hi⟩
theorem open_ac19_cells : Try.prog.cellsOf 41 = 4 := by kernel_rfl
theorem open_ac19_cells_int : Try.prog.cellsOf 3 = 1 := by kernel_rfl
theorem open_ac19_cells_string : Try.prog.cellsOf 9 = 1 := by kernel_rfl
theorem open_ac19_cells_bool : Try.prog.cellsOf 4 = 1 := by kernel_rfl
theorem open_ac19_fields : ∃ f0 f1 f2 f3 : Field, Try.prog.underlying 41 = some (.struct #[f0, f1, f2, f3]) ∧ f0.type = 3 ∧ f1.type = 3 ∧ f2.type = 9 ∧ f3.type = 4 ∧ f0.offset = 0 ∧ f1.offset = 1 ∧ f2.offset = 2 ∧ f3.offset = 3 :=
  ⟨_, _, _, _, Try.underlying41, rfl, rfl, rfl, rfl, rfl, rfl, rfl, rfl⟩
theorem open_ac19_list {α : Type} : ∀ (l : List α), l.length = 4 → ∃ x0 x1 x2 x3, l = [x0, x1, x2, x3]
  | [x0, x1, x2, x3], _ => ⟨x0, x1, x2, x3, rfl⟩
set_option maxRecDepth 100000 in
theorem open_ac19 {H : Type} {enc : TypeId × Value → H} {W : World} {spare : Nat → Bool} {held : Bool} {fuel : Nat} {v : Value} {x : DataW H × List MemPlace}
    (h : DataW.trod enc Try.prog W 0 spare held fuel 24 [v] = some x) :
    ∃ (ad : Option Addr) (cap : Nat) (l : List A19), v = .slice ad l.length cap ∧ l.length ≤ 9223372036854775807 ∧ A19At W ad l ∧ ∀ y ∈ l, y.ok := by
  obtain ⟨f0, f1, f2, f3, hu, t0, t1, t2, t3, o0, o1, o2, o3⟩ := open_ac19_fields
  rcases open_slice Try.underlying24 h with ⟨hcs, _⟩ | ⟨a, len, cap, m, n, D, Pl, hcs, hb, hl, hm, hmm, _, hx⟩
  · simp only [List.cons.injEq, and_true] at hcs
    subst hcs
    exact ⟨none, 0, [], rfl, by simp, fun hne => absurd rfl hne, by simp⟩
  · simp only [List.cons.injEq, and_true] at hcs
    subst hcs
    have hlm : len ≤ m := by rw [hmm]; split <;> omega
    have each : ∀ i, i < len → ∃ y : A19, W.cell? (a.add (i * 4)) = some (.int .i64 y.k) ∧ W.cell? (a.add (i * 4 + 1)) = some (.int .i64 y.n) ∧ W.cell? (a.add (i * 4 + 2)) = some (.string y.t) ∧ W.cell? (a.add (i * 4 + 3)) = some (.bool y.own) ∧ y.ok := by
      intro i hi
      obtain ⟨cs', h1, h2⟩ := hx i (by omega)
      rw [open_ac19_cells] at h1
      obtain ⟨_, hlen, hcell⟩ := World.cells?_some h1
      obtain ⟨xs, k, hk, hxy, _, hxl, hf⟩ := DataW.trod_struct hu h2
      obtain ⟨y0, y1, y2, y3, rfl⟩ := open_ac19_list xs hxl
      obtain ⟨v0, v1, v2, v3, rfl⟩ := open_ac19_list cs' hlen
      have g0 := hf 0 f0 rfl
      have g1 := hf 1 f1 rfl
      have g2 := hf 2 f2 rfl
      have g3 := hf 3 f3 rfl
      simp [o0, o1, o2, o3, t0, t1, t2, t3, open_ac19_cells_int, open_ac19_cells_string, open_ac19_cells_bool] at g0 g1 g2 g3
      have e0 := hcell 0 (by omega)
      have e1 := hcell 1 (by omega)
      have e2 := hcell 2 (by omega)
      have e3 := hcell 3 (by omega)
      rw [Go.Deep.add_add] at e0 e1 e2 e3
      obtain ⟨k0, q0, _, wf0⟩ := DataW.trod_int Try.underlying3 g0
      obtain ⟨k1, q1, _, wf1⟩ := DataW.trod_int Try.underlying3 g1
      obtain ⟨k2, q2, _, wf2⟩ := DataW.trod_string Try.underlying9 g2
      obtain ⟨k3, q3, _⟩ := DataW.trod_bool Try.underlying4 g3
      simp only [List.cons.injEq, and_true] at q0 q1 q2 q3
      subst q0 q1 q2 q3
      have b0 := bounds_i64 wf0
      have b1 := bounds_i64 wf1
      unfold maxLen at wf2
      exact ⟨⟨k0, k1, k2, k3⟩, by simpa using e0, by simpa using e1, by simpa using e2, by simpa using e3, ⟨b0.1, by show k0 ≤ _; omega⟩, ⟨b1.1, by show k1 ≤ _; omega⟩, by show k2.size ≤ _; omega, trivial⟩
    have hinh : Inhabited A19 := ⟨⟨0, 0, ⟨#[]⟩, true⟩⟩
    obtain ⟨q, hq⟩ := choose_lt each
    refine ⟨some a, cap, (List.range len).map q, by simp, by simp; unfold maxLen at hm; omega, fun hne => ?_, fun y hy => ?_⟩
    · have h0 : 0 < len := by
        rcases Nat.eq_zero_or_pos len with e | e
        · subst e; simp at hne
        · exact e
      obtain ⟨b, off, spot⟩ := a
      have hc0 := (hq 0 h0).1
      have hspot : spot = none := by simpa [Addr.add] using World.cell?_spot hc0
      subst hspot
      refine ⟨b, off, rfl, ?_, fun i hi => ?_⟩
      · rcases Nat.lt_or_ge b W.heap.size with hlt | hge
        · exact hlt
        · exfalso
          rw [Go.WideShapes.add_plain] at hc0
          simp [World.cell?, Array.getElem?_eq_none hge] at hc0
      · have hi' : i < len := by simpa using hi
        obtain ⟨c0, c1, c2, c3, _⟩ := hq i hi'
        rw [Go.WideShapes.add_plain] at c0 c1 c2 c3
        simp only [List.getElem_map, List.getElem_range]
        exact ⟨c0, by rw [Nat.add_assoc]; exact c1, by rw [Nat.add_assoc]; exact c2, by rw [Nat.add_assoc]; exact c3⟩
    · obtain ⟨i, hi, rfl⟩ := List.mem_map.1 hy
      exact (hq i (List.mem_range.1 hi)).2.2.2.2
end Go.Proofs.Ytiomngpfolkgpaa
