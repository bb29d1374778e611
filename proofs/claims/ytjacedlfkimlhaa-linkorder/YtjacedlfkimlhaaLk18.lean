/-
  Rows of texts of which the first ones may have been taken off: appended to, read, one taken out.
  LinkComes: the walk.
-/
import Derived.Test.YtjacedlfkimlhaaLk11
import Derived.Laws.Append
import Derived.Test.YtjacedlfkimlhaaLk17
namespace Go.Proofs.Ytjacedlfkimlhaa
open Go.RowKit

/-- A row of texts that may begin anywhere in its block. -/
def TxQ (B : Nat) (w : World) (v : Value) (l : List ByteArray) : Prop :=
  (v = .slice none 0 0 ∧ l = []) ∨ ∃ g off cap cur, v = .slice (some ⟨g, off, none⟩) l.length cap ∧ B ≤ g ∧ w.heap[g]? = some (.cells cur 9 (0, 0)) ∧ l.length ≤ cap ∧ cap ≤ 9223372036854775807 ∧ off + cap ≤ cur.size ∧ (cur.toList.drop off).take l.length = l.map Value.string
theorem TxQ.of {B : Nat} {w : World} {v : Value} {l : List ByteArray} (h : TxO B w v l) : TxQ B w v l := by
  obtain ⟨_, ⟨rfl, h0⟩ | ⟨g, cap, cur, rfl, h1, h2, h3, h4, h5, h6⟩⟩ := h
  · exact Or.inl ⟨rfl, List.eq_nil_of_length_eq_zero h0⟩
  · unfold maxLen at h4
    exact Or.inr ⟨g, 0, cap, cur, rfl, h1, h2, h3, by omega, by omega, by simpa using h6⟩
theorem TxQ.kp {B : Nat} {w w' : World} {v : Value} {l : List ByteArray} {F : List Nat} (h : TxQ B w v l) (hk : Kp F w w') (hF : ∀ g, v.ownBlock = some g → g ∉ F) : TxQ B w' v l := by
  rcases h with h | ⟨g, off, cap, cur, rfl, h1, h2, h3⟩
  · exact Or.inl h
  · exact Or.inr ⟨g, off, cap, cur, rfl, h1, CBox.kp (show CBox g cur 9 w from h2) hk (hF g rfl), h3⟩
theorem TxQ.block {B : Nat} {w : World} {v : Value} {l : List ByteArray} (h : TxQ B w v l) {k : Nat} (hk : v.ownBlock = some k) : B ≤ k ∧ ∃ cur, w.heap[k]? = some (.cells cur 9 (0, 0)) := by
  rcases h with ⟨rfl, _⟩ | ⟨g, off, cap, cur, rfl, h1, h2, _⟩
  · cases hk
  · simp [Value.ownBlock] at hk
    subst hk
    exact ⟨h1, cur, h2⟩
theorem TxQ.form {B : Nat} {w : World} {v : Value} {l : List ByteArray} (h : TxQ B w v l) : ∃ ad cp, v = .slice ad l.length cp ∧ l.length ≤ cp ∧ cp ≤ 9223372036854775807 := by
  rcases h with ⟨rfl, rfl⟩ | ⟨g, off, cap, cur, rfl, h1, h2, h3, h4, _⟩
  · exact ⟨none, 0, rfl, Nat.le_refl _, by omega⟩
  · exact ⟨_, cap, rfl, h3, h4⟩
/-- Where it has texts: its address, and each text. -/
theorem TxQ.cells {B : Nat} {w : World} {v : Value} {l : List ByteArray} (h : TxQ B w v l) (hl : 0 < l.length) : ∃ g off cap, v = .slice (some ⟨g, off, none⟩) l.length cap ∧ B ≤ g ∧ g < w.heap.size ∧ l.length ≤ cap ∧ cap ≤ 9223372036854775807 ∧ ∀ i (hi : i < l.length), w.cell? ⟨g, off + i, none⟩ = some (.string l[i]) := by
  rcases h with ⟨_, rfl⟩ | ⟨g, off, cap, cur, rfl, h1, h2, h3, h4, h5, h6⟩
  · cases hl
  · refine ⟨g, off, cap, rfl, h1, (Array.getElem?_eq_some_iff.1 h2).1, h3, h4, fun i hi => ?_⟩
    have e1 : w.cell? ⟨g, off + i, none⟩ = cur[off + i]? := by simp [World.cell?, h2]
    have e2 : ((cur.toList.drop off).take l.length)[i]? = some (.string l[i]) := by
      rw [h6, List.getElem?_map, List.getElem?_eq_getElem hi]
      rfl
    rw [List.getElem?_take_of_lt hi, List.getElem?_drop, Array.getElem?_toList] at e2
    rw [e1, e2]
/-- The first text taken off. -/
theorem TxQ.tail {B : Nat} {w : World} {g off cap : Nat} {x : ByteArray} {l : List ByteArray} (h : TxQ B w (.slice (some ⟨g, off, none⟩) (l.length + 1) cap) (x :: l)) : TxQ B w (.slice (if cap = 1 then some ⟨g, off, none⟩ else some ⟨g, off + 1, none⟩) l.length (cap - 1)) l := by
  rcases h with ⟨e, _⟩ | ⟨g', off', cap', cur, e, h1, h2, h3, h4, h5, h6⟩
  · cases e
  · injection e with e1 e2 e3
    injection e1 with e1
    injection e1 with e1 e4
    subst e1 e3 e4
    rw [List.length_cons] at h3 h6
    by_cases hc : cap = 1
    · rw [if_pos hc]
      obtain rfl : l = [] := List.eq_nil_of_length_eq_zero (by omega)
      exact Or.inr ⟨g, off, cap - 1, cur, rfl, h1, h2, by simp, by omega, by omega, rfl⟩
    · rw [if_neg hc]
      refine Or.inr ⟨g, off + 1, cap - 1, cur, rfl, h1, h2, by omega, by omega, by omega, ?_⟩
      have e := congrArg (List.drop 1) h6
      rw [List.map_cons, List.drop_take, List.drop_drop, Nat.add_sub_cancel] at e
      rw [e]
      rfl
theorem heap_setRowT {w : World} {g : Nat} {cur cs : Array Value} {t : TypeId} (h : w.heap[g]? = some (.cells cur t (0, 0))) : (w.setRow g cs).heap[g]? = some (.cells cs t (0, 0)) := by
  unfold World.setRow
  simp [Array.getElem?_modify, h]
theorem Kp.setRowT (w : World) (g : Nat) (cs : Array Value) : Kp [g] w (w.setRow g cs) := by
  refine ⟨rfl, rfl, rfl, by simp [World.setRow], fun k hk hn => ?_⟩
  unfold World.setRow
  have hg : g ≠ k := fun e => hn (by simp [e])
  simp [Array.getElem?_modify, hg]
theorem strs_one (l : List ByteArray) : ∀ u ∈ l.map Value.string, u.oneCell' = true := fun u hu => by
  obtain ⟨x, _, rfl⟩ := List.mem_map.1 hu
  rfl
/-- Texts of another row are put at its end. -/
theorem TxQ.app {B : Nat} {w : World} {v x : Value} {l ys : List ByteArray} (h : TxQ B w v l) (hB : B ≤ w.heap.size) (hx : TxO 0 w x ys) (hl : l.length + ys.length ≤ 1000000) (ty : TypeId) :
    ∃ ad cap w', (Builtin.append_ #[39, 39] ty #[v, x]).run Try.prog w = .ok (.slice ad (l.length + ys.length) cap) w' ∧ TxQ B w' (.slice ad (l.length + ys.length) cap) (l ++ ys) ∧ Kp v.ownBlock.toList w w' ∧ ((Value.slice ad (l.length + ys.length) cap).ownBlock = v.ownBlock ∨ (Value.slice ad (l.length + ys.length) cap).ownBlock = some w.heap.size) := by
  obtain ⟨i0, hi, hz0, hz1, hz2⟩ := info_parts info_txt
  have hys : (ys.map Value.string).length = ys.length := List.length_map ..
  obtain ⟨_, ⟨rfl, h0⟩ | ⟨gx, cx, curx, rfl, _, _, hnx, hmx, _⟩⟩ := id hx
  · obtain rfl : ys = [] := List.eq_nil_of_length_eq_zero h0
    simp only [List.length_nil, Nat.add_zero, List.append_nil]
    rcases h with ⟨rfl, rfl⟩ | ⟨g, off, cap, cur, rfl, h1, h2, h3, h4, h5, h6⟩
    · refine ⟨none, 0, w, ?_, Or.inl ⟨rfl, rfl⟩, Kp.refl _ _, Or.inl rfl⟩
      simp [Builtin.append_, run_underlying Try.underlying39, sizeOf, typeInfo, hi, Builtin.lenOf, Builtin.firstCells]
    · refine ⟨_, cap, w, ?_, Or.inr ⟨g, off, cap, cur, rfl, h1, h2, h3, h4, h5, h6⟩, Kp.refl _ _, Or.inl rfl⟩
      simp [Builtin.append_, run_underlying Try.underlying39, sizeOf, typeInfo, hi, Builtin.lenOf, Builtin.firstCells, h3, storeCells]
  · have hnews : ∀ j u, (ys.map Value.string)[j]? = some u → w.cell? ((⟨gx, 0, none⟩ : Addr).add j) = some u := fun j u hj => World.ownsRow.cells hx (g := gx) rfl j u hj
    rcases h with ⟨rfl, rfl⟩ | ⟨g, off, cap, cur, rfl, h1, h2, h3, h4, h5, h6⟩
    · rcases Nat.eq_zero_or_pos ys.length with h0 | h0
      · obtain rfl : ys = [] := List.eq_nil_of_length_eq_zero h0
        refine ⟨none, 0, w, ?_, Or.inl ⟨rfl, rfl⟩, Kp.refl _ _, Or.inl rfl⟩
        simp [Builtin.append_, run_underlying Try.underlying39, sizeOf, typeInfo, hi, Builtin.lenOf, Builtin.firstCells, loadCells, loadCellsFrom]
      · have hr := run_append_nil (P := Try.prog) w 39 ty 9 i0 _ Try.underlying39 hi hz0 ⟨gx, 0, none⟩ ys.length cx (ys.map Value.string) (by rw [hys, hz1, Nat.mul_one]) hnews h0 (by omega) (by rw [hz2]; omega)
        refine ⟨some ⟨w.heap.size, 0, none⟩, grownCap w ys.length 0 9, _, by simpa using hr, ?_, ?_, Or.inr rfl⟩
        · have hgc := grownCap_ge w ys.length 0 9
          have hgm : grownCap w ys.length 0 9 ≤ 9223372036854775807 := by
            have := grownCap_le_maxLen w ys.length 0 9 (by unfold maxLen; omega)
            unfold maxLen at this
            omega
          refine Or.inr ⟨w.heap.size, 0, grownCap w ys.length 0 9, _, by simp, hB, heap_alloc_new w.drew _, ?_, hgm, ?_, ?_⟩
          · simpa using hgc
          · rw [Array.size_append, size_zeroCells]
            have e3 : (Value.string ⟨#[]⟩).cells.size = 1 := rfl
            rw [e3]
            simp only [List.size_toArray, hys]
            omega
          · rw [List.nil_append, List.drop_zero, Array.toList_append, ← hys, List.take_left']
            simp
        · exact (Kp.drew w).trans (Kp.alloc _ _) (by simp)
    · by_cases hroom : l.length + ys.length ≤ cap
      · have hcl : cur.toList.length = cur.size := by simp
        have h1c := strs_one ys
        have hfa : (l ++ ys).map Value.string = l.map Value.string ++ ys.map Value.string := List.map_append
        rw [← h6] at hfa
        generalize ys.map Value.string = NS at *
        have hf := run_firstCells_some (P := Try.prog) w i0.size ys.length ⟨gx, 0, none⟩ ys.length cx NS (by rw [hys, hz1, Nat.mul_one]) hnews
        have hst := run_storeCells_at Try.prog g (off + l.length) 9 NS 0 cur w h2 (by rw [hys]; omega) h1c
        simp only [Nat.add_zero] at hst
        rw [hz1] at hf
        refine ⟨some ⟨g, off, none⟩, cap, w.setRow g (cur.toList.take (off + l.length) ++ NS ++ cur.toList.drop (off + l.length + NS.length)).toArray, ?_, Or.inr ⟨g, off, cap, (cur.toList.take (off + l.length) ++ NS ++ cur.toList.drop (off + l.length + NS.length)).toArray, by rw [List.length_append], h1, heap_setRowT h2, by rw [List.length_append]; exact hroom, h4, ?_, ?_⟩, Kp.setRowT w g _, Or.inl rfl⟩
        · simp [Builtin.append_, run_underlying Try.underlying39, sizeOf, typeInfo, hi, Builtin.lenOf, hroom, hf, hz1, Go.WideShapes.add_plain, hst]
        · simp only [List.size_toArray, List.length_append, List.length_take, List.length_drop, hcl, hys]
          omega
        · rw [hfa]
          show ((cur.toList.take (off + l.length) ++ NS ++ cur.toList.drop (off + l.length + NS.length)).drop off).take ((l ++ ys).length) = _
          have e1 : (cur.toList.take (off + l.length) ++ NS ++ cur.toList.drop (off + l.length + NS.length)).drop off = ((cur.toList.drop off).take l.length ++ NS) ++ cur.toList.drop (off + l.length + NS.length) := by
            rw [List.append_assoc, List.drop_append_of_le_length (by rw [List.length_take, hcl]; omega), List.drop_take, Nat.add_sub_cancel_left, List.append_assoc]
          rw [e1]
          refine List.take_left' ?_
          rw [List.length_append, List.length_take, List.length_drop, hcl, hys, List.length_append]
          omega
      · have hol : (l.map Value.string).length = l.length := List.length_map ..
        have holds : ∀ j u, (l.map Value.string)[j]? = some u → w.cell? ((⟨g, off, none⟩ : Addr).add j) = some u := fun j u hj => by
          have hj3 : j < l.length := by rw [← hol]; exact (List.getElem?_eq_some_iff.1 hj).1
          rw [Go.WideShapes.add_plain]
          have e1 : w.cell? ⟨g, off + j, none⟩ = cur[off + j]? := by simp [World.cell?, h2]
          rw [← h6, List.getElem?_take_of_lt hj3, List.getElem?_drop, Array.getElem?_toList] at hj
          rw [e1, hj]
        have hr := run_append_grow (P := Try.prog) w 39 ty 9 i0 _ Try.underlying39 hi hz0 ⟨g, off, none⟩ l.length cap (l.map Value.string) (by rw [hol, hz1, Nat.mul_one]) holds ⟨gx, 0, none⟩ ys.length cx (ys.map Value.string) (by rw [hys, hz1, Nat.mul_one]) hnews (by omega) (by omega) (growslice_fits (by omega) (by rw [hz2]; omega))
        refine ⟨_, _, _, hr, ?_, ?_, Or.inr rfl⟩
        · refine Or.inr ⟨w.heap.size, 0, _, _, by rw [List.length_append], hB, heap_alloc_new w.drew _, ?_, ?_, ?_, ?_⟩
          · rw [List.length_append]
            exact grownCap_ge w _ _ _
          · have := grownCap_le_maxLen w (l.length + ys.length) cap 9 (by unfold maxLen; omega)
            unfold maxLen at this
            omega
          · have := grownCap_ge w (l.length + ys.length) cap 9
            rw [Array.size_append, Array.size_append, size_zeroCells]
            have e3 : (Value.string ⟨#[]⟩).cells.size = 1 := rfl
            rw [e3]
            simp only [List.size_toArray, hys, hol]
            omega
          · rw [List.drop_zero, Array.toList_append, Array.toList_append, List.map_append]
            refine List.take_left' ?_
            simp only [List.length_append, hys, hol]
        · exact ((Kp.drew w).trans (Kp.alloc _ _) (by simp)).mono (by simp)
/-- What is put together anew: the first texts, and those behind one that is left out. -/
theorem row_raiseT {B g cap : Nat} {W : World} {n : Nat} {l : List ByteArray} (h : TxO 0 W (.slice (some ⟨g, 0, none⟩) n cap) l) (hB : B ≤ g) : TxO B W (.slice (some ⟨g, 0, none⟩) n cap) l := by
  obtain ⟨h1, ⟨e1, _⟩ | ⟨g', cap', cur, e1, _, h4⟩⟩ := h
  · cases e1
  · cases e1
    exact ⟨h1, .inr ⟨g, cap, cur, rfl, hB, h4⟩⟩
theorem TxO.empty {B : Nat} (W : World) (hB : B ≤ W.heap.size) : TxO B (W.alloc (.cells #[] 9)) (.slice (some ⟨W.heap.size, 0, none⟩) 0 0) [] :=
  ⟨rfl, Or.inr ⟨W.heap.size, 0, #[], rfl, hB, heap_alloc_new W _, Nat.le_refl _, Nat.zero_le _, rfl, rfl⟩⟩
/-- Texts that lie anywhere are put at the end of a row of the call's own. -/
theorem TxO.appAny {B : Nat} {w : World} {g cap0 n : Nat} {l ys : List ByteArray} (h : TxO B w (.slice (some ⟨g, 0, none⟩) n cap0) l) (ad : Option Addr) (c : Nat) (hnone : ad = none → ys.length = 0 ∧ c = 0) (hsp : ∀ a, ad = some a → a.spot = none) (hc : ∀ a, ad = some a → ∀ j u, (ys.map Value.string)[j]? = some u → w.cell? (a.add j) = some u) (hn : n = l.length) (hB : B ≤ w.heap.size) (hl : l.length + ys.length ≤ 1000000) (ty : TypeId) :
    ∃ g' cap w', (Builtin.append_ #[39, 39] ty #[.slice (some ⟨g, 0, none⟩) n cap0, .slice ad ys.length c]).run Try.prog w = .ok (.slice (some ⟨g', 0, none⟩) (n + ys.length) cap) w' ∧ TxO B w' (.slice (some ⟨g', 0, none⟩) (n + ys.length) cap) (l ++ ys) ∧ Kp [g] w w' := by
  obtain ⟨i0, hi, hz0, hz1, hz2⟩ := info_parts info_txt
  subst hn
  have hgB : B ≤ g := (h.block (k := g) rfl).1
  obtain ⟨g', cap, w', hr, r1, r2, r3⟩ := run_app_any (P := Try.prog) (w := w) 39 ty 9 i0 (.string ⟨#[]⟩) 1 16 Try.underlying39 hi hz0 hz1 hz2 rfl (by decide) (h.lower (Nat.zero_le _)) ad ys.length c (ys.map Value.string) (by rw [List.length_map, Nat.mul_one]) hnone hsp hc (strs_one ys) (by unfold maxLen; omega) (by omega)
  refine ⟨g', cap, w', hr, row_raiseT ?_ (by rcases r3 with r3 | r3 <;> omega), Kp.of r2⟩
  unfold TxO
  rw [List.length_append, List.map_append]
  exact r1
end Go.Proofs.Ytjacedlfkimlhaa
namespace Go.Proofs.Ytjacedlfkimlhaa
open Go.RowKit Lk

/-- What a packet of a row reads as, wherever the links went on. -/
theorem row_get {B : Nat} {W : World} {v : Value} {L : List ByteArray} (h : TxO B W v L) {i : Nat} {d : ByteArray} (hd : L[i]? = some d) : ∃ g cap, v = .slice (some ⟨g, 0, none⟩) L.length cap ∧ W.cell? ⟨g, i, none⟩ = some (.string d) := by
  obtain ⟨hi, e⟩ := List.getElem?_eq_some_iff.1 hd
  obtain ⟨_, ⟨rfl, h0⟩ | ⟨g, cp, cur, rfl, _⟩⟩ := id h
  · omega
  · refine ⟨g, cp, rfl, ?_⟩
    rw [World.ownsRow.cellAt h i (by omega), List.getElem?_map, hd]
    rfl
theorem ceil_round {m W j : Nat} (hW : 1 ≤ W) : j < (m + W - 1) / W ↔ j * W < m := by
  rw [Nat.lt_iff_add_one_le, Nat.le_div_iff_mul_le (by omega), Nat.add_mul, Nat.one_mul]
  omega
set_option maxHeartbeats 8000000 in
set_option maxRecDepth 100000 in
theorem lcomes_walk (x0 x1 : Int) (ad : Option Addr) (cap : Nat) (l : List ByteArray) (w : World) (_hl : l.length ≤ 9223372036854775807) (hA : StrsAt w ad l) (hok : ∀ y ∈ l, y.size ≤ 9223372036854775807) :
    Calls Try.prog 5 #[.int .i64 x0, .int .i64 x1, .slice ad l.length cap] w fun e w' => e = .returned (.bool true) ∧ Below w.heap.size w w' := by
  have WK := hide (lworks_any w)
  have AM0 := hide (fun W => lAmong_any x0 20 W (by decide) (by decide))
  have AM1 := hide (fun W => lAmong_any x1 10 W (by decide) (by decide))
  obtain ⟨wn, hwn⟩ : ∃ wn : Nat, x0 % 20 = (wn : Int) := ⟨(x0 % 20).toNat, by have := Int.emod_nonneg x0 (show (20 : Int) ≠ 0 by decide); omega⟩
  obtain ⟨pn, hpn⟩ : ∃ pn : Nat, x1 % 10 = (pn : Int) := ⟨(x1 % 10).toNat, by have := Int.emod_nonneg x1 (show (10 : Int) ≠ 0 by decide); omega⟩
  have hwl : wn < 20 := by have := Int.emod_lt_of_pos x0 (show (0 : Int) < 20 by decide); omega
  have hpl : pn < 10 := by have := Int.emod_lt_of_pos x1 (show (0 : Int) < 10 by decide); omega
  rw [hwn] at AM0
  rw [hpn] at AM1
  have HL := hide hA
  have HOK := hide hok
  clear hA hok hwn hpn
  obtain ⟨WN, hWN⟩ : ∃ WN : Nat, WN = 1 + wn := ⟨_, rfl⟩
  obtain ⟨PN, hPN⟩ : ∃ PN : Nat, PN = 1 + pn := ⟨_, rfl⟩
  have hW0 : (1 : Int) + (wn : Int) = (WN : Int) := by omega
  have hP0 : (1 : Int) + (pn : Int) = (PN : Int) := by omega
  have NS := hide (fun W => newSender_ok 1 (WN : Int) (PN : Int) W (by unfold lepB lstB; simp; omega))
  have NR := hide (fun W => newReceiver_ok 1 (WN : Int) W (by unfold lepB lstB; simp; omega))
  have FR := hide (Fresh.start (W := WN) (P := PN) (by omega) (by omega) (by omega) (by omega))
  have RC0 : Hid (rc0 1 (WN : Int) = at_ 1 WN 0) := hide (by unfold rc0 at_; rw [Int.toNat_natCast])
  have hW1 : 1 ≤ WN ∧ WN ≤ 20 := by omega
  have hP1 : 1 ≤ PN ∧ PN ≤ 10 := by omega
  clear hWN hPN
  go_enter Try.func5, Try.ntmps5
  go_wp2_with fail
  refine (unhide WK).mono ?_
  rintro r w1 ⟨rfl, k1⟩
  have K1 := hide k1
  clear WK k1
  go_wp2_with fail
  refine (unhide AM0 _).mono ?_
  rintro r w1' ⟨rfl, rfl⟩
  go_wp2_with fail
  refine (unhide AM1 _).mono ?_
  rintro r w1' ⟨rfl, rfl⟩
  clear AM0 AM1
  go_wp2_with fail
  refine (unhide NS _).mono ?_
  rintro r w2 ⟨b, rfl, h2, k2⟩
  have HS : Hid (SdAt w.heap.size w2 b (sd0 1 (WN : Int) (PN : Int)) ∧ Ko lkO w.heap.size w w2) := hide (by
    have hz := (unhide K1).size
    obtain ⟨v, g1, g2, g3⟩ := h2
    exact ⟨⟨v, g1, by omega, fun k hk => by have := g3 k hk; omega⟩, (Ko.nil (unhide K1)).trans (Ko.nil k2)⟩)
  clear NS h2 k2 K1
  go_wp2_with fail
  refine (unhide NR _).mono ?_
  rintro r w3 ⟨c, rfl, h3, k3⟩
  have HS3 : Hid (SdAt w.heap.size w3 b (sd0 1 (WN : Int) (PN : Int)) ∧ RcAt w.heap.size w3 c (at_ 1 WN 0) ∧ Ko lkO w.heap.size w w3) := hide (by
    have hz := (unhide HS).2.size
    rw [unhide RC0] at h3
    obtain ⟨q, g1, g2, g3⟩ := h3
    exact ⟨(unhide HS).1.kp k3, ⟨q, g1, by omega, by omega⟩, (unhide HS).2.trans (Ko.nil k3)⟩)
  clear NR h3 k3 HS RC0
  go_wp2_with fail
  go_loopw [11, 12] (fun mv iv wr => ∃ (k : Nat) (s : Snd), k ≤ l.length ∧ k ≤ 100 ∧ mv = .int .i64 (k : Int) ∧ iv = .int .i64 (k : Int) ∧ Hid (Fresh s WN (PN : Int) k ∧ SdAt w.heap.size wr b s ∧ RcAt w.heap.size wr c (at_ 1 WN 0) ∧ Ko lkO w.heap.size w wr)) (fun _ iv _ => l.length - (intOf iv).toNat)
  case atStart => exact ⟨0, _, Nat.zero_le _, by decide, rfl, rfl, hide ⟨unhide FR, (unhide HS3).1, (unhide HS3).2.1, (unhide HS3).2.2⟩⟩
  case round =>
    clear HS3 FR
    obtain ⟨k, s, hkl, hk60, rfl, rfl, HR⟩ := hrel
    by_cases h1 : k < l.length ∧ k < 100
    · obtain ⟨h1, h2⟩ := h1
      have h1i : (k : Int) < (l.length : Int) := by omega
      have h2i : (k : Int) < 100 := by omega
      obtain ⟨lb, lo, rfl, hc⟩ := lstrs_cell (unhide HL) ((unhide HR).2.2.2.below (Nat.le_refl _)) k h1
      have hsz := unhide HOK l[k] (List.getElem_mem h1)
      by_cases h3 : 500 < (l[k]).size
      · have h3i : (500 : Int) < ((l[k]).size : Int) := by omega
        have HF := hide ((unhide HR).2.2.2.below (Nat.le_refl _))
        clear HR hsz h3
        generalize l[k] = y at *
        go_wp2
        go_ret
        exact ⟨rfl, unhide HF⟩
      · have h3i : ¬ (500 : Int) < ((l[k]).size : Int) := by omega
        obtain ⟨f1, f2⟩ := (unhide HR).1.push l[k] (by omega) (by omega)
        have PU := hide (lPush_any _ b s l[k] wr (unhide HR).2.1 (unhide HR).1.ok hsz)
        rw [f1] at PU
        have HF := hide f2
        have HK := hide (unhide HR).2.2
        clear HR f1 f2 h3
        generalize luS s l[k] = s2 at *
        generalize l[k] = y at *
        go_wp2_with fail
        refine (unhide PU).mono ?_
        rintro r w5 ⟨rfl, a1, a2⟩
        have HR2 := hide (And.intro (unhide HF) (And.intro a1 (And.intro ((unhide HK).1.ko a2 (Or.inr sdO_rc)) (ko_lk (unhide HK).2 a2 (Nat.le_refl _) sdO_lk))))
        clear a1 a2 PU HF HK hc
        go_wp2
        go_roundw
        case rel => exact ⟨k + 1, s2, by omega, by omega, by go_num, by go_num, HR2⟩
        case measure => simp [intOf]; omega
    · have HK := hide (unhide HR).2.2
      obtain ⟨d1, d2⟩ := (unhide HR).1.cm
      have DU := hide (lDue_any _ b s 0 wr (unhide HR).2.1 (unhide HR).1.ok)
      rw [d1] at DU
      have HC0 := hide d2
      clear HR d1 d2
      generalize ldS s 0 = s0 at *
      generalize ldO s 0 = L0 at *
      obtain ⟨R, hR⟩ : ∃ R, R = (k + WN - 1) / WN := ⟨_, rfl⟩
      have hWz : ((WN : Int) == 0) = false := beq_eq_false_iff_ne.2 (by omega)
      have hquo : ((k : Int) + (WN : Int) - 1).tdiv (WN : Int) = (R : Int) := by
        rw [hR, Int.tdiv_eq_ediv_of_nonneg (by omega), show (k : Int) + (WN : Int) - 1 = ((k + WN - 1 : Nat) : Int) by omega]
        exact Int.ofNat_ediv_ofNat
      have HCR : Hid (∀ j, j < R ↔ j * WN < k) := hide (fun j => by rw [hR]; exact ceil_round hW1.1)
      have hR100 : R ≤ 200 := by
        rw [hR]
        exact Nat.le_trans (Nat.div_le_self _ _) (by omega)
      clear hR
      have hout : ¬ (k : Int) < (l.length : Int) ∨ ¬ (k : Int) < 100 := by omega
      go_upto_region 10 with fail
      go_cut [63] (fun v wc => v = .bool false ∧ wc = wr)
      case first =>
        by_cases h5 : (k : Int) < (l.length : Int)
        · have h6 : ¬ (k : Int) < 100 := hout.resolve_left (fun h => h h5)
          clear hout
          go_wp2
          go_meet
          exact ⟨rfl, rfl⟩
        · clear hout
          go_wp2
          go_meet
          exact ⟨rfl, rfl⟩
      case rest =>
        obtain ⟨rfl, hw⟩ := hcut
        obtain rfl := hw.symm
        clear hout
        go_wp2_with fail
        refine (unhide DU).mono ?_
        rintro r w5 ⟨v, rfl, _, a1, a2⟩
        have HS5 := hide (And.intro a1 (And.intro ((unhide HK).1.ko a2 (Or.inr sdO_rc)) (ko_lk (unhide HK).2 a2 (Nat.le_refl _) sdO_lk)))
        clear a1 a2 DU HK
        go_wp2_with fail
        go_loopw [13, 14, 89] (fun nv tv jv wr2 => ∃ (j f : Nat) (s : Snd), j ≤ R ∧ nv = .int .i64 ((PN * j : Nat) : Int) ∧ tv = .int .i64 (f : Int) ∧ jv = .int .i64 (j : Int) ∧ f = min k (j * WN) ∧ Hid (Cm s WN PN k f j ∧ SdAt w.heap.size wr2 b s ∧ RcAt w.heap.size wr2 c (at_ 1 WN f) ∧ Ko lkO w.heap.size w wr2)) (fun _ _ jv _ => R - (intOf jv).toNat)
        case atStart => exact ⟨0, 0, s0, Nat.zero_le _, rfl, rfl, rfl, by simp, hide ⟨unhide HC0, (unhide HS5).1, (unhide HS5).2.1, (unhide HS5).2.2⟩⟩
        case round =>
          clear HS5 HC0
          obtain ⟨j, f, s, hjR, rfl, rfl, rfl, hf, HR⟩ := hrel
          have HFE := hide hf
          by_cases hj : j < R
          · have hji : (j : Int) < (R : Int) := by omega
            have hjk := (unhide HCR j).1 hj
            have hfk : f = j * WN := by omega
            have hpj : PN * j ≤ 10 * 200 := Nat.mul_le_mul hP1.2 (by omega)
            have hpm : PN * (j + 1) = PN * j + PN := by rw [Nat.mul_add, Nat.mul_one]
            obtain ⟨f1, f2, f3, f4⟩ := (unhide HR).1.due (by omega)
            have hmn : j * WN + WN = (j + 1) * WN := by rw [Nat.add_mul, Nat.one_mul]
            obtain ⟨cc, hcc⟩ : ∃ cc, cc = min WN (k - f) := ⟨_, rfl⟩
            have hc1 : 1 ≤ cc ∧ f + cc ≤ k := by omega
            have hfn : Hid (f + cc = min k ((j + 1) * WN)) := hide (by omega)
            rw [← hcc] at f2 f3
            rw [hpm] at f1 f2 f3 f4
            have hpn2 : ((PN * j : Nat) : Int) + (PN : Int) = ((PN * j + PN : Nat) : Int) := by omega
            have DU := hide (lDue_any _ b s ((PN * j + PN : Nat) : Int) wr (unhide HR).2.1 (unhide HR).1.ok)
            rw [f1] at DU
            have HF := hide (And.intro f3 f4)
            have HLN := hide f2
            have HK := hide (unhide HR).2.2
            have HPM := hide hpm
            have hT2b : PN * j + PN ≤ 4000 := by omega
            clear HR f1 f2 f3 f4 hpm hmn hcc hjk hfk hpj hf
            generalize ldS s ((PN * j + PN : Nat) : Int) = s2 at *
            generalize ldO s ((PN * j + PN : Nat) : Int) = L at *
            generalize hT2 : PN * j + PN = T2 at *
            have HT2 := hide hT2
            clear hT2
            generalize hT1 : PN * j = T1 at *
            have HT1 := hide hT1
            clear hT1
            go_wp2_with fail
            refine (unhide DU).mono ?_
            rintro r w6 ⟨v, rfl, tx, a1, a2⟩
            have HS6 := hide (And.intro a1 (And.intro ((unhide HK).1.ko a2 (Or.inr sdO_rc)) (And.intro (tx.lower (unhide HK).2.size) (ko_lk (unhide HK).2 a2 (Nat.le_refl _) sdO_lk))))
            obtain ⟨vad, vcp, rfl, _⟩ := tx.form
            clear a1 a2 DU HK tx
            go_wp2_with fail
            go_loopw [14, 17, 104] (fun tv av iv wr3 => ∃ (i : Nat) (ak : ByteArray), i ≤ cc ∧ tv = .int .i64 ((f + i : Nat) : Int) ∧ av = .string ak ∧ iv = .int .i64 (i : Int) ∧ (1 ≤ i → ak = ackB 1 ((f + i : Nat) : Int)) ∧ Hid (SdAt w.heap.size wr3 b s2 ∧ RcAt w.heap.size wr3 c (at_ 1 WN (f + i)) ∧ TxO w.heap.size wr3 (.slice vad L.length vcp) L ∧ Ko lkO w.heap.size w wr3)) (fun _ _ iv _ => cc - (intOf iv).toNat)
            case atStart => exact ⟨0, _, Nat.zero_le _, rfl, rfl, rfl, fun h => by omega, HS6⟩
            case round =>
              clear HS6
              obtain ⟨i, ak, hic, rfl, rfl, rfl, hak, HR⟩ := hrel
              have HAK := hide hak
              clear hak
              have hll := unhide HLN
              by_cases hi : i < cc
              · have hii : (i : Int) < (L.length : Int) := by omega
                obtain ⟨y, hy, hd⟩ := (unhide HF).1 i hi
                obtain ⟨g, cp, e, cg⟩ := row_get (unhide HR).2.2.1 hd
                have hfi : f + i ≤ 1073741824 := by omega
                obtain ⟨t1, t2, t3, t4⟩ := lt_next (ep := 1) (W := WN) (n := f + i) (b := y) (by decide) (by decide) hW1.1 hfi hy
                have TA := hide (lTake_any _ c (at_ 1 WN (f + i)) (dataB 1 ((f + i : Nat) : Int) y) wr (unhide HR).2.1 (at_ok (by decide) (by decide) hW1.1 (by omega) (by omega)) (by have := dataB_size (ep := 1) (n := ((f + i : Nat) : Int)) (b := y) (by decide) (by decide) (by omega) (by omega) (by omega); omega))
                rw [t1, t2, t3, t4] at TA
                injection e with e1 e2 e3
                subst e1 e3
                have HK := hide (And.intro (unhide HR).1 (And.intro (unhide HR).2.2.1 (unhide HR).2.2.2))
                have hnat : ((f + i : Nat) : Int) + 1 = ((f + i + 1 : Nat) : Int) := by omega
                clear t1 t2 t3 t4 HR hd hy hll HAK
                generalize dataB 1 ((f + i : Nat) : Int) y = d at *
                go_wp2_with fail
                refine (unhide TA).mono ?_
                rintro r w7 ⟨v7, rfl, tx, a1, a2⟩
                obtain ⟨vad7, vcp7, rfl, _⟩ := tx.form
                have HR2 : Hid (SdAt w.heap.size w7 b s2 ∧ RcAt w.heap.size w7 c (at_ 1 WN (f + (i + 1))) ∧ TxO w.heap.size w7 (.slice (some ⟨g, 0, none⟩) L.length vcp) L ∧ Ko lkO w.heap.size w w7) := hide ⟨(unhide HK).1.ko a2 (Or.inr rcO_sd), a1, (unhide HK).2.1.ko a2 (Or.inr rcO_lk), ko_lk (unhide HK).2.2 a2 (Nat.le_refl _) rcO_lk⟩
                clear a1 a2 TA HK tx
                go_wp2
                go_roundw
                case rel => exact ⟨i + 1, _, by omega, by go_num, rfl, by go_num, fun _ => rfl, HR2⟩
                case measure => simp [intOf]; omega
              · obtain rfl : i = cc := by omega
                have hii : ¬ (i : Int) < (L.length : Int) := by omega
                have hke := unhide HAK hc1.1
                have HF2 := hide (unhide HF).2
                subst hke
                obtain ⟨g1, g2⟩ := (unhide HF2).heard hc1.1 hc1.2 (by omega)
                have HE := hide (lHeard_any _ b s2 (ackB 1 ((f + i : Nat) : Int)) wr (unhide HR).1 (unhide HF2).ok (by have := ackB_size (ep := 1) (n := ((f + i : Nat) : Int)) (by decide) (by decide) (by omega) (by omega); omega))
                rw [g1] at HE
                have HG := hide g2
                have HK := hide (And.intro (unhide HR).2.1 (unhide HR).2.2.2)
                clear g1 g2 HR HF HF2 hll HAK
                generalize lhS s2 (ackB 1 ((f + i : Nat) : Int)) = s3 at *
                generalize ackB 1 ((f + i : Nat) : Int) = ak at *
                go_wp2_with fail
                refine (unhide HE).mono ?_
                rintro r w7 ⟨rfl, a1, a2⟩
                have HR2 := hide (And.intro (unhide HG) (And.intro a1 (And.intro ((unhide HK).1.ko a2 (Or.inr sdO_rc)) (ko_lk (unhide HK).2 a2 (Nat.le_refl _) sdO_lk))))
                have HT : Hid (T2 = PN * (j + 1)) := hide (unhide HPM).symm
                clear a1 a2 HE HG HK
                go_wp2
                go_roundw
                case rel => exact ⟨j + 1, f + i, s3, by omega, by rw [← unhide HT], rfl, by go_num, unhide hfn, HR2⟩
                case measure => simp [intOf]; omega
          · have hji : ¬ (j : Int) < (R : Int) := by omega
            have hjk := mt (unhide HCR j).2 hj
            have hfk : f = k := by omega
            subst hfk
            have HF := hide ((unhide HR).2.2.2.below (Nat.le_refl _))
            have LF := hide ((unhide HR).2.1.elim fun v h => lLeft_any b v s wr h.1)
            have hl0 : s.left.length = 0 := by have := (unhide HR).1.len; omega
            rw [hl0] at LF
            clear HR hf hl0 hjk
            go_wp2_with fail
            refine (unhide LF).mono ?_
            rintro r w7 ⟨rfl, rfl⟩
            clear LF
            go_wp2
            go_ret
            exact ⟨rfl, unhide HF⟩
end Go.Proofs.Ytjacedlfkimlhaa
