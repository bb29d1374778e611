/-
  Links: slices.Delete of a row's first texts.
  A slice of strings that comes in as an argument: its strings lie where it says.
  Rows of texts of the call's own: one more text put behind; what stays; where they lie.
-/
import Derived.Test.YtiomngpfolkgpaaL13
import Derived.Deep.RegionLaw
import Derived.Test.YtiomngpfolkgpaaL07
import Derived.Test.YtiomngpfolkgpaaProg
import Derived.ProofKit
import Derived.OpenShut
import Derived.SliceStrings
import Derived.Test.YtiomngpfolkgpaaChecked
namespace Go.Proofs.Ytiomngpfolkgpaa
open Go.RowKit Lk

/-- The cells of n texts that are none. -/
def puZ (n : Nat) : List Value := (Builtin.zeroCells (Value.agg #[.string ⟨#[]⟩, .int .i64 0]).cells n).toList
theorem puZ_len (n : Nat) : (puZ n).length = n * 2 := by
  unfold puZ Builtin.zeroCells
  rw [Array.length_toList, Array.size_map, Array.size_range]
  rfl
theorem puZ_one (n : Nat) : ∀ v ∈ puZ n, v.oneCell' = true := fun v hv => by
  unfold puZ Builtin.zeroCells at hv
  rw [Array.toList_map, List.mem_map] at hv
  obtain ⟨i, _, rfl⟩ := hv
  have e : (Value.agg #[.string ⟨#[]⟩, .int .i64 0]).cells = #[.string ⟨#[]⟩, .int .i64 0] := rfl
  rw [e]
  have : i % (#[Value.string ⟨#[]⟩, .int .i64 0] : Array Value).size < 2 := Nat.mod_lt _ (by decide)
  generalize i % (#[Value.string ⟨#[]⟩, .int .i64 0] : Array Value).size = j at *
  match j, this with
  | 0, _ => rfl
  | 1, _ => rfl
theorem run_clear_pu (w : World) (ty : TypeId) (g o n c : Nat) (hn : 0 < n) (hc : ∀ j, j < n * 2 → (w.cell? ⟨g, o + j, none⟩).isSome = true) (hf : ∀ j, j < n * 2 → w.frozen? ⟨g, o + j, none⟩ = false) :
    (Builtin.clear_ #[58] ty #[.slice (some ⟨g, o, none⟩) n c]).run Try.prog w = .ok (.tuple #[]) (w.setCells g o (puZ n)) := by
  have hst := run_storeCells_cells (P := Try.prog) g o (puZ n) 0 w (by rw [puZ_len]; simpa using hc) (by rw [puZ_len]; simpa using hf) (puZ_one n)
  simp only [Nat.add_zero] at hst
  have hv : ∀ w, (zeroValue 66).run Try.prog w = .ok (.agg #[.string ⟨#[]⟩, .int .i64 0]) w := Try.zeroValue66
  obtain ⟨m, rfl⟩ : ∃ m, n = m + 1 := ⟨n - 1, by omega⟩
  unfold puZ at *
  simp [Builtin.clear_, run_underlying Try.underlying58, hv, hst]
/-- The world behind the first k taken out of a row: those behind them k up, the last ones none. -/
def cutW (w : World) (g k n : Nat) (mid : List Value) : World := (w.setCells g 0 mid).setCells g ((n - k) * 2) (puZ k)
theorem cutW_row {w : World} {g cap : Nat} {l : List Pu} (k : Nat) (h : PuRow w (.slice (some ⟨g, 0, none⟩) l.length cap) l) (hk : k ≤ l.length) :
    PuRow (cutW w g k l.length (pshC (l.drop k))) (.slice (some ⟨g, 0, none⟩) (l.length - k) cap) (l.drop k) ∧ Kp [g] w (cutW w g k l.length (pshC (l.drop k))) := by
  obtain ⟨_, hl, hm, rest, hr, hb⟩ := h.box
  have hdl : (pshC (l.drop k)).length = (l.length - k) * 2 := by rw [pshC_len, List.length_drop]
  have hll : (pshC l).length = l.length * 2 := pshC_len l
  have e1 : pshC l ++ rest = [] ++ (pshC l).take ((l.length - k) * 2) ++ ((pshC l).drop ((l.length - k) * 2) ++ rest) := by
    rw [List.nil_append, ← List.append_assoc, List.take_append_drop]
  rw [e1] at hb
  have h1 := CBox.put (pshC (l.drop k)) _ _ _ w (by rw [List.length_take, hll, hdl]; omega) hb
  rw [List.nil_append] at h1
  have h2 := CBox.put (puZ k) ((pshC l).drop ((l.length - k) * 2)) (pshC (l.drop k)) rest _ (by rw [List.length_drop, hll, puZ_len]; omega) (by rw [List.append_assoc]; exact h1)
  rw [hdl] at h2
  refine ⟨?_, (Kp.sets g _ _ w).trans (Kp.sets g _ _ _) (fun _ hx => Or.inl hx)⟩
  have := PuRow.ofBox (w := cutW w g k l.length (pshC (l.drop k))) (g := g) (cap := cap) (l := l.drop k) (rest := puZ k ++ rest) (by rw [← List.append_assoc]; exact h2) (by rw [List.length_drop]; omega) hm (by rw [List.length_append, puZ_len, hr, List.length_drop]; omega)
  rw [List.length_drop] at this
  exact this
set_option maxHeartbeats 4000000 in
set_option maxRecDepth 1000000 in
theorem pucut_any (g cap : Nat) (l : List Pu) (k : Nat) (w : World) (h : PuRow w (.slice (some ⟨g, 0, none⟩) l.length cap) l) (hk : k ≤ l.length) (hk0 : 0 < k) :
    Calls Try.prog 28 #[.slice (some ⟨g, 0, none⟩) l.length cap, .int .i64 0, .int .i64 (k : Int)] w fun e w' => e = .returned (.slice (some ⟨g, 0, none⟩) (l.length - k) cap) ∧ PuRow w' (.slice (some ⟨g, 0, none⟩) (l.length - k) cap) (l.drop k) ∧ Kp [g] w w' := by
  obtain ⟨i0, hi0, hz0, hz1, hz2⟩ := info_parts info_pu
  obtain ⟨_, hl, hm, rest, hr, hb⟩ := h.box
  obtain ⟨V, hV⟩ : ∃ V, V = w.drew := ⟨_, rfl⟩
  have hkV : Kp [] w V := by rw [hV]; exact Kp.drew w
  have hV' := h.kp hkV (by simp)
  have hbV := hb.kp hkV (by simp)
  obtain ⟨h1, h2⟩ := cutW_row k hV' hk
  have hsome : ∀ W, CBox g (pshC l ++ rest).toArray 66 W → ∀ j, j < cap * 2 → (W.cell? ⟨g, j, none⟩).isSome = true := fun W hW j hj => by
    have hlt : j < (pshC l ++ rest).toArray.size := by rw [List.size_toArray, List.length_append, pshC_len, hr]; omega
    rw [hW.cell (Array.getElem?_eq_getElem hlt)]
    rfl
  have HSRC : Hid (∀ j u, (pshC (l.drop k))[j]? = some u → V.cell? ⟨g, k * 2 + j, none⟩ = some u) := hide (fun j u hj => by
    refine hbV.cell ?_
    have e : pshC l = pshC (l.take k) ++ pshC (l.drop k) := by rw [← pshC_append, List.take_append_drop]
    have hA : (pshC (l.take k)).length = k * 2 := by rw [pshC_len, List.length_take]; congr 1; omega
    rw [e, List.getElem?_toArray, List.append_assoc, List.getElem?_append_right (by omega), hA, Nat.add_sub_cancel_left, List.getElem?_append_left ((List.getElem?_eq_some_iff.1 hj).1)]
    exact hj)
  have HLEN : Hid ((pshC (l.drop k)).length = (l.length - k) * 2) := hide (by rw [pshC_len, List.length_drop])
  have HONE : Hid (∀ u ∈ pshC (l.drop k), u.oneCell' = true) := hide (pshC_cell _)
  have HSP : Hid (∀ j, j < (pshC (l.drop k)).length → (V.cell? ⟨g, 0 + 0 * 2 + j, none⟩).isSome = true ∧ V.frozen? ⟨g, 0 + 0 * 2 + j, none⟩ = false) := hide (fun j hj => ⟨hsome V hbV _ (by rw [unhide HLEN] at hj; omega), hbV.froz _⟩)
  have HCL : Hid (∀ ty, (Builtin.clear_ #[58] ty #[.slice (some ⟨g, (l.length - k) * 2, none⟩) k (cap - (l.length - k))]).run Try.prog (V.setCells g 0 (pshC (l.drop k))) = .ok (.tuple #[]) (cutW V g k l.length (pshC (l.drop k)))) := hide (fun ty => by
    refine run_clear_pu _ ty g _ k _ hk0 (fun j hj => ?_) (fun j hj => ?_)
    · rw [World.isSome_setCells]
      exact hsome V hbV _ (by omega)
    · rw [World.frozen?_setCells]
      exact hbV.froz _)
  have H1 := hide h1
  have H2 : Hid (Kp [g] w (cutW V g k l.length (pshC (l.drop k)))) := hide ((hkV.mono (by simp)).trans h2 (fun _ hx => Or.inl hx))
  have hcm : cap ≤ 9223372036854775807 := by unfold maxLen at hm; omega
  clear hsome h1 h2 hbV hV' hb hr h hkV
  generalize pshC (l.drop k) = mid at *
  generalize l.drop k = L2 at *
  generalize l.length = n at *
  subst hV
  obtain ⟨W1, hW1⟩ : ∃ W1, W1 = w.drew.setCells g (0 + 0 * 2) mid := ⟨_, rfl⟩
  rw [show w.drew.setCells g 0 mid = W1 by rw [hW1]] at HCL
  generalize cutW w.drew g k n mid = W2 at *
  have HW1 := hide hW1
  clear hW1
  obtain ⟨A, hA, HS2⟩ : ∃ A : Addr, (if cap = k then some (⟨g, 0, none⟩ : Addr) else some ⟨g, k * 2, none⟩) = some A ∧ Hid (∀ j u, mid[j]? = some u → w.drew.cell? (A.add j) = some u) := by
    by_cases hc : cap = k
    · refine ⟨⟨g, 0, none⟩, by simp [hc], hide (fun j u hj => ?_)⟩
      have h0 : mid.length = 0 := by rw [unhide HLEN]; omega
      rw [List.length_eq_zero_iff.1 h0] at hj
      simp at hj
    · refine ⟨⟨g, k * 2, none⟩, by simp [hc], hide (fun j u hj => ?_)⟩
      rw [Go.WideShapes.add_plain]
      exact unhide HSRC j u hj
  have HA := hide hA
  clear hA HSRC
  have hne : ((0 : Int) == (k : Int)) = false := beq_eq_false_iff_ne.2 (by omega)
  have hin : (k : Int) ≤ (n : Int) := by omega
  have hic : k ≤ cap := by omega
  have mixed : Try.prog.follows .mixedOrders = true := by kernel_rfl
  have h0i : (0 : Int) ≤ (k : Int) := by omega
  have hcpos : 0 < cap := by omega
  go_enter Try.func28, Try.ntmps28
  go_wp2_with fail
  go_region_law_o (refine step_append_room rfl (.tmp 22) (.tmp 25) 58 rfl 66 i0 2 Try.underlying58 hi0 hz1 g 0 0 cap (by simp [Act.eval, Act.put]) A (n - k) (cap - k) mid (by simp [Act.eval, Act.put]; exact HA.out) HLEN.out HS2.out HONE.out (by omega) HSP.out ?_; rw [← HW1.out])
  simp only [HA.out]
  clear HW1 HSP HS2 HA HONE HLEN
  have hnm : n - (n - k) = k := by omega
  have hmn : n - k ≤ n := by omega
  generalize hmE : n - k = m at *
  have HME := hide hmE
  clear hmE
  have hcl := HCL.out
  have hmc : m ≤ cap := by omega
  clear HCL
  go_wp2
  (go_ret; exact ⟨by rw [HME.out]; rfl, by rw [HME.out]; exact H1.out, H2.out⟩)
end Go.Proofs.Ytiomngpfolkgpaa
namespace Go.Proofs.Ytiomngpfolkgpaa
open Go.RowKit Go.ChangeShapes

def StrsAt (w : World) (ad : Option Addr) (l : List ByteArray) : Prop :=
  l ≠ [] → ∃ b off, ad = some ⟨b, off, none⟩ ∧ b < w.heap.size ∧ ∀ i (h : i < l.length), w.cell? ⟨b, off + i, none⟩ = some (.string l[i])
theorem StrsAt.below {w w' : World} {B : Nat} {ad : Option Addr} {l : List ByteArray} (h : StrsAt w ad l) (hb : Below B w w') (hB : w.heap.size ≤ B) : StrsAt w' ad l := fun hl => by
  obtain ⟨b, off, e, hlt, hc⟩ := h hl
  exact ⟨b, off, e, Nat.lt_of_lt_of_le hlt hb.size, fun i hi => (hb.cell (p := ⟨b, off + i, none⟩) (Nat.lt_of_lt_of_le hlt hB)).trans (hc i hi)⟩
theorem cellsOf_strB : Try.prog.cellsOf 9 = 1 := by kernel_rfl
theorem open_strs {H : Type} {enc : TypeId × Value → H} {W : World} {fuel : Nat} {held : Bool} {v : Value} {x : DataW H × List MemPlace}
    (h : DataW.trod enc Try.prog W 0 (fun _ => true) held fuel 39 [v] = some x) :
    ∃ (ad : Option Addr) (cap : Nat) (l : List ByteArray), v = .slice ad l.length cap ∧ l.length ≤ 9223372036854775807 ∧ StrsAt W ad l ∧ ∀ y ∈ l, y.size ≤ 9223372036854775807 := by
  rcases open_strings Try.underlying39 Try.underlying9 cellsOf_strB h with ⟨hcs, _⟩ | ⟨a, len, cap, ss, hcs, hb, hl, hm, hz, _, hcell, hws⟩
  · simp only [List.cons.injEq, and_true] at hcs
    subst hcs
    exact ⟨none, 0, [], rfl, by simp, fun hne => absurd rfl hne, by simp⟩
  · simp only [List.cons.injEq, and_true] at hcs
    subst hcs
    rw [if_pos rfl] at hz
    have hlen : (ss.take len).length = len := by rw [List.length_take]; omega
    refine ⟨some a, cap, ss.take len, by rw [hlen], by rw [hlen]; unfold maxLen at hm; omega, fun hne => ?_, fun y hy => ?_⟩
    · have h0 : 0 < len := by
        rcases Nat.eq_zero_or_pos len with e | e
        · subst e; simp at hne
        · exact e
      obtain ⟨b, off, spot⟩ := a
      have hc0 := hcell 0 (by omega)
      have hspot : spot = none := by simpa [Addr.add] using World.cell?_spot hc0
      subst hspot
      refine ⟨b, off, rfl, ?_, fun i hi => ?_⟩
      · rcases Nat.lt_or_ge b W.heap.size with hlt | hge
        · exact hlt
        · exfalso
          rw [Go.WideShapes.add_plain] at hc0
          simp [World.cell?, Array.getElem?_eq_none hge] at hc0
      · rw [hlen] at hi
        have c := hcell i (by omega)
        rw [Go.WideShapes.add_plain] at c
        rw [c]
        have hi2 : i < ss.length := by omega
        simp only [List.getElem_take]
        rw [List.getD_eq_getElem?_getD, List.getElem?_eq_getElem hi2]
        rfl
    · have := hws y (List.mem_of_mem_take hy)
      unfold maxLen at this
      omega
end Go.Proofs.Ytiomngpfolkgpaa
namespace Go.Proofs.Ytiomngpfolkgpaa
open Go.RowKit

theorem info_txt : (Try.prog.info? 9).map (fun i => (i.zero, i.size, i.bytes)) = some (some (.string ⟨#[]⟩), 1, 16) := by kernel_rfl
/-- A row of texts of the call's own. -/
def TxO (B : Nat) (w : World) (v : Value) (ts : List ByteArray) : Prop := w.ownsRow B 9 1 v ts.length (ts.map Value.string)
theorem TxO.nil (B : Nat) (w : World) : TxO B w (.slice none 0 0) [] := World.ownsRow_nil _ _ _ _
theorem TxO.kp {F : List Nat} {B : Nat} {w w' : World} {v : Value} {l : List ByteArray} (h : TxO B w v l) (hk : Kp F w w') (hF : ∀ k, v.ownBlock = some k → k ∉ F) : TxO B w' v l := by
  obtain ⟨h1, h2 | ⟨g, cp, cur, rfl, hb, hh, r⟩⟩ := h
  · exact ⟨h1, Or.inl h2⟩
  · exact ⟨h1, Or.inr ⟨g, cp, cur, rfl, hb, (hk.block g (Array.getElem?_eq_some_iff.1 hh).1 (hF g rfl)).trans hh, r⟩⟩
theorem TxO.lower {B B' : Nat} {w : World} {v : Value} {l : List ByteArray} (h : TxO B w v l) (hB : B' ≤ B) : TxO B' w v l := by
  obtain ⟨h1, h2 | ⟨g, cp, cur, rfl, hb, r⟩⟩ := h
  · exact ⟨h1, Or.inl h2⟩
  · exact ⟨h1, Or.inr ⟨g, cp, cur, rfl, Nat.le_trans hB hb, r⟩⟩
theorem TxO.form {B : Nat} {w : World} {v : Value} {l : List ByteArray} (h : TxO B w v l) : ∃ ad cp, v = .slice ad l.length cp ∧ l.length ≤ cp ∧ l.length ≤ 9223372036854775807 ∧ cp ≤ 9223372036854775807 ∧ (ad = none → cp = 0) ∧ (∀ a, ad = some a → ∃ g, a = ⟨g, 0, none⟩) := by
  obtain ⟨_, ⟨rfl, h0⟩ | ⟨g, cp, cur, rfl, _, _, hn, hm, _⟩⟩ := h
  · exact ⟨none, 0, by rw [h0], by omega, by omega, by omega, fun _ => rfl, fun a e => (by cases e)⟩
  · unfold maxLen at hm
    exact ⟨_, cp, rfl, hn, by omega, by omega, fun e => (by cases e), fun a e => (by injection e with e; exact ⟨g, e.symm⟩)⟩
theorem TxO.block {B : Nat} {w : World} {v : Value} {l : List ByteArray} (h : TxO B w v l) {k : Nat} (hk : v.ownBlock = some k) : B ≤ k ∧ ∃ cur, w.heap[k]? = some (.cells cur 9 (0, 0)) := by
  obtain ⟨_, ⟨rfl, h0⟩ | ⟨g, cp, cur, rfl, hb, hh, _⟩⟩ := h
  · cases hk
  · simp [Value.ownBlock] at hk
    subst hk
    exact ⟨hb, cur, hh⟩
theorem TxO.lt {B : Nat} {w : World} {v : Value} {l : List ByteArray} (h : TxO B w v l) {k : Nat} (hk : v.ownBlock = some k) : k < w.heap.size := by
  obtain ⟨_, cur, hc⟩ := h.block hk
  exact (Array.getElem?_eq_some_iff.1 hc).1
theorem TxO.strs {B : Nat} {w : World} {v : Value} {l : List ByteArray} (h : TxO B w v l) : ∃ ad cp, v = .slice ad l.length cp ∧ l.length ≤ cp ∧ StrsAt w ad l := by
  obtain ⟨_, ⟨rfl, h0⟩ | ⟨g, cp, cur, rfl, r⟩⟩ := id h
  · exact ⟨none, 0, by rw [h0], by omega, fun hne => absurd (List.eq_nil_of_length_eq_zero h0) hne⟩
  · have hl := World.ownsRow.lt h g rfl
    refine ⟨_, _, rfl, r.2.2.1, fun _ => ⟨g, 0, rfl, hl.2, fun i hi => ?_⟩⟩
    rw [Nat.zero_add, World.ownsRow.cellAt h i (by omega), List.getElem?_map, List.getElem?_eq_getElem hi]
    rfl
/-- One more text. -/
theorem TxO.push {B : Nat} {w : World} {v : Value} {ts : List ByteArray} {g : Nat} {x : ByteArray} (h : TxO B w v ts) (hB : B ≤ w.heap.size) (hg : CBox g #[.string x] 9 w) (hl : ts.length ≤ 1000000) (ty : TypeId) :
    ∃ v' w', (Builtin.append_ #[39, 39] ty #[v, .slice (some ⟨g, 0, none⟩) 1 1]).run Try.prog w = .ok v' w' ∧ TxO B w' v' (ts ++ [x]) ∧ Kp v.ownBlock.toList w w' ∧ (v'.ownBlock = v.ownBlock ∨ v'.ownBlock = some w.heap.size) := by
  obtain ⟨i0, hi, hz0, hz1, hz2⟩ := info_parts info_txt
  obtain ⟨g3, cap3, w', hr, h1, h2, h3, _⟩ := run_append_lies (P := Try.prog) (w := w) 39 ty B 9 i0 (.string ⟨#[]⟩) 1 16 Try.underlying39 hi hz0 hz1 hz2 rfl (by decide) _ _ _ h ⟨g, 0, none⟩ 1 1 [.string x] rfl (fun j u hj => by
    rw [Go.WideShapes.add_plain, Nat.zero_add]
    exact hg.cell (by simpa using hj)) (fun u hu => by simp at hu; subst hu; rfl) (by decide) (by unfold maxLen; omega) (by omega) hB _ rfl
  refine ⟨_, w', hr, ?_, Kp.of h2, ?_⟩
  · unfold TxO
    rw [List.length_append, List.map_append]
    exact h1
  · rcases h3 with h3 | h3
    · exact Or.inl (by rw [h3]; rfl)
    · exact Or.inr (by rw [h3]; rfl)
end Go.Proofs.Ytiomngpfolkgpaa
