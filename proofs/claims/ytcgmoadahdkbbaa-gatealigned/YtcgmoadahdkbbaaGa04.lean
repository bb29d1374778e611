/-
  A store that is begun.
  Cells in the middle of a block written over. Of no program.
  A number from 0 to n - 1: the plain fact.
  Gates: rows of items; slices.Delete of the first ones; what stays but a kind of objects.
-/
import Derived.Test.YtcgmoadahdkbbaaGa03
import Derived.Test.YtcgmoadahdkbbaaGa01
import Derived.Test.YtcgmoadahdkbbaaChecked
import Derived.Deep.RegionHeld3
import Derived.Lib.SliceRun
import Derived.Deep.RegionLaw
import Derived.Shelf.RegionOpenPlain
import Derived.BigQuiet
namespace Go.Proofs.Ytcgmoadahdkbbaa
open Go.RowKit Cr

theorem newStore_not (c : Int) (w : World) (h : ¬ (1 ≤ c ∧ c ≤ 256)) :
    Calls Try.prog 36 #[.int .i64 c] w fun e w' => e = .returned (.tuple #[.pointer none, .int .i64 1]) ∧ w' = w := by
  by_cases h1 : c < 1
  · clear h
    go_enter Try.func36, Try.ntmps36
    go_wp2
    go_ret2
    exact ⟨rfl, rfl⟩
  · have h2 : c > 256 := by omega
    clear h
    go_enter Try.func36, Try.ntmps36
    go_wp2
    go_ret2
    exact ⟨rfl, rfl⟩
/-- The cells of a ring, and of a store, that nothing was put into. -/
def rgZ : Array Value := (List.replicate 256 (Value.string ⟨#[]⟩) ++ [Value.int .i64 0, Value.int .i64 0, Value.int .i64 0]).toArray
def srZ : Array Value := (List.replicate 256 (Value.string ⟨#[]⟩) ++ [Value.int .i64 0, Value.int .i64 0, Value.int .i64 0, Value.int .i64 0]).toArray
theorem zero_ring (W : World) : (zeroValue 100).run Try.prog W = .ok (.agg rgZ) W := by kernel_rfl
theorem zero_store (W : World) : (zeroValue 102).run Try.prog W = .ok (.agg srZ) W := by kernel_rfl
theorem rgZ_size : rgZ.size = 259 := by kernel_rfl
theorem srZ_size : srZ.size = 260 := by kernel_rfl
def srC (v : Value) : Array Value := (List.replicate 256 (Value.string ⟨#[]⟩) ++ [v, Value.int .i64 0, Value.int .i64 0, Value.int .i64 0]).toArray
theorem build_store (v : Value) : Array.foldl (fun cs (x : Value × Nat) => cs.setIfInBounds x.snd x.fst) srZ (rgZ.setIfInBounds 256 v).zipIdx 0 259 = srC v := by kernel_rfl
theorem srC_v (v : Value) : (srC v)[256]? = some v := by kernel_rfl
theorem srC_1 (v : Value) : (srC v)[257]? = some (Value.int .i64 0) := by kernel_rfl
theorem srC_2 (v : Value) : (srC v)[258]? = some (Value.int .i64 0) := by kernel_rfl
theorem srC_3 (v : Value) : (srC v)[259]? = some (Value.int .i64 0) := by kernel_rfl
theorem srC_size (v : Value) : (srC v).size = 260 := by kernel_rfl
set_option maxRecDepth 100000 in
set_option maxHeartbeats 4000000 in
theorem newStore_ok (c : Nat) (w : World) (h0 : 1 ≤ c) (h1 : c ≤ 256) :
    Calls Try.prog 36 #[.int .i64 (c : Int)] w fun e w' => e = .returned (.tuple #[.pointer (some ⟨w.heap.size, 0, none⟩), .int .i64 0]) ∧ CrAt w' w.heap.size ⟨c, 0, []⟩ ∧ Kp [] w w' := by
  have k1 : ¬ (c : Int) < 1 := by omega
  have k2 : ¬ (c : Int) > 256 := by omega
  have z1 := zero_ring
  have z2 := zero_store
  have s1 := rgZ_size
  have s2 := srZ_size
  have hb := hide (build_store (.int .i64 (c : Int)))
  generalize rgZ = Z1 at *
  generalize srZ = Z2 at *
  go_enter Try.func36, Try.ntmps36
  go_wp2
  rw [unhide hb]
  go_ret2
  exact ⟨rfl, ⟨_, 0, CBox.new w _ _, srC_size _, srC_v _, srC_1 _, srC_2 _, srC_3 _, h0, fun i hi => absurd hi (Nat.not_lt_zero i), ⟨h0, h1, by show 0 + 0 ≤ c; omega⟩⟩, Kp.alloc _ _⟩
end Go.Proofs.Ytcgmoadahdkbbaa
namespace Go.Proofs.Ytcgmoadahdkbbaa
open Go.RowKit

/-- Cells in the middle of a block written over. -/
theorem CBox.put {g t : Nat} : ∀ (vs B A C : List Value) (w : World), B.length = vs.length → CBox g (A ++ B ++ C).toArray t w → CBox g (A ++ vs ++ C).toArray t (w.setCells g A.length vs)
  | [], B, A, C, w, hl, h => by
    obtain rfl : B = [] := List.eq_nil_of_length_eq_zero hl
    exact h
  | v :: r, [], A, C, w, hl, h => by simp at hl
  | v :: r, b :: B, A, C, w, hl, h => by
    have h1 := h.set A.length v
    rw [show (A ++ b :: B ++ C).toArray.setIfInBounds A.length v = (A ++ [v] ++ B ++ C).toArray by simp] at h1
    have h2 := CBox.put r B (A ++ [v]) C _ (by simpa using hl) h1
    rw [show A ++ [v] ++ r ++ C = A ++ v :: r ++ C by simp, show (A ++ [v]).length = A.length + 1 by simp] at h2
    exact h2
theorem Kp.sets (g : Nat) : ∀ (vs : List Value) (o : Nat) (w : World), Kp [g] w (w.setCells g o vs)
  | [], _, w => Kp.refl _ w
  | v :: r, o, w => (Kp.set w g o v).trans (Kp.sets g r (o + 1) _) (fun _ hx => Or.inl hx)
end Go.Proofs.Ytcgmoadahdkbbaa
namespace Go.Proofs.Ytcgmoadahdkbbaa

theorem among_eq (x n : Int) (hn : 0 < n) : (x.tmod n + n).tmod n = x % n := by
  rcases Int.lt_or_le x 0 with h | h
  · have h1 := Int.tmod_eq_emod (a := x) (b := n)
    have h2 := Int.emod_nonneg x (by omega : n ≠ 0)
    have h3 := Int.emod_lt_of_pos x hn
    by_cases hd : n ∣ x
    · have e : x % n = 0 := Int.emod_eq_zero_of_dvd hd
      rw [h1, if_pos (Or.inr hd), e]
      simp
    · rw [h1, if_neg (by omega), show (n.natAbs : Int) = n by omega, show x % n - n + n = x % n by omega, Int.tmod_eq_emod_of_nonneg h2, Int.emod_emod_of_dvd x (Int.dvd_refl n)]
  · rw [Int.tmod_eq_emod_of_nonneg h, Int.tmod_eq_emod_of_nonneg (by have := Int.emod_nonneg x (by omega : n ≠ 0); omega)]
    simp
end Go.Proofs.Ytcgmoadahdkbbaa
namespace Go.Proofs.Ytcgmoadahdkbbaa
open Go.RowKit Gt Cr
theorem info_it : (Try.prog.info? 81).map (fun i => (i.zero, i.size, i.bytes)) = some (some (.agg #[.string ⟨#[]⟩, .int .i64 0]), 2, 24) := by kernel_rfl
/-- A packet as cells. -/
def itA (p : It) : Array Value := #[.string p.t, .int .i64 (p.n : Int)]
def itC (l : List It) : List Value := l.flatMap fun p => (itA p).toList
theorem itC_append (a b : List It) : itC (a ++ b) = itC a ++ itC b := by unfold itC; exact List.flatMap_append ..
theorem itC_one (p : It) : itC [p] = (itA p).toList := by unfold itC; simp
theorem itC_len (l : List It) : (itC l).length = l.length * 2 := by
  induction l with
  | nil => rfl
  | cons e r ih =>
    have : itC (e :: r) = (itA e).toList ++ itC r := rfl
    rw [this, List.length_append, ih, List.length_cons]
    show 2 + r.length * 2 = _
    omega
theorem itC_cell (l : List It) (u : Value) (h : u ∈ itC l) : u.oneCell' = true := by
  unfold itC at h
  obtain ⟨p, _, h⟩ := List.mem_flatMap.1 h
  simp [itA] at h
  rcases h with rfl | rfl <;> rfl
theorem itC_at (l : List It) (i : Nat) (h : i < l.length) : (itC l)[i * 2]? = some (.string (l[i]).t) ∧ (itC l)[i * 2 + 1]? = some (.int .i64 ((l[i]).n : Int)) := by
  induction l generalizing i with
  | nil => cases h
  | cons e r ih =>
    have hc : itC (e :: r) = .string e.t :: .int .i64 (e.n : Int) :: itC r := rfl
    rw [hc]
    cases i with
    | zero => exact ⟨rfl, rfl⟩
    | succ i =>
      have := ih i (by simpa using h)
      rw [show (i + 1) * 2 = i * 2 + 2 by omega]
      simpa using this
theorem itC_set (l : List It) (i : Nat) (p : It) (h : i < l.length) : itC (l.set i p) = ((itC l).set (i * 2) (.string p.t)).set (i * 2 + 1) (.int .i64 (p.n : Int)) := by
  induction l generalizing i with
  | nil => cases h
  | cons e r ih =>
    have hc : itC (e :: r) = .string e.t :: .int .i64 (e.n : Int) :: itC r := rfl
    cases i with
    | zero => rfl
    | succ i =>
      have := ih i (by simpa using h)
      rw [List.set_cons_succ, hc, show (i + 1) * 2 = i * 2 + 2 by omega]
      show .string e.t :: .int .i64 (e.n : Int) :: itC (r.set i p) = _
      rw [this]
      rfl
/-- A row of packets of one's own. -/
def ItRow (w : World) (v : Value) (l : List It) : Prop := w.ownsRow 0 81 2 v l.length (itC l)
theorem ItRow.nil (w : World) : ItRow w (.slice none 0 0) [] := World.ownsRow_nil _ _ _ _
theorem ItRow.form {w : World} {v : Value} {l : List It} (h : ItRow w v l) : (v = .slice none 0 0 ∧ l = []) ∨ ∃ g cap, v = .slice (some ⟨g, 0, none⟩) l.length cap ∧ l.length ≤ cap ∧ cap ≤ 9223372036854775807 := by
  obtain ⟨_, ⟨rfl, h0⟩ | ⟨g, cp, cur, rfl, _, _, hn, hm, _⟩⟩ := h
  · exact Or.inl ⟨rfl, List.eq_nil_of_length_eq_zero h0⟩
  · exact Or.inr ⟨g, cp, rfl, hn, by unfold maxLen at hm; omega⟩
theorem ItRow.slice {w : World} {v : Value} {l : List It} (h : ItRow w v l) : ∃ ad cap, v = .slice ad l.length cap := by
  rcases h.form with ⟨rfl, rfl⟩ | ⟨g, cap, rfl, _⟩
  · exact ⟨_, _, rfl⟩
  · exact ⟨_, _, rfl⟩
theorem ItRow.block {w : World} {v : Value} {l : List It} (h : ItRow w v l) {k : Nat} (hk : v.ownBlock = some k) : ∃ cur, w.heap[k]? = some (.cells cur 81 (0, 0)) := by
  obtain ⟨_, ⟨rfl, h0⟩ | ⟨g, cp, cur, rfl, _, hh, _⟩⟩ := h
  · cases hk
  · simp [Value.ownBlock] at hk
    subst hk
    exact ⟨cur, hh⟩
theorem ItRow.lt {w : World} {v : Value} {l : List It} (h : ItRow w v l) {k : Nat} (hk : v.ownBlock = some k) : k < w.heap.size := by
  obtain ⟨cur, hc⟩ := h.block hk
  exact (Array.getElem?_eq_some_iff.1 hc).1
theorem ItRow.kp {F : List Nat} {w w' : World} {v : Value} {l : List It} (h : ItRow w v l) (hk : Kp F w w') (hF : ∀ k, v.ownBlock = some k → k ∉ F) : ItRow w' v l := by
  obtain ⟨h1, h2 | ⟨g, cp, cur, rfl, hb, hh, r⟩⟩ := h
  · exact ⟨h1, Or.inl h2⟩
  · exact ⟨h1, Or.inr ⟨g, cp, cur, rfl, hb, (hk.block g (Array.getElem?_eq_some_iff.1 hh).1 (hF g rfl)).trans hh, r⟩⟩
theorem ItRow.cell {w : World} {g n cap : Nat} {l : List It} (h : ItRow w (.slice (some ⟨g, 0, none⟩) n cap) l) (i : Nat) (hi : i < l.length) : w.cell? ⟨g, i * 2, none⟩ = some (.string (l[i]).t) ∧ w.cell? ⟨g, i * 2 + 1, none⟩ = some (.int .i64 ((l[i]).n : Int)) := by
  have k := World.ownsRow.cells h (g := g) rfl
  obtain ⟨a, b⟩ := itC_at l i hi
  have ka := k _ _ a
  have kb := k _ _ b
  rw [Go.WideShapes.add_plain, Nat.zero_add] at ka kb
  exact ⟨ka, kb⟩
/-- What stays: all below B, and all that is not of that kind. -/
structure Ko (P : Obj → Bool) (B : Nat) (w w' : World) : Prop where
  os : w'.os = w.os
  tape : w'.tape = w.tape
  output : w'.output = w.output
  size : w.heap.size ≤ w'.heap.size
  block : ∀ k o, w.heap[k]? = some o → (k < B ∨ P o = false) → w'.heap[k]? = some o
theorem Ko.refl (P : Obj → Bool) (B : Nat) (w : World) : Ko P B w w := ⟨rfl, rfl, rfl, Nat.le_refl _, fun _ _ h _ => h⟩
theorem Ko.trans {P : Obj → Bool} {B : Nat} {a b c : World} (h : Ko P B a b) (k : Ko P B b c) : Ko P B a c :=
  ⟨k.os.trans h.os, k.tape.trans h.tape, k.output.trans h.output, Nat.le_trans h.size k.size, fun i o h1 h2 => k.block i o (h.block i o h1 h2) h2⟩
theorem Ko.of {P : Obj → Bool} {F : List Nat} {B : Nat} {w w' : World} (h : Kp F w w') (hF : ∀ k ∈ F, k < w.heap.size → B ≤ k ∧ ∃ o, w.heap[k]? = some o ∧ P o = true) : Ko P B w w' :=
  ⟨h.os, h.tape, h.output, h.size, fun k o h1 h2 => by
    have hlt := (Array.getElem?_eq_some_iff.1 h1).1
    refine (h.block k hlt fun hm => ?_).trans h1
    obtain ⟨h3, o', h4, h5⟩ := hF k hm hlt
    rw [h1] at h4
    injection h4 with h4
    subst h4
    rcases h2 with h2 | h2
    · omega
    · rw [h5] at h2; cases h2⟩
theorem Ko.nil {P : Obj → Bool} {B : Nat} {w w' : World} (h : Kp [] w w') : Ko P B w w' := Ko.of h (fun k hk => by cases hk)
theorem Ko.mono {P Q : Obj → Bool} {B B' : Nat} {w w' : World} (h : Ko P B w w') (hB : B' ≤ B) (hQ : ∀ o, P o = true → Q o = true) : Ko Q B' w w' :=
  ⟨h.os, h.tape, h.output, h.size, fun k o h1 h2 => h.block k o h1 (h2.imp (fun h3 => by omega) fun h3 => by
    cases hp : P o with
    | false => rfl
    | true => rw [hQ o hp] at h3; cases h3)⟩
theorem Ko.below {P : Obj → Bool} {B : Nat} {w w' : World} (h : Ko P B w w') (hB : B ≤ w.heap.size) : Below B w w' := ⟨h.os, h.tape, h.output, h.size, fun k hk => by
  have hlt : k < w.heap.size := by omega
  rw [Array.getElem?_eq_getElem hlt]
  exact h.block k _ (Array.getElem?_eq_getElem hlt) (Or.inl hk)⟩
/-- A row of texts by its block. -/
theorem ItRow.box {w : World} {g n cap : Nat} {l : List It} (h : ItRow w (.slice (some ⟨g, 0, none⟩) n cap) l) : n = l.length ∧ l.length ≤ cap ∧ cap ≤ maxLen ∧ ∃ rest : List Value, rest.length = (cap - l.length) * 2 ∧ CBox g (itC l ++ rest).toArray 81 w := by
  obtain ⟨h0, ⟨h1, _⟩ | ⟨g', cp, cur, e, _, hh, hn, hm, hsz, htk⟩⟩ := h
  · cases h1
  · injection e with e1 e2 e3
    injection e1 with e1; injection e1 with e1
    subst e1; subst e3
    refine ⟨e2, hn, hm, cur.toList.drop (l.length * 2), ?_, ?_⟩
    · rw [List.length_drop, Array.length_toList, hsz]; omega
    · rw [← htk, List.take_append_drop]
      exact hh
theorem ItRow.ofBox {w : World} {g cap : Nat} {l : List It} {rest : List Value} (h : CBox g (itC l ++ rest).toArray 81 w) (hl : l.length ≤ cap) (hm : cap ≤ maxLen) (hr : rest.length = (cap - l.length) * 2) : ItRow w (.slice (some ⟨g, 0, none⟩) l.length cap) l :=
  ⟨itC_len l, Or.inr ⟨g, cap, (itC l ++ rest).toArray, rfl, Nat.zero_le _, h, hl, hm, by rw [List.size_toArray, List.length_append, itC_len, hr]; omega, by rw [← itC_len l]; simp⟩⟩
/-- The cells of n texts that are none. -/
def itZ (n : Nat) : List Value := (Builtin.zeroCells (Value.agg #[.string ⟨#[]⟩, .int .i64 0]).cells n).toList
theorem itZ_len (n : Nat) : (itZ n).length = n * 2 := by
  unfold itZ Builtin.zeroCells
  rw [Array.length_toList, Array.size_map, Array.size_range]
  rfl
theorem itZ_one (n : Nat) : ∀ v ∈ itZ n, v.oneCell' = true := fun v hv => by
  unfold itZ Builtin.zeroCells at hv
  rw [Array.toList_map, List.mem_map] at hv
  obtain ⟨i, _, rfl⟩ := hv
  have e : (Value.agg #[.string ⟨#[]⟩, .int .i64 0]).cells = #[.string ⟨#[]⟩, .int .i64 0] := rfl
  rw [e]
  have : i % (#[Value.string ⟨#[]⟩, .int .i64 0] : Array Value).size < 2 := Nat.mod_lt _ (by decide)
  generalize i % (#[Value.string ⟨#[]⟩, .int .i64 0] : Array Value).size = j at *
  match j, this with
  | 0, _ => rfl
  | 1, _ => rfl
theorem run_clear_it (w : World) (ty : TypeId) (g o n c : Nat) (hn : 0 < n) (hc : ∀ j, j < n * 2 → (w.cell? ⟨g, o + j, none⟩).isSome = true) (hf : ∀ j, j < n * 2 → w.frozen? ⟨g, o + j, none⟩ = false) :
    (Builtin.clear_ #[69] ty #[.slice (some ⟨g, o, none⟩) n c]).run Try.prog w = .ok (.tuple #[]) (w.setCells g o (itZ n)) := by
  have hst := run_storeCells_cells (P := Try.prog) g o (itZ n) 0 w (by rw [itZ_len]; simpa using hc) (by rw [itZ_len]; simpa using hf) (itZ_one n)
  simp only [Nat.add_zero] at hst
  have hv : ∀ w, (zeroValue 81).run Try.prog w = .ok (.agg #[.string ⟨#[]⟩, .int .i64 0]) w := Try.zeroValue81
  obtain ⟨m, rfl⟩ : ∃ m, n = m + 1 := ⟨n - 1, by omega⟩
  unfold itZ at *
  simp [Builtin.clear_, run_underlying Try.underlying69, hv, hst]
/-- The world behind the first k taken out of a row: those behind them k up, the last ones none. -/
def itcW (w : World) (g k n : Nat) (mid : List Value) : World := (w.setCells g 0 mid).setCells g ((n - k) * 2) (itZ k)
theorem itcW_row {w : World} {g cap : Nat} {l : List It} (k : Nat) (h : ItRow w (.slice (some ⟨g, 0, none⟩) l.length cap) l) (hk : k ≤ l.length) :
    ItRow (itcW w g k l.length (itC (l.drop k))) (.slice (some ⟨g, 0, none⟩) (l.length - k) cap) (l.drop k) ∧ Kp [g] w (itcW w g k l.length (itC (l.drop k))) := by
  obtain ⟨_, hl, hm, rest, hr, hb⟩ := h.box
  have hdl : (itC (l.drop k)).length = (l.length - k) * 2 := by rw [itC_len, List.length_drop]
  have hll : (itC l).length = l.length * 2 := itC_len l
  have e1 : itC l ++ rest = [] ++ (itC l).take ((l.length - k) * 2) ++ ((itC l).drop ((l.length - k) * 2) ++ rest) := by
    rw [List.nil_append, ← List.append_assoc, List.take_append_drop]
  rw [e1] at hb
  have h1 := CBox.put (itC (l.drop k)) _ _ _ w (by rw [List.length_take, hll, hdl]; omega) hb
  rw [List.nil_append] at h1
  have h2 := CBox.put (itZ k) ((itC l).drop ((l.length - k) * 2)) (itC (l.drop k)) rest _ (by rw [List.length_drop, hll, itZ_len]; omega) (by rw [List.append_assoc]; exact h1)
  rw [hdl] at h2
  refine ⟨?_, (Kp.sets g _ _ w).trans (Kp.sets g _ _ _) (fun _ hx => Or.inl hx)⟩
  have := ItRow.ofBox (w := itcW w g k l.length (itC (l.drop k))) (g := g) (cap := cap) (l := l.drop k) (rest := itZ k ++ rest) (by rw [← List.append_assoc]; exact h2) (by rw [List.length_drop]; omega) hm (by rw [List.length_append, itZ_len, hr, List.length_drop]; omega)
  rw [List.length_drop] at this
  exact this
set_option maxHeartbeats 4000000 in
set_option maxRecDepth 1000000 in
theorem itcut_any (g cap : Nat) (l : List It) (k : Nat) (w : World) (h : ItRow w (.slice (some ⟨g, 0, none⟩) l.length cap) l) (hk : k ≤ l.length) (hk0 : 0 < k) :
    Calls Try.prog 42 #[.slice (some ⟨g, 0, none⟩) l.length cap, .int .i64 0, .int .i64 (k : Int)] w fun e w' => e = .returned (.slice (some ⟨g, 0, none⟩) (l.length - k) cap) ∧ ItRow w' (.slice (some ⟨g, 0, none⟩) (l.length - k) cap) (l.drop k) ∧ Kp [g] w w' := by
  obtain ⟨i0, hi0, hz0, hz1, hz2⟩ := info_parts info_it
  obtain ⟨_, hl, hm, rest, hr, hb⟩ := h.box
  obtain ⟨V, hV⟩ : ∃ V, V = w.drew := ⟨_, rfl⟩
  have hkV : Kp [] w V := by rw [hV]; exact Kp.drew w
  have hV' := h.kp hkV (by simp)
  have hbV := hb.kp hkV (by simp)
  obtain ⟨h1, h2⟩ := itcW_row k hV' hk
  have hsome : ∀ W, CBox g (itC l ++ rest).toArray 81 W → ∀ j, j < cap * 2 → (W.cell? ⟨g, j, none⟩).isSome = true := fun W hW j hj => by
    have hlt : j < (itC l ++ rest).toArray.size := by rw [List.size_toArray, List.length_append, itC_len, hr]; omega
    rw [hW.cell (Array.getElem?_eq_getElem hlt)]
    rfl
  have HSRC : Hid (∀ j u, (itC (l.drop k))[j]? = some u → V.cell? ⟨g, k * 2 + j, none⟩ = some u) := hide (fun j u hj => by
    refine hbV.cell ?_
    have e : itC l = itC (l.take k) ++ itC (l.drop k) := by rw [← itC_append, List.take_append_drop]
    have hA : (itC (l.take k)).length = k * 2 := by rw [itC_len, List.length_take]; congr 1; omega
    rw [e, List.getElem?_toArray, List.append_assoc, List.getElem?_append_right (by omega), hA, Nat.add_sub_cancel_left, List.getElem?_append_left ((List.getElem?_eq_some_iff.1 hj).1)]
    exact hj)
  have HLEN : Hid ((itC (l.drop k)).length = (l.length - k) * 2) := hide (by rw [itC_len, List.length_drop])
  have HONE : Hid (∀ u ∈ itC (l.drop k), u.oneCell' = true) := hide (itC_cell _)
  have HSP : Hid (∀ j, j < (itC (l.drop k)).length → (V.cell? ⟨g, 0 + 0 * 2 + j, none⟩).isSome = true ∧ V.frozen? ⟨g, 0 + 0 * 2 + j, none⟩ = false) := hide (fun j hj => ⟨hsome V hbV _ (by rw [unhide HLEN] at hj; omega), hbV.froz _⟩)
  have HCL : Hid (∀ ty, (Builtin.clear_ #[69] ty #[.slice (some ⟨g, (l.length - k) * 2, none⟩) k (cap - (l.length - k))]).run Try.prog (V.setCells g 0 (itC (l.drop k))) = .ok (.tuple #[]) (itcW V g k l.length (itC (l.drop k)))) := hide (fun ty => by
    refine run_clear_it _ ty g _ k _ hk0 (fun j hj => ?_) (fun j hj => ?_)
    · rw [World.isSome_setCells]
      exact hsome V hbV _ (by omega)
    · rw [World.frozen?_setCells]
      exact hbV.froz _)
  have H1 := hide h1
  have H2 : Hid (Kp [g] w (itcW V g k l.length (itC (l.drop k)))) := hide ((hkV.mono (by simp)).trans h2 (fun _ hx => Or.inl hx))
  have hcm : cap ≤ 9223372036854775807 := by unfold maxLen at hm; omega
  clear hsome h1 h2 hbV hV' hb hr h hkV
  generalize itC (l.drop k) = mid at *
  generalize l.drop k = L2 at *
  generalize l.length = n at *
  subst hV
  obtain ⟨W1, hW1⟩ : ∃ W1, W1 = w.drew.setCells g (0 + 0 * 2) mid := ⟨_, rfl⟩
  rw [show w.drew.setCells g 0 mid = W1 by rw [hW1]] at HCL
  generalize itcW w.drew g k n mid = W2 at *
  have HW1 := hide hW1
  clear hW1
  obtain ⟨A, hA, HS2⟩ : ∃ A : Addr, (if cap = k then some (⟨g, 0, none⟩ : Addr) else some ⟨g, k * 2, none⟩) = some A ∧ Hid (∀ j u, mid[j]? = some u → w.drew.cell? (A.add j) = some u) := by
    by_cases hc : cap = k
    · refine ⟨⟨g, 0, none⟩, by simp [hc], hide (fun j u hj => ?_)⟩
      have h0 : mid.length = 0 := by rw [unhide HLEN]; omega
      rw [List.length_eq_zero_iff.1 h0] at hj
      simp at hj
    · refine ⟨⟨g, k * 2, none⟩, by simp [hc], hide (fun j u hj => ?_)⟩
      rw [Go.WideShapes.add_plain]
      exact unhide HSRC j u hj
  have HA := hide hA
  clear hA HSRC
  have hne : ((0 : Int) == (k : Int)) = false := beq_eq_false_iff_ne.2 (by omega)
  have hin : (k : Int) ≤ (n : Int) := by omega
  have hic : k ≤ cap := by omega
  have mixed : Try.prog.follows .mixedOrders = true := by kernel_rfl
  have h0i : (0 : Int) ≤ (k : Int) := by omega
  have hcpos : 0 < cap := by omega
  go_enter Try.func42, Try.ntmps42
  go_wp2_with fail
  go_region_law_o (refine step_append_room rfl (.tmp 22) (.tmp 25) 69 rfl 81 i0 2 Try.underlying69 hi0 hz1 g 0 0 cap (by simp [Act.eval, Act.put]) A (n - k) (cap - k) mid (by simp [Act.eval, Act.put]; exact HA.out) HLEN.out HS2.out HONE.out (by omega) HSP.out ?_; rw [← HW1.out])
  simp only [HA.out]
  clear HW1 HSP HS2 HA HONE HLEN
  have hnm : n - (n - k) = k := by omega
  have hmn : n - k ≤ n := by omega
  generalize hmE : n - k = m at *
  have HME := hide hmE
  clear hmE
  have hcl := HCL.out
  have hmc : m ≤ cap := by omega
  clear HCL
  go_wp2
  (go_ret; exact ⟨by rw [HME.out]; rfl, by rw [HME.out]; exact H1.out, H2.out⟩)
end Go.Proofs.Ytcgmoadahdkbbaa
