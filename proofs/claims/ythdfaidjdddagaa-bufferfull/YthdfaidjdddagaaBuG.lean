/-
  Rows of pairs of numbers: how they lie, held against one another, turned about.
-/
import Derived.Test.YthdfaidjdddagaaKp1
import Derived.Test.YthdfaidjdddagaaChecked
import Derived.WalkKit
import Derived.WalkLawsBesides
import Derived.Deep.DeepCutAuto
import Derived.Deep.QuietTactic
import Derived.BigQuiet
import Derived.Deep.RegionHeld3
import Derived.Deep.RegionLaw
namespace Go.Proofs.Ythdfaidjdddagaa
open Go.RowKit

/-- Pairs as cells. -/
def prC (l : List (Int × Int)) : List Value := l.flatMap fun x => [.int .i64 x.1, .int .i64 x.2]
theorem prC_len (l : List (Int × Int)) : (prC l).length = l.length * 2 := by
  unfold prC
  induction l with
  | nil => rfl
  | cons x l ih => simp only [List.flatMap_cons, List.length_append, ih, List.length_cons, List.length_nil]; omega
theorem prC_app (l k : List (Int × Int)) : prC (l ++ k) = prC l ++ prC k := by unfold prC; simp
theorem prC_snoc (l : List (Int × Int)) (x : Int × Int) : prC (l ++ [x]) = prC l ++ [.int .i64 x.1, .int .i64 x.2] := by unfold prC; simp
theorem prC_one (l : List (Int × Int)) : ∀ u ∈ prC l, u.oneCell' = true := fun u hu => by
  unfold prC at hu
  obtain ⟨x, _, hx⟩ := List.mem_flatMap.1 hu
  simp at hx
  rcases hx with rfl | rfl <;> rfl
theorem prC_at (l : List (Int × Int)) : ∀ (i : Nat) (h : i < l.length), (prC l)[i * 2]? = some (.int .i64 l[i].1) ∧ (prC l)[i * 2 + 1]? = some (.int .i64 l[i].2) := by
  induction l with
  | nil => intro i h; simp at h
  | cons x l ih =>
    intro i h
    have e : prC (x :: l) = .int .i64 x.1 :: .int .i64 x.2 :: prC l := by unfold prC; simp
    rw [e]
    cases i with
    | zero => exact ⟨rfl, rfl⟩
    | succ i =>
      have := ih i (by simp at h; omega)
      rw [show (i + 1) * 2 = i * 2 + 1 + 1 by omega]
      simpa using this
/-- A row of pairs lies there, its numbers by their places. -/
def PrF (g n cap : Nat) (f : Nat → Int × Int) (w : World) : Prop := ∃ cur : Array Value, w.heap[g]? = some (.cells cur 41 (0, 0)) ∧ cur.size = cap * 2 ∧ n ≤ cap ∧ cap ≤ maxLen ∧ ∀ i, i < n → cur[i * 2]? = some (.int .i64 (f i).1) ∧ cur[i * 2 + 1]? = some (.int .i64 (f i).2)
theorem PrF.kp {g n cap : Nat} {f : Nat → Int × Int} {w w' : World} {F : List Nat} (h : PrF g n cap f w) (hk : Kp F w w') (hF : g ∉ F) : PrF g n cap f w' := by
  obtain ⟨cur, h1, h2⟩ := h
  exact ⟨cur, (hk.block g (Array.getElem?_eq_some_iff.1 h1).1 hF).trans h1, h2⟩
theorem PrF.fst {g n cap : Nat} {f : Nat → Int × Int} {w : World} (h : PrF g n cap f w) (i : Nat) (hi : i < n) : w.cell? ⟨g, i * 2, none⟩ = some (.int .i64 (f i).1) := by
  obtain ⟨cur, h1, _, _, _, h2⟩ := h
  simp [World.cell?, h1, (h2 i hi).1]
theorem PrF.snd {g n cap : Nat} {f : Nat → Int × Int} {w : World} (h : PrF g n cap f w) (i : Nat) (hi : i < n) : w.cell? ⟨g, i * 2 + 1, none⟩ = some (.int .i64 (f i).2) := by
  obtain ⟨cur, h1, _, _, _, h2⟩ := h
  simp [World.cell?, h1, (h2 i hi).2]
theorem PrF.froz {g n cap : Nat} {f : Nat → Int × Int} {w : World} (h : PrF g n cap f w) (i : Nat) : w.frozen? ⟨g, i, none⟩ = false := by
  obtain ⟨cur, h1, _⟩ := h
  simp [World.frozen?, h1]
theorem PrF.ext {g n cap : Nat} {f f' : Nat → Int × Int} {w : World} (h : PrF g n cap f w) (e : ∀ i, i < n → f i = f' i) : PrF g n cap f' w := by
  obtain ⟨cur, h1, h2, h3, h4, h5⟩ := h
  exact ⟨cur, h1, h2, h3, h4, fun i hi => by rw [← e i hi]; exact h5 i hi⟩
theorem heap_set2 {w : World} {b k : Nat} {t : TypeId} {cur : Array Value} (h : w.heap[b]? = some (.cells cur t (0, 0))) (v : Value) : (w.setCell ⟨b, k, none⟩ v).heap[b]? = some (.cells (cur.setIfInBounds k v) t (0, 0)) := by
  unfold World.setCell
  simp [h, Array.getElem?_modify]
/-- A pair set. -/
def put2 (g k : Nat) (x : Int × Int) (w : World) : World := (w.setCell ⟨g, k * 2, none⟩ (.int .i64 x.1)).setCell ⟨g, k * 2 + 1, none⟩ (.int .i64 x.2)
theorem PrF.put {g n cap : Nat} {f : Nat → Int × Int} {w : World} (h : PrF g n cap f w) (k : Nat) (hk : k < n) (x : Int × Int) : PrF g n cap (fun i => if i = k then x else f i) (put2 g k x w) := by
  obtain ⟨cur, h1, h2, h3, h4, h5⟩ := h
  refine ⟨_, heap_set2 (heap_set2 h1 _) _, by simp [h2], h3, h4, fun i hi => ?_⟩
  obtain ⟨a1, a2⟩ := h5 i hi
  by_cases e : i = k
  · subst e
    simp only [Array.getElem?_setIfInBounds, Array.size_setIfInBounds]
    have g1 : i * 2 < cur.size := by omega
    have g2 : i * 2 + 1 < cur.size := by omega
    simp [g1, g2]
  · simp only [if_neg e]
    refine ⟨?_, ?_⟩ <;> (repeat rw [Array.getElem?_setIfInBounds_ne (by omega)]) <;> assumption
theorem Kp.put2 (g k : Nat) (x : Int × Int) (w : World) : Kp [g] w (put2 g k x w) := by
  unfold Go.Proofs.Ythdfaidjdddagaa.put2
  exact (Kp.set w g _ _).trans (Kp.set _ g _ _) (by simp)
/-- A row of pairs of the call's own. -/
def OwP (B : Nat) (w : World) (v : Value) (l : List (Int × Int)) : Prop := w.ownsRow B 41 2 v l.length (prC l)
theorem OwP.nil (B : Nat) (w : World) : OwP B w (.slice none 0 0) [] := World.ownsRow_nil _ _ _ _
theorem OwP.at {B : Nat} {w : World} {v : Value} {l : List (Int × Int)} (h : OwP B w v l) (hl : l ≠ []) : ∃ g cap, v = .slice (some ⟨g, 0, none⟩) l.length cap ∧ B ≤ g ∧ PrF g l.length cap (fun i => l.getD i (0, 0)) w := by
  obtain ⟨h0, ⟨_, h1⟩ | ⟨g, cap, cur, rfl, hg, hh, h2, h3, h4, h5⟩⟩ := h
  · exact absurd (List.eq_nil_of_length_eq_zero h1) hl
  · refine ⟨g, cap, rfl, hg, cur, hh, h4, h2, h3, fun i hi => ?_⟩
    obtain ⟨a1, a2⟩ := prC_at l i hi
    rw [← h5] at a1 a2
    rw [List.getElem?_take_of_lt (by omega)] at a1 a2
    simp only [List.getD_eq_getElem?_getD, List.getElem?_eq_getElem hi, Option.getD_some]
    exact ⟨by simpa using a1, by simpa using a2⟩
theorem OwP.of {B g cap : Nat} {w : World} {l : List (Int × Int)} {f : Nat → Int × Int} (h : PrF g l.length cap f w) (hf : ∀ i (hi : i < l.length), l[i] = f i) (hB : B ≤ g) : OwP B w (.slice (some ⟨g, 0, none⟩) l.length cap) l := by
  obtain ⟨cur, h1, h2, h3, h4, h5⟩ := h
  refine ⟨prC_len l, Or.inr ⟨g, cap, cur, rfl, hB, h1, h3, h4, h2, ?_⟩⟩
  apply List.ext_getElem?
  intro j
  rcases Nat.lt_or_ge j (l.length * 2) with hj | hj
  · rw [List.getElem?_take_of_lt hj]
    have hi : j / 2 < l.length := by omega
    obtain ⟨a1, a2⟩ := h5 (j / 2) hi
    obtain ⟨b1, b2⟩ := prC_at l (j / 2) hi
    rw [← hf (j / 2) hi] at a1 a2
    rcases Nat.mod_two_eq_zero_or_one j with e | e
    · rw [show j / 2 * 2 = j by omega] at a1 b1
      rw [b1]; simpa using a1
    · rw [show j / 2 * 2 + 1 = j by omega] at a2 b2
      rw [b2]; simpa using a2
  · rw [List.getElem?_eq_none (by simp; omega), List.getElem?_eq_none (by rw [prC_len]; exact hj)]
theorem info_parts {i : Option TypeInfo} {z : Option Value} {s b : Nat} (h : i.map (fun i => (i.zero, i.size, i.bytes)) = some (z, s, b)) : ∃ j, i = some j ∧ j.zero = z ∧ j.size = s ∧ j.bytes = b := by
  cases i with
  | none => cases h
  | some j => simp at h; exact ⟨j, rfl, h.1, h.2.1, h.2.2⟩
theorem info_pair : (Try.prog.info? 41).map (fun i => (i.zero, i.size, i.bytes)) = some (some (.agg #[.int .i64 0, .int .i64 0]), 2, 16) := by kernel_rfl
theorem two_new (W : World) (n : Nat) (hn : W.heap.size = n) (x y : Value) (t : TypeId) : ∀ (j : Nat) (u : Value), [x, y][j]? = some u → (W.alloc (.cells #[x, y] t)).cell? ((⟨n, 0, none⟩ : Addr).add j) = some u := fun j u hj => by
  subst hn
  match j, hj with
  | 0, hj => simp at hj; subst hj; exact (CBox.new W #[x, y] t).cell rfl
  | 1, hj => simp at hj; subst hj; exact (CBox.new W #[x, y] t).cell rfl
/-- Two pairs held against one another. -/
theorem eqP (d : Nat) (a0 a1 b0 b1 : Int) (w : World) : (Op.equalIn (d + 2) 41 (.agg #[.int .i64 a0, .int .i64 a1]) (.agg #[.int .i64 b0, .int .i64 b1])).run Try.prog w = .ok (a0 == b0 && a1 == b1) w := by
  have hi := fun (a b : Int) (w : World) => run_equalIn_int (P := Try.prog) w d 3 .i64 .i64 a b Try.underlying3
  unfold Op.equalIn
  simp only [Sem.run_bind, run_underlying Try.underlying41, Result.andThen_ok]
  simp [part, Try.sizeOf3, go_sem, hi, Std.Legacy.Range.forIn_eq_forIn_range', List.range'_succ]
  by_cases h0 : a0 = b0 <;> by_cases h1 : a1 = b1 <;> simp [h0, h1]
end Go.Proofs.Ythdfaidjdddagaa
