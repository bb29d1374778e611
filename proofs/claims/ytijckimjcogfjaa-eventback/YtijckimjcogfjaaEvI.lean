/-
  matchOf: what items are as a match, as the plain function has it.
-/
import Derived.Test.YtijckimjcogfjaaEvH
namespace Go.Proofs.Ytijckimjcogfjaa
open Go.RowKit

/-- So many stages at the beginning of items: they, the rest. -/
def rdSs : Nat → List It → Option (List (List Int) × List It)
  | 0, l => some ([], l)
  | n + 1, l => (rdS l).bind fun q => (rdSs n q.2).bind fun z => some (q.1 :: z.1, z.2)
def mtOf : List It → Option (ByteArray × List (List Int))
  | x :: y :: r => if x.t = true ∧ nupB y 8 = true then (rdSs y.n.toNat r).bind fun z => if z.2 = [] then some (x.s, z.1) else none else none
  | _ => none
theorem info_ints : (Try.prog.info? 64).map (fun i => (i.zero, i.size, i.bytes)) = some (some (.slice none 0 0), 1, 24) := by kernel_rfl
/-- A row of slices of numbers of the call's own. -/
def OwnsV (B : Nat) (w : World) (v : Value) (l : List Value) : Prop := w.ownsRow B 64 1 v l.length l
theorem OwnsV.nil (B : Nat) (w : World) : OwnsV B w (.slice none 0 0) [] := World.ownsRow_nil _ _ _ _
theorem OwnsV.alloc {B : Nat} {w : World} {v : Value} {l : List Value} (h : OwnsV B w v l) (o : Obj) : OwnsV B (w.alloc o) v l := World.ownsRow.alloc h o
theorem OwnsV.below {B B' : Nat} {w w' : World} {v : Value} {l : List Value} (h : OwnsV B w v l) (hb : Below B' w w') (hB : w.heap.size ≤ B') : OwnsV B w' v l := by
  refine World.ownsRow.kept (row := none) h ⟨hb.os, hb.tape, hb.output, hb.size, fun k hk _ => hb.block k (by omega)⟩ ?_
  cases v.ownBlock
  · exact Or.inl rfl
  · exact Or.inr (by simp)
theorem OwnsV.form {B : Nat} {w : World} {v : Value} {l : List Value} (h : OwnsV B w v l) : ∃ ad cp, v = .slice ad l.length cp := by
  obtain ⟨_, ⟨rfl, h0⟩ | ⟨g, cp, cur, rfl, _⟩⟩ := h
  · exact ⟨_, _, by rw [h0]⟩
  · exact ⟨_, _, rfl⟩
/-- The stages' slices hold their numbers. -/
def All2 (w : World) : List Value → List (List Int) → Prop
  | [], [] => True
  | v :: vs, p :: ps => IntsT w v p ∧ All2 w vs ps
  | _, _ => False
theorem All2.mono {w w' : World} (hm : ∀ v p, IntsT w v p → IntsT w' v p) : ∀ {vs ps}, All2 w vs ps → All2 w' vs ps
  | [], [], _ => trivial
  | _ :: _, _ :: _, h => ⟨hm _ _ h.1, All2.mono hm h.2⟩
  | [], _ :: _, h => h.elim
  | _ :: _, [], h => h.elim
theorem All2.snoc {w : World} {v : Value} {p : List Int} (hp : IntsT w v p) : ∀ {vs ps}, All2 w vs ps → All2 w (vs ++ [v]) (ps ++ [p])
  | [], [], _ => ⟨hp, trivial⟩
  | _ :: _, _ :: _, h => ⟨h.1, All2.snoc hp h.2⟩
  | [], _ :: _, h => h.elim
  | _ :: _, [], h => h.elim
theorem All2.len {w : World} : ∀ {vs ps}, All2 w vs ps → vs.length = ps.length
  | [], [], _ => rfl
  | _ :: _, _ :: _, h => by rw [List.length_cons, List.length_cons, All2.len h.2]
  | [], _ :: _, h => h.elim
  | _ :: _, [], h => h.elim
theorem All2.get {w : World} : ∀ {vs ps}, All2 w vs ps → ∀ i (h1 : i < vs.length) (h2 : i < ps.length), IntsT w vs[i] ps[i]
  | _ :: _, _ :: _, h, 0, _, _ => h.1
  | _ :: _, _ :: _, h, i + 1, h1, h2 => All2.get h.2 i (by simpa using h1) (by simpa using h2)
  | [], [], _, _, h1, _ => absurd h1 (by simp)
  | [], _ :: _, h, _, _, _ => h.elim
  | _ :: _, [], h, _, _, _ => h.elim
theorem OwnsV.stages {B : Nat} {w : World} {v : Value} {vs : List Value} {ss : List (List Int)} (h : OwnsV B w v vs) (ha : All2 w vs ss) : ∃ a c, v = .slice a ss.length c ∧ StagesAt w a ss := by
  have hlen := ha.len
  obtain ⟨_, ⟨rfl, h0⟩ | ⟨g, cp, cur, rfl, _⟩⟩ := id h
  · refine ⟨none, 0, by rw [← hlen, h0], fun hne => absurd (List.eq_nil_of_length_eq_zero (by omega)) hne⟩
  · have hl := World.ownsRow.lt h g rfl
    refine ⟨_, _, by rw [← hlen], fun _ => ⟨g, 0, rfl, hl.2, fun i hi => ?_⟩⟩
    obtain ⟨a, c, e, hI⟩ := (ha.get i (by omega) hi).at_
    refine ⟨a, c, ?_, hI⟩
    rw [Nat.zero_add, World.ownsRow.cellAt h i (by omega), List.getElem?_eq_getElem (by omega), e]
/-- The box of a match, whatever its stages. -/
def VBox (g : Nat) (k : ByteArray) (v : Value) (w : World) : Prop := w.heap[g]? = some (.cells #[.string k, v] 35 (0, 0))
theorem VBox.cells {g : Nat} {k : ByteArray} {v : Value} {w : World} (h : VBox g k v w) : w.cell? ⟨g, 0, none⟩ = some (.string k) ∧ w.cell? ⟨g, 1, none⟩ = some v := by
  unfold VBox at h
  simp [World.cell?, h]
theorem VBox.froz {g : Nat} {k : ByteArray} {v : Value} {w : World} (h : VBox g k v w) : w.frozen? ⟨g, 0, none⟩ = false ∧ w.frozen? ⟨g, 1, none⟩ = false := by
  unfold VBox at h
  simp [World.frozen?, h]
theorem VBox.lt {g : Nat} {k : ByteArray} {v : Value} {w : World} (h : VBox g k v w) : g < w.heap.size := by
  unfold VBox at h
  rcases Nat.lt_or_ge g w.heap.size with h1 | h1
  · exact h1
  · rw [Array.getElem?_eq_none h1] at h; cases h
theorem VBox.below {g B : Nat} {k : ByteArray} {v : Value} {w w' : World} (h : VBox g k v w) (hb : Below B w w') (hB : g < B) : VBox g k v w' := by unfold VBox; rw [hb.block g hB]; exact h
theorem VBox.alloc {g : Nat} {k : ByteArray} {v : Value} {w : World} (h : VBox g k v w) (o : Obj) : VBox g k v (w.alloc o) := (Below.heap_alloc _ _ _ h.lt).trans h
theorem VBox.fr {g B : Nat} {k : ByteArray} {v : Value} {w w' : World} (h : VBox g k v w) (hf : Fr B 64 w w') : VBox g k v w' := hf.keep h (by decide)
theorem VBox.set {g : Nat} {k : ByteArray} {v : Value} {w : World} (h : VBox g k v w) (v' : Value) : VBox g k v' (w.setCell ⟨g, 1, none⟩ v') := by
  unfold VBox at *
  unfold World.setCell
  simp [h, Array.getElem?_modify]
theorem VBox.setOther {g g' i : Nat} {k : ByteArray} {v : Value} {w : World} (h : VBox g k v w) (hne : g ≠ g') (v' : Value) : VBox g k v (w.setCell ⟨g', i, none⟩ v') := by
  unfold VBox; rw [Below.heap_setCell _ _ _ _ (by dsimp only; exact hne)]; exact h
theorem OwnsV.setBox {B g i : Nat} {k : ByteArray} {v x y : Value} {w : World} {l : List Value} (h : OwnsV B w v l) (hb : VBox g k x w) : OwnsV B (w.setCell ⟨g, i, none⟩ y) v l := by
  refine World.ownsRow.kept (row := some g) h ⟨rfl, rfl, rfl, by simp, fun j hj hne => ?_⟩ ?_
  · rw [Below.heap_setCell _ _ _ _ (fun e => hne (by rw [e]))]
  · obtain ⟨_, ⟨rfl, _⟩ | ⟨q, cp, cur, rfl, _, hh, _⟩⟩ := h
    · exact Or.inl rfl
    · refine Or.inr fun e => ?_
      simp [Value.ownBlock] at e
      subst e
      unfold VBox at hb
      rw [hh] at hb
      simp at hb
theorem IntsT.setBox {g i : Nat} {k : ByteArray} {x y : Value} {w : World} (hb : VBox g k x w) (v : Value) (p : List Int) (h : IntsT w v p) : IntsT (w.setCell ⟨g, i, none⟩ y) v p :=
  h.of_heap fun b cur f hh => by
    rw [Below.heap_setCell _ _ _ _ (fun e => by
      dsimp only at e
      subst e
      unfold VBox at hb
      rw [hh] at hb
      simp at hb)]
    exact hh
theorem rdSs_step {n i : Nat} {l0 l rest : List It} {acc : List (List Int)} {p : List Int} (hi : i < n) (h : rdSs n l0 = (rdSs (n - i) l).bind fun z => some (acc ++ z.1, z.2)) (hp : rdS l = some (p, rest)) : rdSs n l0 = (rdSs (n - (i + 1)) rest).bind fun z => some (acc ++ [p] ++ z.1, z.2) := by
  rw [h, show n - i = (n - (i + 1)) + 1 by omega, rdSs, hp]
  simp only [Option.bind_some]
  cases rdSs (n - (i + 1)) rest with
  | none => rfl
  | some z => simp
theorem rdSs_fail {n i : Nat} {l0 l : List It} {acc : List (List Int)} (hi : i < n) (h : rdSs n l0 = (rdSs (n - i) l).bind fun z => some (acc ++ z.1, z.2)) (hp : rdS l = none) : rdSs n l0 = none := by
  rw [h, show n - i = (n - (i + 1)) + 1 by omega, rdSs, hp]; rfl
end Go.Proofs.Ytijckimjcogfjaa
