/-
  Maps of texts keyed by numbers: what a look-up, a store and a deletion do.
-/
import Derived.Test.YtiomngpfolkgpaaL05
import Derived.Test.YtiomngpfolkgpaaChecked
import Derived.Test.YtiomngpfolkgpaaL07
import Derived.Maps.OwnSet
import Derived.Tactics
import Derived.Tactics2
import Derived.Laws.Pointers
import Derived.Deep.QuietTactic
import Derived.BigQuiet
namespace Go.Proofs.Ytiomngpfolkgpaa
open Go.RowKit Lk
open Go.ChangeMaps (setBlock)

/-- An entry. -/
structure Er where
  k : Nat
  b : ByteArray
  bn : Nat
def Er.entry (e : Er) : MapEntry := ⟨.int .i64 (e.k : Int), .agg #[.string e.b], e.bn⟩
def valR (l : List Er) (n : Nat) : Option ByteArray := (l.find? fun x => x.k == n).map Er.b
/-- The map has just these texts. -/
def MpIs (w : World) (q : Nat) (f : Nat → Option ByteArray) : Prop := ∃ (l : List Er) (clock : Nat), w.heap[q]? = some (.map (l.map Er.entry).toArray clock) ∧ (l.map Er.k).Nodup ∧ ∀ n, valR l n = f n
theorem MpIs.lt {w : World} {q : Nat} {f : Nat → Option ByteArray} (h : MpIs w q f) : q < w.heap.size := let ⟨_, _, h1, _⟩ := h; (Array.getElem?_eq_some_iff.1 h1).1
theorem MpIs.is {w : World} {q : Nat} {f : Nat → Option ByteArray} (h : MpIs w q f) : ∃ es c, w.heap[q]? = some (.map es c) := let ⟨_, _, h1, _⟩ := h; ⟨_, _, h1⟩
theorem MpIs.kp {F : List Nat} {w w' : World} {q : Nat} {f : Nat → Option ByteArray} (h : MpIs w q f) (hk : Kp F w w') (hF : q ∉ F) : MpIs w' q f := by
  have hlt := h.lt
  obtain ⟨l, c, h1, h2⟩ := h
  exact ⟨l, c, (hk.block q hlt hF).trans h1, h2⟩
theorem MpIs.new (w : World) : MpIs (w.alloc (.map #[] 0)) w.heap.size (fun _ => none) := ⟨[], 0, heap_alloc_new w _, by simp, fun _ => rfl⟩
theorem MpIs.congr {w : World} {q : Nat} {f g : Nat → Option ByteArray} (h : MpIs w q f) (e : ∀ n, f n = g n) : MpIs w q g := by
  obtain ⟨l, c, h1, h2, h3⟩ := h
  exact ⟨l, c, h1, h2, fun n => (h3 n).trans (e n)⟩
theorem numNow (a b : Nat) : Instr.sameNow (.int .i64) (.int .i64 (a : Int)) (.int .i64 (b : Int)) = some (decide (a = b)) := by
  show (if IntKind.i64 = IntKind.i64 then some ((a : Int) == (b : Int)) else none) = _
  rw [if_pos rfl]
  congr 1
  by_cases h : a = b
  · subst h; simp
  · rw [decide_eq_false h, beq_eq_false_iff_ne]; omega
theorem seek_no {l : List Er} {n : Nat} (h : ∀ x ∈ l, x.k ≠ n) : ∀ i, Instr.findNow (.int .i64) (.int .i64 (n : Int)) (l.map Er.entry) i = some none := by
  induction l with
  | nil => intro i; rfl
  | cons a l ih =>
    intro i
    rw [List.map_cons, Instr.findNow]
    have := numNow n a.k
    rw [decide_eq_false (fun e => h a (by simp) e.symm)] at this
    simp only [Er.entry, this]
    exact ih (fun x hx => h x (by simp [hx])) (i + 1)
theorem seek_yes {a b : List Er} {x : Er} (h : ∀ y ∈ a, y.k ≠ x.k) : ∀ i, Instr.findNow (.int .i64) (.int .i64 (x.k : Int)) ((a ++ x :: b).map Er.entry) i = some (some (i + a.length, .agg #[.string x.b])) := by
  induction a with
  | nil =>
    intro i
    have := numNow x.k x.k
    rw [decide_eq_true rfl] at this
    rw [List.nil_append, List.map_cons, Instr.findNow]
    simp only [Er.entry, this]
    rfl
  | cons y a ih =>
    intro i
    have := numNow x.k y.k
    rw [decide_eq_false (fun e => h y (by simp) e.symm)] at this
    rw [List.cons_append, List.map_cons, Instr.findNow]
    simp only [Er.entry, this]
    rw [ih (fun z hz => h z (by simp [hz])) (i + 1), List.length_cons]
    congr 3
    omega
theorem valR_none {l : List Er} {n : Nat} (h : valR l n = none) : ∀ x ∈ l, x.k ≠ n := fun x hx e => by
  unfold valR at h
  rw [Option.map_eq_none_iff, List.find?_eq_none] at h
  exact h x hx (by simpa using e)
theorem valR_some {l : List Er} {n : Nat} {b : ByteArray} (hn : (l.map Er.k).Nodup) (h : valR l n = some b) : ∃ a c x, l = a ++ x :: c ∧ x.k = n ∧ x.b = b ∧ (∀ y ∈ a, y.k ≠ n) ∧ ∀ y ∈ c, y.k ≠ n := by
  unfold valR at h
  rw [Option.map_eq_some_iff] at h
  obtain ⟨x, h1, rfl⟩ := h
  obtain ⟨h2, a, c, rfl, h3⟩ := List.find?_eq_some_iff_append.1 h1
  have hk : x.k = n := by simpa using h2
  rw [List.map_append, List.map_cons, List.nodup_append, List.nodup_cons] at hn
  refine ⟨a, c, x, rfl, hk, rfl, fun y hy => by simpa using h3 y hy, fun y hy e => hn.2.1.1 ?_⟩
  rw [hk, ← e]
  exact List.mem_map.2 ⟨y, hy, rfl⟩
theorem checkInt (n : Nat) (c : Bool) (w : World) : (Instr.checkKey c 10000 3 (.int .i64 (n : Int))).run Try.prog w = .ok () w :=
  MapKept.run_checkKey Try.underlying3 (by simp [MapKept.IsKey]) c 9999
/-- A look-up. -/
theorem MpIs.look {w : World} {q : Nat} {f : Nat → Option ByteArray} (h : MpIs w q f) (n : Nat) :
    (Instr.lookup 61 (.map (some q)) (.int .i64 (n : Int)) true).run Try.prog w = .ok (.tuple #[.agg #[.string ((f n).getD ⟨#[]⟩)], .bool (f n).isSome]) w := by
  obtain ⟨l, c, h1, h2, h3⟩ := h
  have hz : (zeroValue 97).run Try.prog w = .ok (.agg #[.string ⟨#[]⟩]) w := by kernel_rfl
  rw [← h3 n]
  cases hf : valR l n with
  | none =>
    have h4 := MapKept.run_findKey (P := Try.prog) (w := w) Try.underlying3 (seek_no (valR_none hf) 0)
    simp [Instr.lookup, run_underlying Try.underlying61, MapKept.run_getObj_map h1, checkInt, h4, hz, Result.andThen]
  | some b =>
    obtain ⟨a, d, x, rfl, rfl, rfl, ha, hb⟩ := valR_some h2 hf
    have h4 := MapKept.run_findKey (P := Try.prog) (w := w) Try.underlying3 (seek_yes (b := d) ha 0)
    simp [Instr.lookup, run_underlying Try.underlying61, MapKept.run_getObj_map h1, checkInt, Result.andThen]
    simp at h4
    simp [h4]
theorem blk_here {w : World} {b : Nat} {o o' : Obj} (hb : w.heap[b]? = some o') : (setBlock w b o).heap[b]? = some o := (MapKept.heap_set hb).1
theorem blk_kp (w : World) (b : Nat) (o : Obj) : Kp [b] w (setBlock w b o) :=
  ⟨rfl, rfl, rfl, by simp [setBlock], fun k _ hk => by
    have : k ≠ b := by simpa using hk
    unfold setBlock
    simp [Ne.symm this]⟩
/-- A store of a text that is not there. -/
theorem MpIs.store {w : World} {q : Nat} {f : Nat → Option ByteArray} (h : MpIs w q f) (n : Nat) (b : ByteArray) (hn : f n = none) :
    ∃ w', (Instr.mapUpdate 61 (.map (some q)) (.int .i64 (n : Int)) (.agg #[.string b])).run Try.prog w = .ok () w' ∧ MpIs w' q (fun m => if m = n then some b else f m) ∧ Kp [q] w w' := by
  obtain ⟨l, c, h1, h2, h3⟩ := h
  have hf : valR l n = none := (h3 n).trans hn
  have hno := valR_none hf
  have h4 := MapKept.run_findKey (P := Try.prog) (w := w) Try.underlying3 (seek_no hno 0)
  refine ⟨setBlock w q (.map ((l.map Er.entry).toArray.push ⟨.int .i64 (n : Int), .agg #[.string b], c⟩) (c + 1)), ?_, ⟨l ++ [⟨n, b, c⟩], c + 1, ?_, ?_, fun m => ?_⟩, blk_kp _ _ _⟩
  · simp [Instr.mapUpdate, run_underlying Try.underlying61, MapKept.run_getObj_map h1, checkInt, h4, MapKept.run_setObj_map _ h1, Result.andThen, setBlock]
  · rw [blk_here h1]
    simp [Er.entry]
  · rw [List.map_append, List.nodup_append]
    refine ⟨h2, by simp, fun a ha d hd => ?_⟩
    obtain ⟨x, hx, rfl⟩ := List.mem_map.1 ha
    simp at hd
    subst hd
    exact hno x hx
  · dsimp only
    rw [← h3 m]
    unfold valR
    rw [List.find?_append]
    by_cases e : m = n
    · subst e
      rw [if_pos rfl, List.find?_eq_none.2 (fun x hx => by simpa using hno x hx)]
      simp
    · rw [if_neg e]
      cases l.find? (fun x => x.k == m) with
      | some y => rfl
      | none => simp [Ne.symm e]
/-- A deletion. -/
theorem MpIs.drop {w : World} {q : Nat} {f : Nat → Option ByteArray} (h : MpIs w q f) (n : Nat) (ty : TypeId) :
    ∃ w', (Builtin.delete_ #[61, 3] ty #[.map (some q), .int .i64 (n : Int)]).run Try.prog w = .ok (.tuple #[]) w' ∧ MpIs w' q (fun m => if m = n then none else f m) ∧ Kp [q] w w' := by
  obtain ⟨l, c, h1, h2, h3⟩ := h
  cases hf : valR l n with
  | none =>
    have hno := valR_none hf
    have h4 := MapKept.run_findKey (P := Try.prog) (w := w) Try.underlying3 (seek_no hno 0)
    refine ⟨setBlock w q (.map (l.map Er.entry).toArray c), ?_, ⟨l, c, blk_here h1, h2, fun m => ?_⟩, blk_kp _ _ _⟩
    · simp [Builtin.delete_, run_underlying Try.underlying61, MapKept.run_getObj_map h1, checkInt, h4, MapKept.run_setObj_map _ h1, Result.andThen, setBlock]
    · dsimp only
      by_cases e : m = n
      · subst e; rw [if_pos rfl, hf]
      · rw [if_neg e, h3 m]
  | some b =>
    obtain ⟨a, d, x, rfl, rfl, rfl, ha, hb⟩ := valR_some h2 hf
    have h4 := MapKept.run_findKey (P := Try.prog) (w := w) Try.underlying3 (seek_yes (b := d) ha 0)
    have hm : (((a ++ x :: d).map Er.entry).toArray).eraseIdxIfInBounds a.length = ((a ++ d).map Er.entry).toArray := by
      unfold Array.eraseIdxIfInBounds
      rw [dif_pos (by simp)]
      apply Array.ext'
      rw [Array.toList_eraseIdx]
      simp [List.eraseIdx_append_of_length_le]
    refine ⟨setBlock w q (.map ((a ++ d).map Er.entry).toArray c), ?_, ⟨a ++ d, c, blk_here h1, ?_, fun m => ?_⟩, blk_kp _ _ _⟩
    · simp [Builtin.delete_, run_underlying Try.underlying61, MapKept.run_getObj_map h1, checkInt, Result.andThen]
      simp at h4 hm
      simp [h4, hm, MapKept.run_setObj_map _ h1, Result.andThen, setBlock]
    · have : (a ++ d).Sublist (a ++ x :: d) := (List.Sublist.refl a).append (List.sublist_cons_self x d)
      exact (this.map _).nodup h2
    · dsimp only
      rw [← h3 m]
      unfold valR
      rw [List.find?_append, List.find?_append, List.find?_cons]
      by_cases e : m = x.k
      · subst e
        rw [if_pos rfl, List.find?_eq_none.2 (fun y hy => by simpa using ha y hy), List.find?_eq_none.2 (fun y hy => by simpa using hb y hy)]
        rfl
      · rw [if_neg e, beq_eq_false_iff_ne.2 (Ne.symm e)]
/-- Texts that came early, in the map. -/
theorem erl_app {l : List (Nat × ByteArray)} {n : Nat} (b : ByteArray) (h : erl l n = none) (m : Nat) : erl (l ++ [(n, b)]) m = if m = n then some b else erl l m := by
  unfold erl at *
  rw [List.find?_append]
  by_cases e : m = n
  · subst e
    rw [if_pos rfl]
    rw [Option.map_eq_none_iff] at h
    rw [h]
    simp
  · rw [if_neg e]
    cases l.find? (fun x => x.1 == m) with
    | some y => rfl
    | none => simp [Ne.symm e]
theorem erl_erd (l : List (Nat × ByteArray)) (n m : Nat) : erl (erd l n) m = if m = n then none else erl l m := by
  unfold erl erd
  by_cases e : m = n
  · subst e
    rw [if_pos rfl, List.find?_eq_none.2 (fun x hx => by simpa using (List.mem_filter.1 hx).2)]
    rfl
  · rw [if_neg e]
    congr 1
    induction l with
    | nil => rfl
    | cons a r ih =>
      rw [List.filter_cons]
      by_cases h1 : a.1 = n
      · rw [if_neg (by simpa using h1), List.find?_cons, beq_eq_false_iff_ne.2 (by omega), ih]
      · rw [if_pos (by simpa using h1), List.find?_cons, List.find?_cons, ih]
end Go.Proofs.Ytiomngpfolkgpaa
