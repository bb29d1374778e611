/-
  append to a row of the call's own, of cells that lie anywhere: what it gives, and where the new row lies. Of no program.
  Maps of texts keyed by numbers: what a look-up, a store and a deletion do.
-/
import Derived.Test.YtjacedlfkimlhaaLk05
import Derived.Laws.AppendOwnNone
import Derived.Test.YtjacedlfkimlhaaChecked
import Derived.Maps.OwnSet
import Derived.Tactics
import Derived.Tactics2
import Derived.Laws.Pointers
import Derived.Deep.QuietTactic
import Derived.BigQuiet
namespace Go.Proofs.Ytjacedlfkimlhaa
open Go.RowKit

theorem run_app_any {P : Program} {w : World} (t ty e : TypeId) (i : TypeInfo) (z : Value) (size bytes : Nat) (h1 : P.underlying t = some (.slice e)) (h2 : P.info? e = some i) (h3 : i.zero = some z) (h4 : i.size = size) (h5 : i.bytes = bytes) (h6 : z.cells.size = size) (h7 : 0 < size)
    {g2 n2 cap2 : Nat} {xs : List Value} (ho : w.ownsRow 0 e size (.slice (some ⟨g2, 0, none⟩) n2 cap2) n2 xs)
    (ad : Option Addr) (m c : Nat) (news : List Value) (hn : news.length = m * size) (hnone : ad = none → m = 0 ∧ c = 0) (hsp : ∀ a, ad = some a → a.spot = none) (hc : ∀ a, ad = some a → ∀ j u, news[j]? = some u → w.cell? (a.add j) = some u) (h1c : ∀ u ∈ news, u.oneCell' = true)
    (b1 : n2 + m ≤ maxLen) (b2 : (n2 + m) * bytes ≤ 140737488355328) :
    ∃ g cap w', (Builtin.append_ #[t, t] ty #[.slice (some ⟨g2, 0, none⟩) n2 cap2, .slice ad m c]).run P w = .ok (.slice (some ⟨g, 0, none⟩) (n2 + m) cap) w' ∧ w'.ownsRow 0 e size (.slice (some ⟨g, 0, none⟩) (n2 + m) cap) (n2 + m) (xs ++ news) ∧ w.grownBy w' (some g2) ∧ (g = g2 ∨ g = w.heap.size) := by
  have hcp : n2 ≤ cap2 := by
    obtain ⟨_, ⟨e, _⟩ | ⟨g, cp, cur, e, _, _, hn, _⟩⟩ := id ho
    · cases e
    · injection e with _ e2 e3; omega
  cases ad with
  | none =>
    obtain ⟨rfl, rfl⟩ := hnone rfl
    obtain rfl : news = [] := List.eq_nil_of_length_eq_zero (by omega)
    exact ⟨g2, cap2, w, by simpa using run_append_owned_none (P := P) (w := w) 0 t ty e i size h1 h2 _ _ _ ho, by simpa using ho, World.grownBy.refl _ _, Or.inl rfl⟩
  | some a =>
    obtain ⟨b, off, spot⟩ := a
    obtain rfl : spot = none := hsp _ rfl
    rcases Nat.eq_zero_or_pos m with h0 | hpos
    · subst h0
      obtain rfl : news = [] := List.eq_nil_of_length_eq_zero (by omega)
      have := run_append_room_cells (P := P) (w := w) t ty e i h1 h2 g2 0 n2 cap2 ⟨b, off, none⟩ 0 c [] (by simp) (fun j u hj => by simp at hj) (fun u hu => by cases hu) (by omega) (fun j hj => absurd hj (by simp)) (fun j hj => absurd hj (by simp))
      exact ⟨g2, cap2, w, by simpa [World.setCells] using this, by simpa using ho, World.grownBy.refl _ _, Or.inl rfl⟩
    · obtain ⟨g3, cap3, w', hr, r1, r2, r3, _⟩ := run_append_lies (P := P) (w := w) t ty 0 e i z size bytes h1 h2 h3 h4 h5 h6 h7 _ _ _ ho ⟨b, off, none⟩ m c news hn (hc _ rfl) h1c hpos b1 b2 (Nat.zero_le _) _ rfl
      refine ⟨g3, cap3, w', hr, r1, r2, ?_⟩
      rcases r3 with r3 | r3
      · exact Or.inl (by simpa [Value.ownBlock] using r3.symm)
      · exact Or.inr r3
/-- The same, as one step of a statement whose order is drawn. -/
theorem step_app_any {P : Program} {ops : Array Oper} {o : Oper} {a : Act} {w : World} {K : Act → World → Prop} {Q : Exit → Act → World → Prop} {E : Prop}
    (hg : o.guard = none) (s x : Operand) (t : TypeId) (hop : o.op = Op.call { callee := Callee.builtin Builtin.append, args := #[s, x], argTypes := #[t, t] })
    (e : TypeId) (i : TypeInfo) (z : Value) (size bytes : Nat) (h1 : P.underlying t = some (.slice e)) (h2 : P.info? e = some i) (h3 : i.zero = some z) (h4 : i.size = size) (h5 : i.bytes = bytes) (h6 : z.cells.size = size) (h7 : 0 < size)
    {g2 n2 cap2 : Nat} {xs : List Value} (hs : a.eval s = .slice (some ⟨g2, 0, none⟩) n2 cap2) (ho : w.ownsRow 0 e size (.slice (some ⟨g2, 0, none⟩) n2 cap2) n2 xs)
    (ad : Option Addr) (m c : Nat) (news : List Value) (hx : a.eval x = .slice ad m c) (hn : news.length = m * size) (hnone : ad = none → m = 0 ∧ c = 0) (hsp : ∀ a, ad = some a → a.spot = none) (hc : ∀ a, ad = some a → ∀ j u, news[j]? = some u → w.cell? (a.add j) = some u) (h1c : ∀ u ∈ news, u.oneCell' = true)
    (b1 : n2 + m ≤ maxLen) (b2 : (n2 + m) * bytes ≤ 140737488355328) (N : Nat) (hN : n2 + m = N)
    (hK : ∀ g cap w', w'.ownsRow 0 e size (.slice (some ⟨g, 0, none⟩) N cap) N (xs ++ news) → w.grownBy w' (some g2) → (g = g2 ∨ g = w.heap.size) → K (a.put o.dst (.slice (some ⟨g, 0, none⟩) N cap)) w') :
    if Region.wanted o (yielded ops a.tmps) = true then Oper.wp P o a w K Q else E := by
  subst hN
  have hw : Region.wanted o (yielded ops a.tmps) = true := by simp [Region.wanted, hg]
  rw [if_pos hw]
  obtain ⟨g, cap, w', hrun, r1, r2, r3⟩ := run_app_any (P := P) (w := w) t o.type e i z size bytes h1 h2 h3 h4 h5 h6 h7 ho ad m c news hn hnone hsp hc h1c b1 b2
  unfold Oper.wp
  simp [execOp, hop, resolve, invoke, builtin, hs, hx, hrun, Result.andThen]
  exact hK g cap w' r1 r2 r3
/-- append, by its run. -/
theorem wpList_app_run {P : Program} {ops : Array Oper} {rest : List Oper} {o : Oper} {a : Act} {w w' : World} {Q : Exit → Act → World → Prop} {v u1 u2 : Value} (hgd : o.guard = none) (s x : Operand) (t : TypeId)
    (ho : o.op = .call { callee := .builtin .append, args := #[s, x], argTypes := #[t, t] }) (hs : a.eval s = u1) (hx : a.eval x = u2) (hr : (Builtin.append_ #[t, t] o.type #[u1, u2]).run P w = .ok v w')
    (h : wpList P ops Q rest (a.put o.dst v) w') : wpList P ops Q (o :: rest) a w :=
  wpList_plain hgd fun _ hK => by
    unfold Oper.wp
    simp [execOp, ho, resolve, invoke, builtin, hs, hx, hr, Result.andThen]
    exact hK _ _ h
/-- What stays while a row of the call's own grows. -/
theorem kp_gr {wx W w5 : World} {g2 : Nat} (hk : Kp [] wx W) (hg : W.grownBy w5 (some g2)) (hle : wx.heap.size ≤ g2) : Kp [] wx w5 := hk.trans (Kp.of hg) (by simp; omega)
end Go.Proofs.Ytjacedlfkimlhaa
namespace Go.Proofs.Ytjacedlfkimlhaa
open Go.RowKit Lk
open Go.ChangeMaps (setBlock)

/-- An entry. -/
structure Er where
  k : Nat
  b : ByteArray
  bn : Nat
def Er.entry (e : Er) : MapEntry := ⟨.int .i64 (e.k : Int), .agg #[.string e.b], e.bn⟩
def valR (l : List Er) (n : Nat) : Option ByteArray := (l.find? fun x => x.k == n).map Er.b
/-- The map has just these texts. -/
def MpIs (w : World) (q : Nat) (f : Nat → Option ByteArray) : Prop := ∃ (l : List Er) (clock : Nat), w.heap[q]? = some (.map (l.map Er.entry).toArray clock) ∧ (l.map Er.k).Nodup ∧ ∀ n, valR l n = f n
theorem MpIs.lt {w : World} {q : Nat} {f : Nat → Option ByteArray} (h : MpIs w q f) : q < w.heap.size := let ⟨_, _, h1, _⟩ := h; (Array.getElem?_eq_some_iff.1 h1).1
theorem MpIs.is {w : World} {q : Nat} {f : Nat → Option ByteArray} (h : MpIs w q f) : ∃ es c, w.heap[q]? = some (.map es c) := let ⟨_, _, h1, _⟩ := h; ⟨_, _, h1⟩
theorem MpIs.kp {F : List Nat} {w w' : World} {q : Nat} {f : Nat → Option ByteArray} (h : MpIs w q f) (hk : Kp F w w') (hF : q ∉ F) : MpIs w' q f := by
  have hlt := h.lt
  obtain ⟨l, c, h1, h2⟩ := h
  exact ⟨l, c, (hk.block q hlt hF).trans h1, h2⟩
theorem MpIs.new (w : World) : MpIs (w.alloc (.map #[] 0)) w.heap.size (fun _ => none) := ⟨[], 0, heap_alloc_new w _, by simp, fun _ => rfl⟩
theorem MpIs.congr {w : World} {q : Nat} {f g : Nat → Option ByteArray} (h : MpIs w q f) (e : ∀ n, f n = g n) : MpIs w q g := by
  obtain ⟨l, c, h1, h2, h3⟩ := h
  exact ⟨l, c, h1, h2, fun n => (h3 n).trans (e n)⟩
theorem numNow (a b : Nat) : Instr.sameNow (.int .i64) (.int .i64 (a : Int)) (.int .i64 (b : Int)) = some (decide (a = b)) := by
  show (if IntKind.i64 = IntKind.i64 then some ((a : Int) == (b : Int)) else none) = _
  rw [if_pos rfl]
  congr 1
  by_cases h : a = b
  · subst h; simp
  · rw [decide_eq_false h, beq_eq_false_iff_ne]; omega
theorem seek_no {l : List Er} {n : Nat} (h : ∀ x ∈ l, x.k ≠ n) : ∀ i, Instr.findNow (.int .i64) (.int .i64 (n : Int)) (l.map Er.entry) i = some none := by
  induction l with
  | nil => intro i; rfl
  | cons a l ih =>
    intro i
    rw [List.map_cons, Instr.findNow]
    have := numNow n a.k
    rw [decide_eq_false (fun e => h a (by simp) e.symm)] at this
    simp only [Er.entry, this]
    exact ih (fun x hx => h x (by simp [hx])) (i + 1)
theorem seek_yes {a b : List Er} {x : Er} (h : ∀ y ∈ a, y.k ≠ x.k) : ∀ i, Instr.findNow (.int .i64) (.int .i64 (x.k : Int)) ((a ++ x :: b).map Er.entry) i = some (some (i + a.length, .agg #[.string x.b])) := by
  induction a with
  | nil =>
    intro i
    have := numNow x.k x.k
    rw [decide_eq_true rfl] at this
    rw [List.nil_append, List.map_cons, Instr.findNow]
    simp only [Er.entry, this]
    rfl
  | cons y a ih =>
    intro i
    have := numNow x.k y.k
    rw [decide_eq_false (fun e => h y (by simp) e.symm)] at this
    rw [List.cons_append, List.map_cons, Instr.findNow]
    simp only [Er.entry, this]
    rw [ih (fun z hz => h z (by simp [hz])) (i + 1), List.length_cons]
    congr 3
    omega
theorem valR_none {l : List Er} {n : Nat} (h : valR l n = none) : ∀ x ∈ l, x.k ≠ n := fun x hx e => by
  unfold valR at h
  rw [Option.map_eq_none_iff, List.find?_eq_none] at h
  exact h x hx (by simpa using e)
theorem valR_some {l : List Er} {n : Nat} {b : ByteArray} (hn : (l.map Er.k).Nodup) (h : valR l n = some b) : ∃ a c x, l = a ++ x :: c ∧ x.k = n ∧ x.b = b ∧ (∀ y ∈ a, y.k ≠ n) ∧ ∀ y ∈ c, y.k ≠ n := by
  unfold valR at h
  rw [Option.map_eq_some_iff] at h
  obtain ⟨x, h1, rfl⟩ := h
  obtain ⟨h2, a, c, rfl, h3⟩ := List.find?_eq_some_iff_append.1 h1
  have hk : x.k = n := by simpa using h2
  rw [List.map_append, List.map_cons, List.nodup_append, List.nodup_cons] at hn
  refine ⟨a, c, x, rfl, hk, rfl, fun y hy => by simpa using h3 y hy, fun y hy e => hn.2.1.1 ?_⟩
  rw [hk, ← e]
  exact List.mem_map.2 ⟨y, hy, rfl⟩
theorem checkInt (n : Nat) (c : Bool) (w : World) : (Instr.checkKey c 10000 3 (.int .i64 (n : Int))).run Try.prog w = .ok () w :=
  MapKept.run_checkKey Try.underlying3 (by simp [MapKept.IsKey]) c 9999
/-- A look-up. -/
theorem MpIs.look {w : World} {q : Nat} {f : Nat → Option ByteArray} (h : MpIs w q f) (n : Nat) :
    (Instr.lookup 66 (.map (some q)) (.int .i64 (n : Int)) true).run Try.prog w = .ok (.tuple #[.agg #[.string ((f n).getD ⟨#[]⟩)], .bool (f n).isSome]) w := by
  obtain ⟨l, c, h1, h2, h3⟩ := h
  have hz : (zeroValue 102).run Try.prog w = .ok (.agg #[.string ⟨#[]⟩]) w := by kernel_rfl
  rw [← h3 n]
  cases hf : valR l n with
  | none =>
    have h4 := MapKept.run_findKey (P := Try.prog) (w := w) Try.underlying3 (seek_no (valR_none hf) 0)
    simp [Instr.lookup, run_underlying Try.underlying66, MapKept.run_getObj_map h1, checkInt, h4, hz, Result.andThen]
  | some b =>
    obtain ⟨a, d, x, rfl, rfl, rfl, ha, hb⟩ := valR_some h2 hf
    have h4 := MapKept.run_findKey (P := Try.prog) (w := w) Try.underlying3 (seek_yes (b := d) ha 0)
    simp [Instr.lookup, run_underlying Try.underlying66, MapKept.run_getObj_map h1, checkInt, Result.andThen]
    simp at h4
    simp [h4]
theorem blk_here {w : World} {b : Nat} {o o' : Obj} (hb : w.heap[b]? = some o') : (setBlock w b o).heap[b]? = some o := (MapKept.heap_set hb).1
theorem blk_kp (w : World) (b : Nat) (o : Obj) : Kp [b] w (setBlock w b o) :=
  ⟨rfl, rfl, rfl, by simp [setBlock], fun k _ hk => by
    have : k ≠ b := by simpa using hk
    unfold setBlock
    simp [Ne.symm this]⟩
/-- A store of a text that is not there. -/
theorem MpIs.store {w : World} {q : Nat} {f : Nat → Option ByteArray} (h : MpIs w q f) (n : Nat) (b : ByteArray) (hn : f n = none) :
    ∃ w', (Instr.mapUpdate 66 (.map (some q)) (.int .i64 (n : Int)) (.agg #[.string b])).run Try.prog w = .ok () w' ∧ MpIs w' q (fun m => if m = n then some b else f m) ∧ Kp [q] w w' := by
  obtain ⟨l, c, h1, h2, h3⟩ := h
  have hf : valR l n = none := (h3 n).trans hn
  have hno := valR_none hf
  have h4 := MapKept.run_findKey (P := Try.prog) (w := w) Try.underlying3 (seek_no hno 0)
  refine ⟨setBlock w q (.map ((l.map Er.entry).toArray.push ⟨.int .i64 (n : Int), .agg #[.string b], c⟩) (c + 1)), ?_, ⟨l ++ [⟨n, b, c⟩], c + 1, ?_, ?_, fun m => ?_⟩, blk_kp _ _ _⟩
  · simp [Instr.mapUpdate, run_underlying Try.underlying66, MapKept.run_getObj_map h1, checkInt, h4, MapKept.run_setObj_map _ h1, Result.andThen, setBlock]
  · rw [blk_here h1]
    simp [Er.entry]
  · rw [List.map_append, List.nodup_append]
    refine ⟨h2, by simp, fun a ha d hd => ?_⟩
    obtain ⟨x, hx, rfl⟩ := List.mem_map.1 ha
    simp at hd
    subst hd
    exact hno x hx
  · dsimp only
    rw [← h3 m]
    unfold valR
    rw [List.find?_append]
    by_cases e : m = n
    · subst e
      rw [if_pos rfl, List.find?_eq_none.2 (fun x hx => by simpa using hno x hx)]
      simp
    · rw [if_neg e]
      cases l.find? (fun x => x.k == m) with
      | some y => rfl
      | none => simp [Ne.symm e]
/-- A deletion. -/
theorem MpIs.drop {w : World} {q : Nat} {f : Nat → Option ByteArray} (h : MpIs w q f) (n : Nat) (ty : TypeId) :
    ∃ w', (Builtin.delete_ #[66, 3] ty #[.map (some q), .int .i64 (n : Int)]).run Try.prog w = .ok (.tuple #[]) w' ∧ MpIs w' q (fun m => if m = n then none else f m) ∧ Kp [q] w w' := by
  obtain ⟨l, c, h1, h2, h3⟩ := h
  cases hf : valR l n with
  | none =>
    have hno := valR_none hf
    have h4 := MapKept.run_findKey (P := Try.prog) (w := w) Try.underlying3 (seek_no hno 0)
    refine ⟨setBlock w q (.map (l.map Er.entry).toArray c), ?_, ⟨l, c, blk_here h1, h2, fun m => ?_⟩, blk_kp _ _ _⟩
    · simp [Builtin.delete_, run_underlying Try.underlying66, MapKept.run_getObj_map h1, checkInt, h4, MapKept.run_setObj_map _ h1, Result.andThen, setBlock]
    · dsimp only
      by_cases e : m = n
      · subst e; rw [if_pos rfl, hf]
      · rw [if_neg e, h3 m]
  | some b =>
    obtain ⟨a, d, x, rfl, rfl, rfl, ha, hb⟩ := valR_some h2 hf
    have h4 := MapKept.run_findKey (P := Try.prog) (w := w) Try.underlying3 (seek_yes (b := d) ha 0)
    have hm : (((a ++ x :: d).map Er.entry).toArray).eraseIdxIfInBounds a.length = ((a ++ d).map Er.entry).toArray := by
      unfold Array.eraseIdxIfInBounds
      rw [dif_pos (by simp)]
      apply Array.ext'
      rw [Array.toList_eraseIdx]
      simp [List.eraseIdx_append_of_length_le]
    refine ⟨setBlock w q (.map ((a ++ d).map Er.entry).toArray c), ?_, ⟨a ++ d, c, blk_here h1, ?_, fun m => ?_⟩, blk_kp _ _ _⟩
    · simp [Builtin.delete_, run_underlying Try.underlying66, MapKept.run_getObj_map h1, checkInt, Result.andThen]
      simp at h4 hm
      simp [h4, hm, MapKept.run_setObj_map _ h1, Result.andThen, setBlock]
    · have : (a ++ d).Sublist (a ++ x :: d) := (List.Sublist.refl a).append (List.sublist_cons_self x d)
      exact (this.map _).nodup h2
    · dsimp only
      rw [← h3 m]
      unfold valR
      rw [List.find?_append, List.find?_append, List.find?_cons]
      by_cases e : m = x.k
      · subst e
        rw [if_pos rfl, List.find?_eq_none.2 (fun y hy => by simpa using ha y hy), List.find?_eq_none.2 (fun y hy => by simpa using hb y hy)]
        rfl
      · rw [if_neg e, beq_eq_false_iff_ne.2 (Ne.symm e)]
/-- Texts that came early, in the map. -/
theorem erl_app {l : List (Nat × ByteArray)} {n : Nat} (b : ByteArray) (h : erl l n = none) (m : Nat) : erl (l ++ [(n, b)]) m = if m = n then some b else erl l m := by
  unfold erl at *
  rw [List.find?_append]
  by_cases e : m = n
  · subst e
    rw [if_pos rfl]
    rw [Option.map_eq_none_iff] at h
    rw [h]
    simp
  · rw [if_neg e]
    cases l.find? (fun x => x.1 == m) with
    | some y => rfl
    | none => simp [Ne.symm e]
theorem erl_erd (l : List (Nat × ByteArray)) (n m : Nat) : erl (erd l n) m = if m = n then none else erl l m := by
  unfold erl erd
  by_cases e : m = n
  · subst e
    rw [if_pos rfl, List.find?_eq_none.2 (fun x hx => by simpa using (List.mem_filter.1 hx).2)]
    rfl
  · rw [if_neg e]
    congr 1
    induction l with
    | nil => rfl
    | cons a r ih =>
      rw [List.filter_cons]
      by_cases h1 : a.1 = n
      · rw [if_neg (by simpa using h1), List.find?_cons, beq_eq_false_iff_ne.2 (by omega), ih]
      · rw [if_pos (by simpa using h1), List.find?_cons, List.find?_cons, ih]
end Go.Proofs.Ytjacedlfkimlhaa
