/-
  Maps of texts and slices, of no program: what a look-up, a store, a deletion, a count and a step of a range do.
  The library's contracts at this program, laid by the guide's own tools: how many bits a number has, and a copy of a string.
  Rows of bytes of the call's own; such a row as a string; strings.Clone returns the same bytes.
-/
import Derived.Test.YtboffmbaaokbnaaGreatDoorG01
import Derived.Maps.RangeWalk
import Derived.Maps.OwnSet
import Derived.Shelf.Small.Bits
import Derived.Shelf.Strconv.Itoa0
import Derived.Shelf.LaysM
import Derived.Shelf.Strconv.Clone
import Derived.Shelf.Sort.Plain
import Derived.Shelf.Strings.Prefix
import Derived.Shelf.Slices.In.SortNone
import Derived.Ground.SlbCloneProg
import Derived.Shelf.Bytes.SlClone
import Derived.Test.YtboffmbaaokbnaaGreatDoorProg
import Derived.Test.YtboffmbaaokbnaaGreatDoorChecked
import Derived.WalkLawsBesides
import Derived.Laws.DeepNot64
import Derived.SliceStrings
namespace Go.Proofs.YtboffmbaaokbnaaGreatDoor
open Go.RowKit
open Go.ChangeMaps (setBlock)

/-- A map with these entries lies in block b. -/
structure MapIs (w : World) (b : Nat) (l : List Ent) (clock : Nat) : Prop where
  here : w.heap[b]? = some (.map (l.map Ent.entry).toArray clock)
  nm : (l.map Ent.nm).Nodup
  born : (l.map Ent.born).Nodup
  old : ∀ x ∈ l, x.born < clock
def nilS : Value := .slice none 0 0
def valE (l : List Ent) (s : ByteArray) : Value := match findE l s with | some x => x.v | none => nilS
theorem findNow_no {l : List Ent} {s : ByteArray} (h : ∀ x ∈ l, x.nm ≠ s) : ∀ i, Instr.findNow .string (.string s) (l.map Ent.entry) i = some none := by
  induction l with
  | nil => intro i; rfl
  | cons a l ih =>
    intro i
    have hne : (s == a.nm) = false := by
      rw [Bool.eq_false_iff]
      exact fun e => h a (by simp) ((MapKept.bytes_beq _ _).1 e).symm
    rw [List.map_cons, Instr.findNow]
    simp only [Instr.sameNow, Ent.entry, hne]
    exact ih (fun x hx => h x (by simp [hx])) (i + 1)
theorem findNow_yes {a b : List Ent} {x : Ent} (h : ∀ y ∈ a, y.nm ≠ x.nm) : ∀ i, Instr.findNow .string (.string x.nm) ((a ++ x :: b).map Ent.entry) i = some (some (i + a.length, x.v)) := by
  induction a with
  | nil =>
    intro i
    have : (x.nm == x.nm) = true := (MapKept.bytes_beq _ _).2 rfl
    rw [List.nil_append, List.map_cons, Instr.findNow]
    simp only [Instr.sameNow, Ent.entry, this]
    rfl
  | cons y a ih =>
    intro i
    have hne : (x.nm == y.nm) = false := by
      rw [Bool.eq_false_iff]
      exact fun e => h y (by simp) ((MapKept.bytes_beq _ _).1 e).symm
    rw [List.cons_append, List.map_cons, Instr.findNow]
    simp only [Instr.sameNow, Ent.entry, hne]
    rw [ih (fun z hz => h z (by simp [hz])) (i + 1), List.length_cons]
    congr 3
    omega
section
variable {P : Program} {w : World} {b : Nat} {l : List Ent} {clock : Nat} {t k e : TypeId}
theorem checkStr (hk : P.underlying k = some .string) (s : ByteArray) (c : Bool) (w : World) : (Instr.checkKey c 10000 k (.string s)).run P w = .ok () w :=
  MapKept.run_checkKey hk (by simp [MapKept.IsKey]) c 9999
/-- A look-up. -/
theorem MapIs.look (h : MapIs w b l clock) (ht : P.underlying t = some (.map k e)) (hk : P.underlying k = some .string) (hz : (zeroValue e).run P w = .ok nilS w) (s : ByteArray) (c : Bool) :
    (Instr.lookup t (.map (some b)) (.string s) c).run P w = .ok (if c then .tuple #[valE l s, .bool (findE l s).isSome] else valE l s) w := by
  unfold valE
  cases hf : findE l s with
  | none =>
    have h1 := MapKept.run_findKey (P := P) (w := w) hk (findNow_no (findE_none hf) 0)
    simp [Instr.lookup, run_underlying ht, MapKept.run_getObj_map h.here, checkStr hk, h1, hz, Result.andThen]
  | some x =>
    obtain ⟨hx, rfl⟩ := findE_some hf
    obtain ⟨a, c', rfl, ha, hb⟩ := split_nm h.nm hx
    have h1 := MapKept.run_findKey (P := P) (w := w) hk (findNow_yes (b := c') ha 0)
    simp [Instr.lookup, run_underlying ht, MapKept.run_getObj_map h.here, checkStr hk, Result.andThen]
    simp at h1
    simp [h1]
theorem MapIs.len (h : MapIs w b l clock) (ht : P.underlying t = some (.map k e)) (ty : TypeId) : (Builtin.len_ #[t] ty #[.map (some b)]).run P w = .ok (.int .i64 (l.length : Int)) w := by
  simp [Builtin.len_, run_underlying ht, MapKept.run_getObj_map h.here, Result.andThen, goInt]
theorem MapIs.lt (h : MapIs w b l clock) : b < w.heap.size := (Array.getElem?_eq_some_iff.1 h.here).1
theorem putE_born {l : List Ent} {s : ByteArray} {h : List UInt8} {v : Value} {clock : Nat} (hn : (l.map Ent.nm).Nodup) (hb : (l.map Ent.born).Nodup) (ho : ∀ x ∈ l, x.born < clock) :
    ((putE l s h v clock).map Ent.born).Nodup ∧ ∀ x ∈ putE l s h v clock, x.born < clock + 1 := by
  cases hf : findE l s with
  | none =>
    rw [putE_none hf]
    refine ⟨?_, fun x hx => ?_⟩
    · rw [List.map_append, List.nodup_append]
      refine ⟨hb, by simp, fun a ha c hc => ?_⟩
      obtain ⟨x, hx, rfl⟩ := List.mem_map.1 ha
      simp only [List.map_cons, List.map_nil, List.mem_singleton] at hc
      have := ho x hx
      omega
    · rw [List.mem_append, List.mem_singleton] at hx
      rcases hx with hx | rfl
      · have := ho x hx; omega
      · dsimp only; omega
  | some x0 =>
    obtain ⟨hx, rfl⟩ := findE_some hf
    obtain ⟨a, c, rfl, ha, hb'⟩ := split_nm hn hx
    rw [putE_some ha hb']
    refine ⟨by simpa using hb, fun y hy => ?_⟩
    rw [List.mem_append, List.mem_cons] at hy
    rcases hy with hy | rfl | hy
    · have := ho y (by simp [hy]); omega
    · have := ho x0 hx; dsimp only; omega
    · have := ho y (by simp [hy]); omega
theorem setBlock_here {w : World} {b : Nat} {o o' : Obj} (hb : w.heap[b]? = some o') : (setBlock w b o).heap[b]? = some o := (MapKept.heap_set hb).1
theorem setBlock_far {w : World} {b k : Nat} {o : Obj} (hk : k ≠ b) : (setBlock w b o).heap[k]? = w.heap[k]? := by
  unfold setBlock
  simp [Ne.symm hk]
theorem setBlock_grown (w : World) (b : Nat) (o : Obj) : w.grownBy (setBlock w b o) (some b) :=
  ⟨rfl, rfl, rfl, by simp [setBlock], fun k _ hk => setBlock_far (fun e => hk (by rw [e]))⟩
theorem setBlock_size (w : World) (b : Nat) (o : Obj) : (setBlock w b o).heap.size = w.heap.size := by simp [setBlock]
theorem modify_at (a c : List MapEntry) (y : MapEntry) (f : MapEntry → MapEntry) : (a ++ y :: c).modify a.length f = a ++ f y :: c := by
  induction a with
  | nil => rfl
  | cons z a ih => simpa using ih
/-- A store. -/
theorem MapIs.store (h : MapIs w b l clock) (ht : P.underlying t = some (.map k e)) (hk : P.underlying k = some .string) (s : ByteArray) (v : Value) (d : List UInt8) :
    ∃ w' clock', (Instr.mapUpdate t (.map (some b)) (.string s) v).run P w = .ok () w' ∧ MapIs w' b (putE l s d v clock) clock' ∧ w.grownBy w' (some b) ∧ w'.heap.size = w.heap.size := by
  have hbo := putE_born (s := s) (h := d) (v := v) h.nm h.born h.old
  cases hf : findE l s with
  | none =>
    have h1 := MapKept.run_findKey (P := P) (w := w) hk (findNow_no (findE_none hf) 0)
    refine ⟨setBlock w b (.map ((l.map Ent.entry).toArray.push ⟨.string s, v, clock⟩) (clock + 1)), clock + 1, ?_, ⟨?_, putE_nm h.nm, hbo.1, hbo.2⟩, setBlock_grown _ _ _, setBlock_size _ _ _⟩
    · simp [Instr.mapUpdate, run_underlying ht, MapKept.run_getObj_map h.here, checkStr hk, h1, MapKept.run_setObj_map _ h.here, Result.andThen, setBlock]
    · rw [setBlock_here h.here, putE_none hf]
      simp [Ent.entry]
  | some x =>
    obtain ⟨hx, rfl⟩ := findE_some hf
    obtain ⟨a, c, rfl, ha, hb⟩ := split_nm h.nm hx
    have h1 := MapKept.run_findKey (P := P) (w := w) hk (findNow_yes (b := c) ha 0)
    rw [Nat.zero_add] at h1
    have hst : Instr.sameBits 10000 (.string x.nm) (.string x.nm) = true := by
      unfold Instr.sameBits
      exact (MapKept.bytes_beq _ _).2 rfl
    have hg : (((a ++ x :: c).map Ent.entry).toArray)[a.length]? = some x.entry := by simp
    have hm : ((((a ++ x :: c).map Ent.entry).toArray).modify a.length fun q => { q with key := .string x.nm, val := v }) = ((a ++ ⟨x.nm, d, v, x.born⟩ :: c).map Ent.entry).toArray := by
      apply Array.ext'
      rw [Array.toList_modify, List.map_append, List.map_append, List.map_cons, List.map_cons]
      have := modify_at (a.map Ent.entry) (c.map Ent.entry) x.entry fun q => { q with key := .string x.nm, val := v }
      rw [List.length_map] at this
      exact this
    refine ⟨setBlock w b (.map ((a ++ ⟨x.nm, d, v, x.born⟩ :: c).map Ent.entry).toArray clock), clock, ?_, ⟨?_, putE_nm h.nm, hbo.1, ?_⟩, setBlock_grown _ _ _, setBlock_size _ _ _⟩
    · simp only [Instr.mapUpdate, Sem.run_bind, run_underlying ht, MapKept.run_getObj_map h.here, checkStr hk, Result.andThen, h1, hg, Option.map_some, Option.getD_some, Instr.keyThatStays, Ent.entry, hst, if_true, Sem.run_pure]
      rw [hm, MapKept.run_setObj_map _ h.here]
      rfl
    · rw [setBlock_here h.here, putE_some ha hb]
    · intro y hy
      rw [putE_some ha hb, List.mem_append, List.mem_cons] at hy
      rcases hy with hy | rfl | hy
      · exact h.old y (by simp [hy])
      · exact h.old x hx
      · exact h.old y (by simp [hy])
theorem dropE_split {a c : List Ent} {x : Ent} (ha : ∀ y ∈ a, y.nm ≠ x.nm) (hb : ∀ y ∈ c, y.nm ≠ x.nm) : dropE (a ++ x :: c) x.nm = a ++ c := by
  unfold dropE
  rw [List.filter_append, List.filter_cons_of_neg (by simp), List.filter_eq_self.2 (fun y hy => by simpa using ha y hy), List.filter_eq_self.2 (fun y hy => by simpa using hb y hy)]
/-- A deletion. -/
theorem MapIs.drop (h : MapIs w b l clock) (ht : P.underlying t = some (.map k e)) (hk : P.underlying k = some .string) (s : ByteArray) (ty : TypeId) :
    ∃ w', (Builtin.delete_ #[t, k] ty #[.map (some b), .string s]).run P w = .ok (.tuple #[]) w' ∧ MapIs w' b (dropE l s) clock ∧ w.grownBy w' (some b) ∧ w'.heap.size = w.heap.size := by
  have hs : (dropE l s).Sublist l := List.filter_sublist
  have fin : ∀ w', w'.heap[b]? = some (.map ((dropE l s).map Ent.entry).toArray clock) → MapIs w' b (dropE l s) clock := fun w' hw => ⟨hw, dropE_nm h.nm, (hs.map _).nodup h.born, fun x hx => h.old x (hs.subset hx)⟩
  cases hf : findE l s with
  | none =>
    have h1 := MapKept.run_findKey (P := P) (w := w) hk (findNow_no (findE_none hf) 0)
    have e : dropE l s = l := List.filter_eq_self.2 (fun y hy => by simpa using findE_none hf y hy)
    refine ⟨setBlock w b (.map (l.map Ent.entry).toArray clock), ?_, fin _ (by rw [setBlock_here h.here, e]), setBlock_grown _ _ _, setBlock_size _ _ _⟩
    simp [Builtin.delete_, run_underlying ht, MapKept.run_getObj_map h.here, checkStr hk, h1, MapKept.run_setObj_map _ h.here, Result.andThen, setBlock]
  | some x =>
    obtain ⟨hx, rfl⟩ := findE_some hf
    obtain ⟨a, c, rfl, ha, hb⟩ := split_nm h.nm hx
    have h1 := MapKept.run_findKey (P := P) (w := w) hk (findNow_yes (b := c) ha 0)
    rw [Nat.zero_add] at h1
    have hm : (((a ++ x :: c).map Ent.entry).toArray).eraseIdxIfInBounds a.length = ((a ++ c).map Ent.entry).toArray := by
      unfold Array.eraseIdxIfInBounds
      rw [dif_pos (by simp)]
      apply Array.ext'
      rw [Array.toList_eraseIdx]
      simp [List.eraseIdx_append_of_length_le]
    refine ⟨setBlock w b (.map ((a ++ c).map Ent.entry).toArray clock), ?_, fin _ (by rw [setBlock_here h.here, dropE_split ha hb]), setBlock_grown _ _ _, setBlock_size _ _ _⟩
    simp [Builtin.delete_, run_underlying ht, MapKept.run_getObj_map h.here, checkStr hk, Result.andThen]
    simp at h1 hm
    simp [h1, hm, MapKept.run_setObj_map _ h.here, Result.andThen, setBlock]
theorem MapIs.kept {w' : World} {row : Option Nat} (h : MapIs w b l clock) (hg : w.grownBy w' row) (hne : some b ≠ row) : MapIs w' b l clock := ⟨(hg.block b h.lt hne).trans h.here, h.nm, h.born, h.old⟩
/-- A range over a map, on its way: the entries that are still to come. -/
def RngIs (w : World) (b r : Nat) (l left : List Ent) : Prop :=
  ∃ clock since seen c0, MapIs w b l clock ∧ w.heap[r]? = some (.mapIter (some b) since seen c0) ∧ since ≤ c0 ∧ since ≤ clock ∧ (∀ x ∈ l, x.born < since) ∧ left = l.filter fun x => !seen.contains x.born
theorem RngIs.ne {r : Nat} {left : List Ent} (h : RngIs w b r l left) : r ≠ b := by
  obtain ⟨_, _, _, _, hm, hr, _⟩ := h
  rintro rfl
  rw [hm.here] at hr
  cases hr
theorem RngIs.kept {r : Nat} {left : List Ent} {w' : World} {row : Option Nat} (h : RngIs w b r l left) (hg : w.grownBy w' row) (h1 : some b ≠ row) (h2 : some r ≠ row) : RngIs w' b r l left := by
  obtain ⟨clock, since, seen, c0, hm, hr, q⟩ := h
  exact ⟨clock, since, seen, c0, hm.kept hg h1, (hg.block r (Array.getElem?_eq_some_iff.1 hr).1 h2).trans hr, q⟩
theorem RngIs.map {r : Nat} {left : List Ent} (h : RngIs w b r l left) : ∃ clock, MapIs w b l clock := let ⟨clock, _, _, _, hm, _⟩ := h; ⟨clock, hm⟩
theorem RngIs.sub {r : Nat} {left : List Ent} (h : RngIs w b r l left) : left.Sublist l := by
  obtain ⟨_, _, _, _, _, _, _, _, _, rfl⟩ := h
  exact List.filter_sublist
theorem MapIs.range (h : MapIs w b l clock) (ht : P.underlying t = some (.map k e)) :
    (Instr.range t (.map (some b))).run P w = .ok (.pointer (some ⟨w.heap.size, 0, none⟩)) (w.alloc (.mapIter (some b) clock #[] clock)) ∧ RngIs (w.alloc (.mapIter (some b) clock #[] clock)) b w.heap.size l l := by
  refine ⟨?_, clock, clock, #[], clock, h.kept (World.grownBy_alloc _ _ none) (by simp), heap_alloc_new w _, Nat.le_refl _, Nat.le_refl _, h.old, (List.filter_eq_self.2 (fun x _ => by simp)).symm⟩
  simp [Instr.range, run_underlying ht, MapKept.run_getObj_map h.here, Result.andThen]
theorem RngIs.next {r : Nat} {left : List Ent} (h : RngIs w b r l left) (ty : TypeId) :
    (left = [] ∧ (Instr.next (.pointer (some ⟨r, 0, none⟩)) false ty).run P w = .ok (.tuple #[.bool false]) w) ∨
    ∃ x w', x ∈ left ∧ (Instr.next (.pointer (some ⟨r, 0, none⟩)) false ty).run P w = .ok (.tuple #[.bool true, .string x.nm, x.v]) w' ∧ RngIs w' b r l (left.filter fun y => decide (y.born ≠ x.born)) ∧ (left.filter fun y => decide (y.born ≠ x.born)).length < left.length ∧ w.grownBy w' (some r) ∧ w'.heap.size = w.heap.size ∧
      (Instr.entry (.pointer (some ⟨r, 0, none⟩))).run P w' = .ok (.tuple #[.string x.nm, x.v]) w' := by
  obtain ⟨clock, since, seen, c0, hm, hr, hsc, hsk, hold, rfl⟩ := h
  have hlo : (leftOf (l.map Ent.entry).toArray seen).toList = (l.filter fun x => !seen.contains x.born).map Ent.entry := by
    unfold leftOf
    rw [Array.toList_filter, List.filter_map]
    rfl
  rcases run_next_at (P := P) w ty r b since c0 seen (l.map Ent.entry).toArray clock hr hm.here (fun x hx => by
      obtain ⟨y, hy, rfl⟩ := List.mem_map.1 (by simpa using hx)
      exact hold y hy) hsc with ⟨h0, hrun⟩ | ⟨e0, he0, w1, hw1, hrun⟩
  · left
    refine ⟨?_, hrun⟩
    have : (leftOf (l.map Ent.entry).toArray seen).toList.length = 0 := by rw [Array.length_toList]; exact h0
    rw [hlo, List.length_map] at this
    exact List.eq_nil_of_length_eq_zero this
  · right
    rw [hlo] at he0
    obtain ⟨x, hx, rfl⟩ := List.mem_map.1 he0
    have hr1 : w1.heap[r]? = some (.mapIter (some b) since seen c0) := by rcases hw1 with rfl | rfl <;> exact hr
    have hm1 : MapIs w1 b l clock := by rcases hw1 with rfl | rfl <;> exact ⟨hm.here, hm.nm, hm.born, hm.old⟩
    have hne : b ≠ r := by
      rintro rfl
      rw [hm.here] at hr
      cases hr
    have hg1 : w.grownBy w1 (some r) := by rcases hw1 with rfl | rfl <;> exact ⟨rfl, rfl, rfl, Nat.le_refl _, fun _ _ _ => rfl⟩
    have hg : w.grownBy (setBlock w1 r (.mapIter (some b) since (seen.push x.born) clock)) (some r) := by
      have h2 := setBlock_grown w1 r (.mapIter (some b) since (seen.push x.born) clock)
      exact ⟨h2.os.trans hg1.os, h2.tape.trans hg1.tape, h2.output.trans hg1.output, Nat.le_trans hg1.size h2.size, fun k hk hne => (h2.block k (Nat.lt_of_lt_of_le hk hg1.size) hne).trans (hg1.block k hk hne)⟩
    have hm2 := hm1.kept (setBlock_grown w1 r (.mapIter (some b) since (seen.push x.born) clock)) (by simpa using hne)
    have hfil : (l.filter fun y => !seen.contains y.born).filter (fun y => decide (y.born ≠ x.born)) = l.filter fun y => !(seen.push x.born).contains y.born := by
      rw [List.filter_filter]
      refine List.filter_congr fun y _ => ?_
      rw [Array.contains_push]
      by_cases h1 : y.born = x.born
      · simp [h1]
      · have : (y.born == x.born) = false := by simpa using h1
        simp [h1, this]
    refine ⟨x, _, hx, hrun, ⟨clock, since, seen.push x.born, clock, hm2, setBlock_here hr1, hsk, hsk, hold, hfil⟩, ?_, hg, ?_, ?_⟩
    · refine List.length_filter_lt_length_iff_exists.2 ⟨x, hx, by simp⟩
    · rw [setBlock_size]; rcases hw1 with rfl | rfl <;> rfl
    · exact run_entry_at _ r b since seen (l.map Ent.entry).toArray clock x.entry (setBlock_here hr1) hm2.here (by simp; exact ⟨x, (List.mem_filter.1 hx).1, rfl⟩) (by simpa [Ent.entry, List.map_map, Function.comp_def] using hm.born)
end
end Go.Proofs.YtboffmbaaokbnaaGreatDoor
namespace Go.Proofs
open Go.Shelf
def Tryz.lays128_ren : Go.Shelf.Ren := ⟨fun | 128 => 107 | n => n, fun | 51 => 111 | 3 => 3 | 4 => 4 | 46 => 123 | 5 => 5 | 9 => 9 | n => n, fun | n => n⟩
theorem Tryz.lays128 : Go.Proofs.Lays.n128 Tryz.prog Tryz.lays128_ren := {
  mixed := by kernel_rfl
  f128 := Tryz.func107.trans (congrArg some (by kernel_rfl))
  t3 := Tryz.underlying3
  a3 := Tryz.isAgg3
  z3 := Tryz.sizeOf3
  v3 := Tryz.zeroValue3
  t4 := Tryz.underlying4
  a4 := Tryz.isAgg4
  z4 := Tryz.sizeOf4
  v4 := Tryz.zeroValue4
  t5 := Tryz.underlying5
  a5 := Tryz.isAgg5
  z5 := Tryz.sizeOf5
  v5 := Tryz.zeroValue5
  t9 := Tryz.underlying9
  a9 := Tryz.isAgg9
  z9 := Tryz.sizeOf9
  v9 := Tryz.zeroValue9
  t46 := Tryz.underlying123
  a46 := Tryz.isAgg123
  z46 := Tryz.sizeOf123
  v46 := Tryz.zeroValue123
  t51 := Tryz.underlying111
  a51 := Tryz.isAgg111
  z51 := Tryz.sizeOf111
  v51 := Tryz.zeroValue111 }
theorem Tryz.bits_Len32 (x : Int) (w : World) (h0 : 0 ≤ x) (h1 : x ≤ 4294967295) :
    Calls Tryz.prog 107 #[.int .u32 x] w fun e w' => e = .returned (.int .i64 (Lib.bitLen x.toNat)) ∧ w' = w := Any.bits_Len32 Tryz.lays128 x w h0 h1
def Tryz.lays125_ren : Go.Shelf.Ren := ⟨fun | 125 => 96 | 128 => 107 | 129 => 108 | n => n, fun | 46 => 123 | 3 => 3 | 51 => 111 | 53 => 148 | 4 => 4 | 5 => 5 | 9 => 9 | n => n, fun | n => n⟩
theorem Tryz.lays125 : Go.Proofs.Lays.n125 Tryz.prog Tryz.lays125_ren := {
  mixed := by kernel_rfl
  f125 := Tryz.func96.trans (congrArg some (by kernel_rfl))
  f128 := Tryz.func107.trans (congrArg some (by kernel_rfl))
  f129 := Tryz.func108.trans (congrArg some (by kernel_rfl))
  t3 := Tryz.underlying3
  a3 := Tryz.isAgg3
  z3 := Tryz.sizeOf3
  v3 := Tryz.zeroValue3
  t4 := Tryz.underlying4
  a4 := Tryz.isAgg4
  z4 := Tryz.sizeOf4
  v4 := Tryz.zeroValue4
  t5 := Tryz.underlying5
  a5 := Tryz.isAgg5
  z5 := Tryz.sizeOf5
  v5 := Tryz.zeroValue5
  t9 := Tryz.underlying9
  a9 := Tryz.isAgg9
  z9 := Tryz.sizeOf9
  v9 := Tryz.zeroValue9
  t46 := Tryz.underlying123
  a46 := Tryz.isAgg123
  z46 := Tryz.sizeOf123
  v46 := Tryz.zeroValue123
  t51 := Tryz.underlying111
  a51 := Tryz.isAgg111
  z51 := Tryz.sizeOf111
  v51 := Tryz.zeroValue111
  t53 := Tryz.underlying148
  a53 := Tryz.isAgg148
  z53 := Tryz.sizeOf148
  v53 := Tryz.zeroValue148 }
theorem Tryz.bits_Len (x : Int) (w : World) (h0 : 0 ≤ x) (h1 : x ≤ 18446744073709551615) :
    Calls Tryz.prog 96 #[.int .u64 x] w fun e w' => e = .returned (.int .i64 (Lib.bitLen x.toNat)) ∧ w' = w := Any.bits_Len Tryz.lays125 x w h0 h1
def Tryz.lays129_ren : Go.Shelf.Ren := ⟨fun | 129 => 108 | n => n, fun | 53 => 148 | 3 => 3 | 4 => 4 | 46 => 123 | 5 => 5 | 9 => 9 | n => n, fun | n => n⟩
theorem Tryz.lays129 : Go.Proofs.Lays.n129 Tryz.prog Tryz.lays129_ren := {
  mixed := by kernel_rfl
  f129 := Tryz.func108.trans (congrArg some (by kernel_rfl))
  t3 := Tryz.underlying3
  a3 := Tryz.isAgg3
  z3 := Tryz.sizeOf3
  v3 := Tryz.zeroValue3
  t4 := Tryz.underlying4
  a4 := Tryz.isAgg4
  z4 := Tryz.sizeOf4
  v4 := Tryz.zeroValue4
  t5 := Tryz.underlying5
  a5 := Tryz.isAgg5
  z5 := Tryz.sizeOf5
  v5 := Tryz.zeroValue5
  t9 := Tryz.underlying9
  a9 := Tryz.isAgg9
  z9 := Tryz.sizeOf9
  v9 := Tryz.zeroValue9
  t46 := Tryz.underlying123
  a46 := Tryz.isAgg123
  z46 := Tryz.sizeOf123
  v46 := Tryz.zeroValue123
  t53 := Tryz.underlying148
  a53 := Tryz.isAgg148
  z53 := Tryz.sizeOf148
  v53 := Tryz.zeroValue148 }
theorem Tryz.bits_Len64 (x : Int) (w : World) (h0 : 0 ≤ x) (h1 : x ≤ 18446744073709551615) :
    Calls Tryz.prog 108 #[.int .u64 x] w fun e w' => e = .returned (.int .i64 (Lib.bitLen x.toNat)) ∧ w' = w := Any.bits_Len64 Tryz.lays129 x w h0 h1
def Tryz.laysM316_ren : Go.Shelf.Ren := ⟨fun | 316 => 69 | n => n, fun | 9 => 9 | 3 => 3 | 4 => 4 | 37 => 98 | 0 => 0 | 127 => 122 | 5 => 5 | n => n, fun | n => n⟩
theorem Tryz.laysM316 : Go.Proofs.LaysM.n316 Tryz.prog Tryz.laysM316_ren := {
  mixed := by kernel_rfl
  f316 := Tryz.func69.trans (congrArg some (by kernel_rfl))
  t0 := Tryz.underlying0
  a0 := Tryz.isAgg0
  z0 := Tryz.sizeOf0
  v0 := Tryz.zeroValue0
  t3 := Tryz.underlying3
  a3 := Tryz.isAgg3
  z3 := Tryz.sizeOf3
  v3 := Tryz.zeroValue3
  t4 := Tryz.underlying4
  a4 := Tryz.isAgg4
  z4 := Tryz.sizeOf4
  v4 := Tryz.zeroValue4
  t9 := Tryz.underlying9
  a9 := Tryz.isAgg9
  z9 := Tryz.sizeOf9
  v9 := Tryz.zeroValue9
  t37 := Tryz.underlying98
  a37 := Tryz.isAgg98
  z37 := Tryz.sizeOf98
  v37 := Tryz.zeroValue98
  t127 := Tryz.underlying122
  a127 := Tryz.isAgg122
  z127 := Tryz.sizeOf122
  v127 := Tryz.zeroValue122
  t5 := Tryz.underlying5
  a5 := Tryz.isAgg5
  z5 := Tryz.sizeOf5
  v5 := Tryz.zeroValue5
  i0 := by kernel_rfl
  i3 := by kernel_rfl
  i4 := by kernel_rfl
  i5 := by kernel_rfl
  i9 := by kernel_rfl
  i37 := by kernel_rfl
  i127 := by kernel_rfl }
open Go.RowKit in
theorem Tryz.stringslite_Clone (s : ByteArray) (w : World) (hlim : s.size ≤ 281474976710656) :
    Calls Tryz.prog 69 #[.string s] w fun e w' => e = .returned (.string s) ∧ Below w.heap.size w w' := Any.stringslite_Clone Tryz.laysM316 s w hlim
def Tryz.lays190_ren : Go.Shelf.Ren := ⟨fun | 190 => 89 | 125 => 96 | 258 => 95 | 128 => 107 | 129 => 108 | 302 => 98 | 303 => 99 | 304 => 100 | 305 => 101 | 306 => 102 | 307 => 103 | 308 => 104 | 309 => 105 | 310 => 106 | 333 => 109 | 329 => 110 | 330 => 111 | 334 => 112 | 335 => 113 | 336 => 114 | 344 => 115 | n => n, fun | 31 => 62 | 9 => 9 | 3 => 3 | 46 => 123 | 0 => 0 | 51 => 111 | 53 => 148 | 4 => 4 | 183 => 140 | 182 => 139 | 131 => 144 | 5 => 5 | 218 => 149 | 222 => 153 | 228 => 155 | 229 => 156 | n => n, fun | n => n⟩
theorem Tryz.lays190 : Go.Proofs.Lays.n190 Tryz.prog Tryz.lays190_ren := {
  mixed := by kernel_rfl
  f125 := Tryz.func96.trans (congrArg some (by kernel_rfl))
  f128 := Tryz.func107.trans (congrArg some (by kernel_rfl))
  f129 := Tryz.func108.trans (congrArg some (by kernel_rfl))
  f190 := Tryz.func89.trans (congrArg some (by kernel_rfl))
  f258 := Tryz.func95.trans (congrArg some (by kernel_rfl))
  f302 := Tryz.func98.trans (congrArg some (by kernel_rfl))
  f303 := Tryz.func99.trans (congrArg some (by kernel_rfl))
  f304 := Tryz.func100.trans (congrArg some (by kernel_rfl))
  f305 := Tryz.func101.trans (congrArg some (by kernel_rfl))
  f306 := Tryz.func102.trans (congrArg some (by kernel_rfl))
  f307 := Tryz.func103.trans (congrArg some (by kernel_rfl))
  f308 := Tryz.func104.trans (congrArg some (by kernel_rfl))
  f309 := Tryz.func105.trans (congrArg some (by kernel_rfl))
  f310 := Tryz.func106.trans (congrArg some (by kernel_rfl))
  f329 := Tryz.func110.trans (congrArg some (by kernel_rfl))
  f330 := Tryz.func111.trans (congrArg some (by kernel_rfl))
  f333 := Tryz.func109.trans (congrArg some (by kernel_rfl))
  f334 := Tryz.func112.trans (congrArg some (by kernel_rfl))
  f335 := Tryz.func113.trans (congrArg some (by kernel_rfl))
  f336 := Tryz.func114.trans (congrArg some (by kernel_rfl))
  f344 := Tryz.func115.trans (congrArg some (by kernel_rfl))
  t0 := Tryz.underlying0
  a0 := Tryz.isAgg0
  z0 := Tryz.sizeOf0
  v0 := Tryz.zeroValue0
  t3 := Tryz.underlying3
  a3 := Tryz.isAgg3
  z3 := Tryz.sizeOf3
  v3 := Tryz.zeroValue3
  t4 := Tryz.underlying4
  a4 := Tryz.isAgg4
  z4 := Tryz.sizeOf4
  v4 := Tryz.zeroValue4
  t5 := Tryz.underlying5
  a5 := Tryz.isAgg5
  z5 := Tryz.sizeOf5
  v5 := Tryz.zeroValue5
  t9 := Tryz.underlying9
  a9 := Tryz.isAgg9
  z9 := Tryz.sizeOf9
  v9 := Tryz.zeroValue9
  t31 := Tryz.underlying62
  a31 := Tryz.isAgg62
  z31 := Tryz.sizeOf62
  v31 := Tryz.zeroValue62
  t46 := Tryz.underlying123
  a46 := Tryz.isAgg123
  z46 := Tryz.sizeOf123
  v46 := Tryz.zeroValue123
  t51 := Tryz.underlying111
  a51 := Tryz.isAgg111
  z51 := Tryz.sizeOf111
  v51 := Tryz.zeroValue111
  t53 := Tryz.underlying148
  a53 := Tryz.isAgg148
  z53 := Tryz.sizeOf148
  v53 := Tryz.zeroValue148
  t131 := Tryz.underlying144
  a131 := Tryz.isAgg144
  z131 := Tryz.sizeOf144
  v131 := Tryz.zeroValue144
  t182 := Tryz.underlying139
  a182 := Tryz.isAgg139
  z182 := Tryz.sizeOf139
  v182 := Tryz.zeroValue139
  t183 := Tryz.underlying140
  a183 := Tryz.isAgg140
  z183 := Tryz.sizeOf140
  v183 := Tryz.zeroValue140
  t218 := Tryz.underlying149
  a218 := Tryz.isAgg149
  z218 := Tryz.sizeOf149
  v218 := Tryz.zeroValue149
  t222 := Tryz.underlying153
  a222 := Tryz.isAgg153
  z222 := Tryz.sizeOf153
  v222 := Tryz.zeroValue153
  t228 := Tryz.underlying155
  a228 := Tryz.isAgg155
  z228 := Tryz.sizeOf155
  v228 := Tryz.zeroValue155
  t229 := Tryz.underlying156
  a229 := Tryz.isAgg156
  z229 := Tryz.sizeOf156
  v229 := Tryz.zeroValue156 }
open Go.Sort Go.RowKit in
theorem Tryz.slices_Sort_string (blk off cap : Nat) (ss : List (List UInt8)) (w : World) (hH : Holds encStr w blk off ss.toArray) (hblk : blk < w.heap.size) (hsz : ss.length < 4611686018427387904) :
    Calls Tryz.prog 89 #[.slice (some ⟨blk, off, none⟩) ss.length cap] w fun e w' =>
      e = .returned (.tuple #[]) ∧ ∃ n os, w' = grow (putRow encStr (Sort.ahead w n) blk off (ss.mergeSort fun x y => decide (x ≤ y)).toArray) os := Any.slices_Sort_string Tryz.lays190 blk off cap ss w hH hblk hsz
def Tryz.lays206_ren : Go.Shelf.Ren := ⟨fun | 206 => 97 | n => n, fun | 9 => 9 | 4 => 4 | 3 => 3 | n => n, fun | n => n⟩
theorem Tryz.lays206 : Go.Proofs.Lays.n206 Tryz.prog Tryz.lays206_ren := {
  mixed := by kernel_rfl
  f206 := Tryz.func97.trans (congrArg some (by kernel_rfl))
  t3 := Tryz.underlying3
  a3 := Tryz.isAgg3
  z3 := Tryz.sizeOf3
  v3 := Tryz.zeroValue3
  t4 := Tryz.underlying4
  a4 := Tryz.isAgg4
  z4 := Tryz.sizeOf4
  v4 := Tryz.zeroValue4
  t9 := Tryz.underlying9
  a9 := Tryz.isAgg9
  z9 := Tryz.sizeOf9
  v9 := Tryz.zeroValue9 }
open Go.RowKit Go.Lib in
theorem Tryz.stringslite_HasPrefix (s p : ByteArray) (w : World) :
    Calls Tryz.prog 97 #[.string s, .string p] w fun e w' => e = .returned (.bool (Lib.hasPrefix s.data.toList p.data.toList)) ∧ w' = w := Any.stringslite_HasPrefix Tryz.lays206 s p w
def Tryz.lays99_ren : Go.Shelf.Ren := ⟨fun | 99 => 91 | 206 => 97 | n => n, fun | 9 => 9 | 4 => 4 | 3 => 3 | n => n, fun | n => n⟩
theorem Tryz.lays99 : Go.Proofs.Lays.n99 Tryz.prog Tryz.lays99_ren := {
  mixed := by kernel_rfl
  f99 := Tryz.func91.trans (congrArg some (by kernel_rfl))
  f206 := Tryz.func97.trans (congrArg some (by kernel_rfl))
  t3 := Tryz.underlying3
  a3 := Tryz.isAgg3
  z3 := Tryz.sizeOf3
  v3 := Tryz.zeroValue3
  t4 := Tryz.underlying4
  a4 := Tryz.isAgg4
  z4 := Tryz.sizeOf4
  v4 := Tryz.zeroValue4
  t9 := Tryz.underlying9
  a9 := Tryz.isAgg9
  z9 := Tryz.sizeOf9
  v9 := Tryz.zeroValue9 }
open Go.RowKit Go.Lib in
theorem Tryz.strings_HasPrefix (s p : ByteArray) (w : World) :
    Calls Tryz.prog 91 #[.string s, .string p] w fun e w' => e = .returned (.bool (Lib.hasPrefix s.data.toList p.data.toList)) ∧ w' = w := Any.strings_HasPrefix Tryz.lays99 s p w
open Go.RowKit Go.Sort in
theorem Tryz.slices_Sort_string_none (p : Option Addr) (cap : Nat) (w : World) :
    Calls Tryz.prog 89 #[.slice p 0 cap] w fun e w' => e = .returned (.tuple #[]) ∧ w' = w := Any.slices_Sort_string_none Tryz.lays190 p cap w
def Tryz.laysSlK4_ren : Go.Shelf.Ren := ⟨fun | 4 => 78 | n => n, fun | 22 => 98 | 4 => 4 | 5 => 5 | n => n, fun | n => n⟩
theorem Tryz.laysSlK4 : Go.Proofs.SlLaysK.n4 Tryz.prog Tryz.laysSlK4_ren := {
  mixed := by kernel_rfl
  f4 := Tryz.func78.trans (congrArg some (by kernel_rfl))
  t4 := Tryz.underlying4
  a4 := Tryz.isAgg4
  z4 := Tryz.sizeOf4
  v4 := Tryz.zeroValue4
  t22 := Tryz.underlying98
  a22 := Tryz.isAgg98
  z22 := Tryz.sizeOf98
  v22 := Tryz.zeroValue98
  t5 := Tryz.underlying5
  i5 := by kernel_rfl }
open Go.RowKit Go.Lib in
theorem Tryz.bytes_Clone_at (a : Addr) (n c : Nat) (xs : List Int) (w : World) (hx : xs.length = n) (hbig : n ≤ 140737488355328) (hc : ∀ i, i < n → w.cell? (a.add i) = some (.int .u8 (xs.getD i 0))) :
    Calls Tryz.prog 78 #[.slice (some a) n c] w fun e w' => ∃ v', e = .returned v' ∧ w'.ownsRow w.heap.size 5 1 v' n (xs.map (Value.int .u8)) ∧ v' ≠ .slice none 0 0 ∧ Below w.heap.size w w' := Any.bytes_Clone_at Tryz.laysSlK4 a n c xs w hx hbig hc
open Go.RowKit Go.Lib in
theorem Tryz.bytes_Clone_nil (n c : Nat) (w : World) :
    Calls Tryz.prog 78 #[.slice none n c] w fun e w' => e = .returned (.slice none 0 0) ∧ w' = w := Any.bytes_Clone_nil Tryz.laysSlK4 n c w
end Go.Proofs
namespace Go.Proofs.YtboffmbaaokbnaaGreatDoor
open Go.RowKit

theorem info_u8 : (Tryz.prog.info? 5).map (fun i => (i.zero, i.size, i.bytes)) = some (some (.int .u8 0), 1, 1) := by kernel_rfl
/-- A row of bytes of the call's own. -/
def Owns (B : Nat) (w : World) (v : Value) (l : List UInt8) : Prop := w.ownsRow B 5 1 v l.length (byteC l)
theorem Owns.nil (B : Nat) (w : World) : Owns B w (.slice none 0 0) [] := World.ownsRow_nil _ _ _ _
theorem Owns.alloc {B : Nat} {w : World} {v : Value} {l : List UInt8} (h : Owns B w v l) (o : Obj) : Owns B (w.alloc o) v l := World.ownsRow.alloc h o
theorem Owns.drew {B : Nat} {w : World} {v : Value} {l : List UInt8} (h : Owns B w v l) : Owns B w.drew v l := h
theorem Owns.form {B : Nat} {w : World} {v : Value} {l : List UInt8} (h : Owns B w v l) : ∃ ad cp, v = .slice ad l.length cp := by
  obtain ⟨_, ⟨rfl, h0⟩ | ⟨g, cp, cur, rfl, _⟩⟩ := h
  · exact ⟨_, _, by rw [h0]⟩
  · exact ⟨_, _, rfl⟩
theorem strOf_bytes (l : List UInt8) : strOfNums (l.map fun b => (b.toNat : Int)) = ⟨l.toArray⟩ := by
  unfold strOfNums; congr 1; simp [List.map_map, Function.comp_def]
/-- The row's bytes as a string. -/
theorem Owns.string {B : Nat} {w : World} {v : Value} {l : List UInt8} (h : Owns B w v l) : (convert 98 9 v).run Tryz.prog w = .ok (.string ⟨l.toArray⟩) w := by
  obtain ⟨hl, ⟨rfl, h0⟩ | ⟨g, cp, cur, rfl, hb, hh, r⟩⟩ := id h
  · obtain rfl : l = [] := List.eq_nil_of_length_eq_zero h0
    exact run_convert_bytes_nil w 98 5 Tryz.underlying98 Tryz.underlying5 0 0 9 Tryz.underlying9
  · have := run_convert_bytes_arg (P := Tryz.prog) w 98 5 Tryz.underlying98 Tryz.underlying5 g 0 l.length cp (l.map fun b => (b.toNat : Int)) (by simp) (fun i hi => by
      rw [Nat.zero_add]
      have c := World.ownsRow.cellAt h i (by omega)
      rw [c]
      unfold byteC
      simp [List.getElem?_eq_getElem hi, List.getD]) 9 Tryz.underlying9
    rw [strOf_bytes] at this
    exact this
theorem drop_get (b : ByteArray) (i : Nat) (h : i < b.size) : b.data.toList.drop i = b[i] :: b.data.toList.drop (i + 1) := by
  rw [List.drop_eq_getElem_cons (by simpa using h)]; rfl
theorem take_snoc (s : ByteArray) (k : Nat) (h : k < s.size) : s.data.toList.take (k + 1) = s.data.toList.take k ++ [s[k]] := by
  rw [List.take_succ_eq_append_getElem (by simpa using h)]; rfl
set_option maxHeartbeats 400000 in
theorem clone_any (b : ByteArray) (w : World) (hb : b.size ≤ 281474976710656) :
    Calls Tryz.prog 42 #[.string b] w fun e w' => e = .returned (.string b) ∧ Below w.heap.size w w' := by
  go_enter Tryz.func42, Tryz.ntmps42
  go_wp2_with fail
  refine (Tryz.stringslite_Clone b _ hb).mono ?_
  rintro e w' ⟨rfl, h⟩
  go_wp2
  go_ret
  exact ⟨rfl, h⟩
end Go.Proofs.YtboffmbaaokbnaaGreatDoor
