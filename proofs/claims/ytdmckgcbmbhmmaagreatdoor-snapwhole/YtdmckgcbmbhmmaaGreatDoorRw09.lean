/-
  Maps of texts and slices, of no program: what a look-up, a store, a deletion, a count and a step of a range do.
  Plain facts on worlds: what stays but for some blocks, a block of cells, append to a row of the call's own and where the new row lies. Of no program.
-/
import Derived.Test.YtdmckgcbmbhmmaaGreatDoorRw08
import Derived.Maps.RangeWalk
import Derived.Maps.OwnSet
import Derived.Test.YtdmckgcbmbhmmaaGreatDoorRw01
import Derived.WalkLawsBesides
import Derived.Deep.AppendLies
namespace Go.Proofs.YtdmckgcbmbhmmaaGreatDoor
open Go.RowKit
open Go.ChangeMaps (setBlock)

/-- A map with these entries lies in block b. -/
structure MapIs (w : World) (b : Nat) (l : List Ent) (clock : Nat) : Prop where
  here : w.heap[b]? = some (.map (l.map Ent.entry).toArray clock)
  nm : (l.map Ent.nm).Nodup
  born : (l.map Ent.born).Nodup
  old : ∀ x ∈ l, x.born < clock
def nilS : Value := .slice none 0 0
def valE (l : List Ent) (s : ByteArray) : Value := match findE l s with | some x => x.v | none => nilS
theorem findNow_no {l : List Ent} {s : ByteArray} (h : ∀ x ∈ l, x.nm ≠ s) : ∀ i, Instr.findNow .string (.string s) (l.map Ent.entry) i = some none := by
  induction l with
  | nil => intro i; rfl
  | cons a l ih =>
    intro i
    have hne : (s == a.nm) = false := by
      rw [Bool.eq_false_iff]
      exact fun e => h a (by simp) ((MapKept.bytes_beq _ _).1 e).symm
    rw [List.map_cons, Instr.findNow]
    simp only [Instr.sameNow, Ent.entry, hne]
    exact ih (fun x hx => h x (by simp [hx])) (i + 1)
theorem findNow_yes {a b : List Ent} {x : Ent} (h : ∀ y ∈ a, y.nm ≠ x.nm) : ∀ i, Instr.findNow .string (.string x.nm) ((a ++ x :: b).map Ent.entry) i = some (some (i + a.length, x.v)) := by
  induction a with
  | nil =>
    intro i
    have : (x.nm == x.nm) = true := (MapKept.bytes_beq _ _).2 rfl
    rw [List.nil_append, List.map_cons, Instr.findNow]
    simp only [Instr.sameNow, Ent.entry, this]
    rfl
  | cons y a ih =>
    intro i
    have hne : (x.nm == y.nm) = false := by
      rw [Bool.eq_false_iff]
      exact fun e => h y (by simp) ((MapKept.bytes_beq _ _).1 e).symm
    rw [List.cons_append, List.map_cons, Instr.findNow]
    simp only [Instr.sameNow, Ent.entry, hne]
    rw [ih (fun z hz => h z (by simp [hz])) (i + 1), List.length_cons]
    congr 3
    omega
section
variable {P : Program} {w : World} {b : Nat} {l : List Ent} {clock : Nat} {t k e : TypeId}
theorem checkStr (hk : P.underlying k = some .string) (s : ByteArray) (c : Bool) (w : World) : (Instr.checkKey c 10000 k (.string s)).run P w = .ok () w :=
  MapKept.run_checkKey hk (by simp [MapKept.IsKey]) c 9999
/-- A look-up. -/
theorem MapIs.look (h : MapIs w b l clock) (ht : P.underlying t = some (.map k e)) (hk : P.underlying k = some .string) (hz : (zeroValue e).run P w = .ok nilS w) (s : ByteArray) (c : Bool) :
    (Instr.lookup t (.map (some b)) (.string s) c).run P w = .ok (if c then .tuple #[valE l s, .bool (findE l s).isSome] else valE l s) w := by
  unfold valE
  cases hf : findE l s with
  | none =>
    have h1 := MapKept.run_findKey (P := P) (w := w) hk (findNow_no (findE_none hf) 0)
    simp [Instr.lookup, run_underlying ht, MapKept.run_getObj_map h.here, checkStr hk, h1, hz, Result.andThen]
  | some x =>
    obtain ⟨hx, rfl⟩ := findE_some hf
    obtain ⟨a, c', rfl, ha, hb⟩ := split_nm h.nm hx
    have h1 := MapKept.run_findKey (P := P) (w := w) hk (findNow_yes (b := c') ha 0)
    simp [Instr.lookup, run_underlying ht, MapKept.run_getObj_map h.here, checkStr hk, Result.andThen]
    simp at h1
    simp [h1]
theorem MapIs.len (h : MapIs w b l clock) (ht : P.underlying t = some (.map k e)) (ty : TypeId) : (Builtin.len_ #[t] ty #[.map (some b)]).run P w = .ok (.int .i64 (l.length : Int)) w := by
  simp [Builtin.len_, run_underlying ht, MapKept.run_getObj_map h.here, Result.andThen, goInt]
theorem MapIs.lt (h : MapIs w b l clock) : b < w.heap.size := (Array.getElem?_eq_some_iff.1 h.here).1
theorem putE_born {l : List Ent} {s : ByteArray} {h : List UInt8} {v : Value} {clock : Nat} (hn : (l.map Ent.nm).Nodup) (hb : (l.map Ent.born).Nodup) (ho : ∀ x ∈ l, x.born < clock) :
    ((putE l s h v clock).map Ent.born).Nodup ∧ ∀ x ∈ putE l s h v clock, x.born < clock + 1 := by
  cases hf : findE l s with
  | none =>
    rw [putE_none hf]
    refine ⟨?_, fun x hx => ?_⟩
    · rw [List.map_append, List.nodup_append]
      refine ⟨hb, by simp, fun a ha c hc => ?_⟩
      obtain ⟨x, hx, rfl⟩ := List.mem_map.1 ha
      simp only [List.map_cons, List.map_nil, List.mem_singleton] at hc
      have := ho x hx
      omega
    · rw [List.mem_append, List.mem_singleton] at hx
      rcases hx with hx | rfl
      · have := ho x hx; omega
      · dsimp only; omega
  | some x0 =>
    obtain ⟨hx, rfl⟩ := findE_some hf
    obtain ⟨a, c, rfl, ha, hb'⟩ := split_nm hn hx
    rw [putE_some ha hb']
    refine ⟨by simpa using hb, fun y hy => ?_⟩
    rw [List.mem_append, List.mem_cons] at hy
    rcases hy with hy | rfl | hy
    · have := ho y (by simp [hy]); omega
    · have := ho x0 hx; dsimp only; omega
    · have := ho y (by simp [hy]); omega
theorem setBlock_here {w : World} {b : Nat} {o o' : Obj} (hb : w.heap[b]? = some o') : (setBlock w b o).heap[b]? = some o := (MapKept.heap_set hb).1
theorem setBlock_far {w : World} {b k : Nat} {o : Obj} (hk : k ≠ b) : (setBlock w b o).heap[k]? = w.heap[k]? := by
  unfold setBlock
  simp [Ne.symm hk]
theorem setBlock_grown (w : World) (b : Nat) (o : Obj) : w.grownBy (setBlock w b o) (some b) :=
  ⟨rfl, rfl, rfl, by simp [setBlock], fun k _ hk => setBlock_far (fun e => hk (by rw [e]))⟩
theorem setBlock_size (w : World) (b : Nat) (o : Obj) : (setBlock w b o).heap.size = w.heap.size := by simp [setBlock]
theorem modify_at (a c : List MapEntry) (y : MapEntry) (f : MapEntry → MapEntry) : (a ++ y :: c).modify a.length f = a ++ f y :: c := by
  induction a with
  | nil => rfl
  | cons z a ih => simpa using ih
/-- A store. -/
theorem MapIs.store (h : MapIs w b l clock) (ht : P.underlying t = some (.map k e)) (hk : P.underlying k = some .string) (s : ByteArray) (v : Value) (d : List UInt8) :
    ∃ w' clock', (Instr.mapUpdate t (.map (some b)) (.string s) v).run P w = .ok () w' ∧ MapIs w' b (putE l s d v clock) clock' ∧ w.grownBy w' (some b) ∧ w'.heap.size = w.heap.size := by
  have hbo := putE_born (s := s) (h := d) (v := v) h.nm h.born h.old
  cases hf : findE l s with
  | none =>
    have h1 := MapKept.run_findKey (P := P) (w := w) hk (findNow_no (findE_none hf) 0)
    refine ⟨setBlock w b (.map ((l.map Ent.entry).toArray.push ⟨.string s, v, clock⟩) (clock + 1)), clock + 1, ?_, ⟨?_, putE_nm h.nm, hbo.1, hbo.2⟩, setBlock_grown _ _ _, setBlock_size _ _ _⟩
    · simp [Instr.mapUpdate, run_underlying ht, MapKept.run_getObj_map h.here, checkStr hk, h1, MapKept.run_setObj_map _ h.here, Result.andThen, setBlock]
    · rw [setBlock_here h.here, putE_none hf]
      simp [Ent.entry]
  | some x =>
    obtain ⟨hx, rfl⟩ := findE_some hf
    obtain ⟨a, c, rfl, ha, hb⟩ := split_nm h.nm hx
    have h1 := MapKept.run_findKey (P := P) (w := w) hk (findNow_yes (b := c) ha 0)
    rw [Nat.zero_add] at h1
    have hst : Instr.sameBits 10000 (.string x.nm) (.string x.nm) = true := by
      unfold Instr.sameBits
      exact (MapKept.bytes_beq _ _).2 rfl
    have hg : (((a ++ x :: c).map Ent.entry).toArray)[a.length]? = some x.entry := by simp
    have hm : ((((a ++ x :: c).map Ent.entry).toArray).modify a.length fun q => { q with key := .string x.nm, val := v }) = ((a ++ ⟨x.nm, d, v, x.born⟩ :: c).map Ent.entry).toArray := by
      apply Array.ext'
      rw [Array.toList_modify, List.map_append, List.map_append, List.map_cons, List.map_cons]
      have := modify_at (a.map Ent.entry) (c.map Ent.entry) x.entry fun q => { q with key := .string x.nm, val := v }
      rw [List.length_map] at this
      exact this
    refine ⟨setBlock w b (.map ((a ++ ⟨x.nm, d, v, x.born⟩ :: c).map Ent.entry).toArray clock), clock, ?_, ⟨?_, putE_nm h.nm, hbo.1, ?_⟩, setBlock_grown _ _ _, setBlock_size _ _ _⟩
    · simp only [Instr.mapUpdate, Sem.run_bind, run_underlying ht, MapKept.run_getObj_map h.here, checkStr hk, Result.andThen, h1, hg, Option.map_some, Option.getD_some, Instr.keyThatStays, Ent.entry, hst, if_true, Sem.run_pure]
      rw [hm, MapKept.run_setObj_map _ h.here]
      rfl
    · rw [setBlock_here h.here, putE_some ha hb]
    · intro y hy
      rw [putE_some ha hb, List.mem_append, List.mem_cons] at hy
      rcases hy with hy | rfl | hy
      · exact h.old y (by simp [hy])
      · exact h.old x hx
      · exact h.old y (by simp [hy])
theorem dropE_split {a c : List Ent} {x : Ent} (ha : ∀ y ∈ a, y.nm ≠ x.nm) (hb : ∀ y ∈ c, y.nm ≠ x.nm) : dropE (a ++ x :: c) x.nm = a ++ c := by
  unfold dropE
  rw [List.filter_append, List.filter_cons_of_neg (by simp), List.filter_eq_self.2 (fun y hy => by simpa using ha y hy), List.filter_eq_self.2 (fun y hy => by simpa using hb y hy)]
/-- A deletion. -/
theorem MapIs.drop (h : MapIs w b l clock) (ht : P.underlying t = some (.map k e)) (hk : P.underlying k = some .string) (s : ByteArray) (ty : TypeId) :
    ∃ w', (Builtin.delete_ #[t, k] ty #[.map (some b), .string s]).run P w = .ok (.tuple #[]) w' ∧ MapIs w' b (dropE l s) clock ∧ w.grownBy w' (some b) ∧ w'.heap.size = w.heap.size := by
  have hs : (dropE l s).Sublist l := List.filter_sublist
  have fin : ∀ w', w'.heap[b]? = some (.map ((dropE l s).map Ent.entry).toArray clock) → MapIs w' b (dropE l s) clock := fun w' hw => ⟨hw, dropE_nm h.nm, (hs.map _).nodup h.born, fun x hx => h.old x (hs.subset hx)⟩
  cases hf : findE l s with
  | none =>
    have h1 := MapKept.run_findKey (P := P) (w := w) hk (findNow_no (findE_none hf) 0)
    have e : dropE l s = l := List.filter_eq_self.2 (fun y hy => by simpa using findE_none hf y hy)
    refine ⟨setBlock w b (.map (l.map Ent.entry).toArray clock), ?_, fin _ (by rw [setBlock_here h.here, e]), setBlock_grown _ _ _, setBlock_size _ _ _⟩
    simp [Builtin.delete_, run_underlying ht, MapKept.run_getObj_map h.here, checkStr hk, h1, MapKept.run_setObj_map _ h.here, Result.andThen, setBlock]
  | some x =>
    obtain ⟨hx, rfl⟩ := findE_some hf
    obtain ⟨a, c, rfl, ha, hb⟩ := split_nm h.nm hx
    have h1 := MapKept.run_findKey (P := P) (w := w) hk (findNow_yes (b := c) ha 0)
    rw [Nat.zero_add] at h1
    have hm : (((a ++ x :: c).map Ent.entry).toArray).eraseIdxIfInBounds a.length = ((a ++ c).map Ent.entry).toArray := by
      unfold Array.eraseIdxIfInBounds
      rw [dif_pos (by simp)]
      apply Array.ext'
      rw [Array.toList_eraseIdx]
      simp [List.eraseIdx_append_of_length_le]
    refine ⟨setBlock w b (.map ((a ++ c).map Ent.entry).toArray clock), ?_, fin _ (by rw [setBlock_here h.here, dropE_split ha hb]), setBlock_grown _ _ _, setBlock_size _ _ _⟩
    simp [Builtin.delete_, run_underlying ht, MapKept.run_getObj_map h.here, checkStr hk, Result.andThen]
    simp at h1 hm
    simp [h1, hm, MapKept.run_setObj_map _ h.here, Result.andThen, setBlock]
theorem MapIs.kept {w' : World} {row : Option Nat} (h : MapIs w b l clock) (hg : w.grownBy w' row) (hne : some b ≠ row) : MapIs w' b l clock := ⟨(hg.block b h.lt hne).trans h.here, h.nm, h.born, h.old⟩
/-- A range over a map, on its way: the entries that are still to come. -/
def RngIs (w : World) (b r : Nat) (l left : List Ent) : Prop :=
  ∃ clock since seen c0, MapIs w b l clock ∧ w.heap[r]? = some (.mapIter (some b) since seen c0) ∧ since ≤ c0 ∧ since ≤ clock ∧ (∀ x ∈ l, x.born < since) ∧ left = l.filter fun x => !seen.contains x.born
theorem RngIs.ne {r : Nat} {left : List Ent} (h : RngIs w b r l left) : r ≠ b := by
  obtain ⟨_, _, _, _, hm, hr, _⟩ := h
  rintro rfl
  rw [hm.here] at hr
  cases hr
theorem RngIs.kept {r : Nat} {left : List Ent} {w' : World} {row : Option Nat} (h : RngIs w b r l left) (hg : w.grownBy w' row) (h1 : some b ≠ row) (h2 : some r ≠ row) : RngIs w' b r l left := by
  obtain ⟨clock, since, seen, c0, hm, hr, q⟩ := h
  exact ⟨clock, since, seen, c0, hm.kept hg h1, (hg.block r (Array.getElem?_eq_some_iff.1 hr).1 h2).trans hr, q⟩
theorem RngIs.map {r : Nat} {left : List Ent} (h : RngIs w b r l left) : ∃ clock, MapIs w b l clock := let ⟨clock, _, _, _, hm, _⟩ := h; ⟨clock, hm⟩
theorem RngIs.sub {r : Nat} {left : List Ent} (h : RngIs w b r l left) : left.Sublist l := by
  obtain ⟨_, _, _, _, _, _, _, _, _, rfl⟩ := h
  exact List.filter_sublist
theorem MapIs.range (h : MapIs w b l clock) (ht : P.underlying t = some (.map k e)) :
    (Instr.range t (.map (some b))).run P w = .ok (.pointer (some ⟨w.heap.size, 0, none⟩)) (w.alloc (.mapIter (some b) clock #[] clock)) ∧ RngIs (w.alloc (.mapIter (some b) clock #[] clock)) b w.heap.size l l := by
  refine ⟨?_, clock, clock, #[], clock, h.kept (World.grownBy_alloc _ _ none) (by simp), heap_alloc_new w _, Nat.le_refl _, Nat.le_refl _, h.old, (List.filter_eq_self.2 (fun x _ => by simp)).symm⟩
  simp [Instr.range, run_underlying ht, MapKept.run_getObj_map h.here, Result.andThen]
theorem RngIs.next {r : Nat} {left : List Ent} (h : RngIs w b r l left) (ty : TypeId) :
    (left = [] ∧ (Instr.next (.pointer (some ⟨r, 0, none⟩)) false ty).run P w = .ok (.tuple #[.bool false]) w) ∨
    ∃ x w', x ∈ left ∧ (Instr.next (.pointer (some ⟨r, 0, none⟩)) false ty).run P w = .ok (.tuple #[.bool true, .string x.nm, x.v]) w' ∧ RngIs w' b r l (left.filter fun y => decide (y.born ≠ x.born)) ∧ (left.filter fun y => decide (y.born ≠ x.born)).length < left.length ∧ w.grownBy w' (some r) ∧ w'.heap.size = w.heap.size ∧
      (Instr.entry (.pointer (some ⟨r, 0, none⟩))).run P w' = .ok (.tuple #[.string x.nm, x.v]) w' := by
  obtain ⟨clock, since, seen, c0, hm, hr, hsc, hsk, hold, rfl⟩ := h
  have hlo : (leftOf (l.map Ent.entry).toArray seen).toList = (l.filter fun x => !seen.contains x.born).map Ent.entry := by
    unfold leftOf
    rw [Array.toList_filter, List.filter_map]
    rfl
  rcases run_next_at (P := P) w ty r b since c0 seen (l.map Ent.entry).toArray clock hr hm.here (fun x hx => by
      obtain ⟨y, hy, rfl⟩ := List.mem_map.1 (by simpa using hx)
      exact hold y hy) hsc with ⟨h0, hrun⟩ | ⟨e0, he0, w1, hw1, hrun⟩
  · left
    refine ⟨?_, hrun⟩
    have : (leftOf (l.map Ent.entry).toArray seen).toList.length = 0 := by rw [Array.length_toList]; exact h0
    rw [hlo, List.length_map] at this
    exact List.eq_nil_of_length_eq_zero this
  · right
    rw [hlo] at he0
    obtain ⟨x, hx, rfl⟩ := List.mem_map.1 he0
    have hr1 : w1.heap[r]? = some (.mapIter (some b) since seen c0) := by rcases hw1 with rfl | rfl <;> exact hr
    have hm1 : MapIs w1 b l clock := by rcases hw1 with rfl | rfl <;> exact ⟨hm.here, hm.nm, hm.born, hm.old⟩
    have hne : b ≠ r := by
      rintro rfl
      rw [hm.here] at hr
      cases hr
    have hg1 : w.grownBy w1 (some r) := by rcases hw1 with rfl | rfl <;> exact ⟨rfl, rfl, rfl, Nat.le_refl _, fun _ _ _ => rfl⟩
    have hg : w.grownBy (setBlock w1 r (.mapIter (some b) since (seen.push x.born) clock)) (some r) := by
      have h2 := setBlock_grown w1 r (.mapIter (some b) since (seen.push x.born) clock)
      exact ⟨h2.os.trans hg1.os, h2.tape.trans hg1.tape, h2.output.trans hg1.output, Nat.le_trans hg1.size h2.size, fun k hk hne => (h2.block k (Nat.lt_of_lt_of_le hk hg1.size) hne).trans (hg1.block k hk hne)⟩
    have hm2 := hm1.kept (setBlock_grown w1 r (.mapIter (some b) since (seen.push x.born) clock)) (by simpa using hne)
    have hfil : (l.filter fun y => !seen.contains y.born).filter (fun y => decide (y.born ≠ x.born)) = l.filter fun y => !(seen.push x.born).contains y.born := by
      rw [List.filter_filter]
      refine List.filter_congr fun y _ => ?_
      rw [Array.contains_push]
      by_cases h1 : y.born = x.born
      · simp [h1]
      · have : (y.born == x.born) = false := by simpa using h1
        simp [h1, this]
    refine ⟨x, _, hx, hrun, ⟨clock, since, seen.push x.born, clock, hm2, setBlock_here hr1, hsk, hsk, hold, hfil⟩, ?_, hg, ?_, ?_⟩
    · refine List.length_filter_lt_length_iff_exists.2 ⟨x, hx, by simp⟩
    · rw [setBlock_size]; rcases hw1 with rfl | rfl <;> rfl
    · exact run_entry_at _ r b since seen (l.map Ent.entry).toArray clock x.entry (setBlock_here hr1) hm2.here (by simp; exact ⟨x, (List.mem_filter.1 hx).1, rfl⟩) (by simpa [Ent.entry, List.map_map, Function.comp_def] using hm.born)
end
end Go.Proofs.YtdmckgcbmbhmmaaGreatDoor
namespace Go.Proofs.YtdmckgcbmbhmmaaGreatDoor
open Go.RowKit

/-- What stays: all blocks but some. -/
structure Kp (F : List Nat) (w w' : World) : Prop where
  os : w'.os = w.os
  tape : w'.tape = w.tape
  output : w'.output = w.output
  size : w.heap.size ≤ w'.heap.size
  block : ∀ k, k < w.heap.size → k ∉ F → w'.heap[k]? = w.heap[k]?
theorem Kp.refl (F : List Nat) (w : World) : Kp F w w := ⟨rfl, rfl, rfl, Nat.le_refl _, fun _ _ _ => rfl⟩
theorem Kp.trans {F G : List Nat} {a b c : World} (h : Kp F a b) (k : Kp G b c) (hG : ∀ x ∈ G, x ∈ F ∨ a.heap.size ≤ x) : Kp F a c :=
  ⟨k.os.trans h.os, k.tape.trans h.tape, k.output.trans h.output, Nat.le_trans h.size k.size, fun i hi hn =>
    (k.block i (Nat.lt_of_lt_of_le hi h.size) (fun hm => (hG i hm).elim hn (fun h1 => by omega))).trans (h.block i hi hn)⟩
theorem Kp.mono {F G : List Nat} {a b : World} (h : Kp F a b) (hG : ∀ x ∈ F, x ∈ G) : Kp G a b := ⟨h.os, h.tape, h.output, h.size, fun i hi hn => h.block i hi (fun hm => hn (hG i hm))⟩
theorem Kp.of {w w' : World} {row : Option Nat} (h : w.grownBy w' row) : Kp row.toList w w' := ⟨h.os, h.tape, h.output, h.size, fun i hi hn => h.block i hi (fun e => hn (by rw [← e]; simp))⟩
theorem Kp.alloc (w : World) (o : Obj) : Kp [] w (w.alloc o) := Kp.of (World.grownBy_alloc w o none)
theorem Kp.drew (w : World) : Kp [] w w.drew := ⟨rfl, rfl, rfl, Nat.le_refl _, fun _ _ _ => rfl⟩
theorem Kp.below {F : List Nat} {B : Nat} {w w' : World} (h : Kp F w w') (hB : B ≤ w.heap.size) (hF : ∀ k ∈ F, B ≤ k) : Below B w w' :=
  ⟨h.os, h.tape, h.output, h.size, fun k hk => h.block k (by omega) (fun hm => by have := hF k hm; omega)⟩
theorem Kp.ofBelow {w w' : World} (h : Below w.heap.size w w') : Kp [] w w' := ⟨h.os, h.tape, h.output, h.size, fun k hk _ => h.block k hk⟩
theorem Kp.cell {F : List Nat} {w w' : World} (h : Kp F w w') {p : Addr} {v : Value} (hc : w.cell? p = some v) (hp : p.block ∉ F) : w'.cell? p = some v :=
  (World.cell?_of_block (h.block p.block (World.block_lt_of_cell? w p hc) hp)).trans hc
/-- The box of a change lies there. -/
def CBox (g : Nat) (cs : Array Value) (t : TypeId) (w : World) : Prop := w.heap[g]? = some (.cells cs t (0, 0))
theorem CBox.cell {g : Nat} {cs : Array Value} {t : TypeId} {w : World} (h : CBox g cs t w) {i : Nat} {v : Value} (hv : cs[i]? = some v) : w.cell? ⟨g, i, none⟩ = some v := by
  unfold CBox at h
  simp [World.cell?, h, hv]
theorem CBox.kp {g : Nat} {cs : Array Value} {t : TypeId} {w w' : World} {F : List Nat} (h : CBox g cs t w) (hk : Kp F w w') (hF : g ∉ F) : CBox g cs t w' := (hk.block g (Array.getElem?_eq_some_iff.1 h).1 hF).trans h
theorem CBox.new (w : World) (cs : Array Value) (t : TypeId) : CBox w.heap.size cs t (w.alloc (.cells cs t)) := heap_alloc_new w _
theorem CBox.set {g : Nat} {cs : Array Value} {t : TypeId} {w : World} (h : CBox g cs t w) (i : Nat) (v : Value) : CBox g (cs.setIfInBounds i v) t (w.setCell ⟨g, i, none⟩ v) := by
  unfold CBox at *
  unfold World.setCell
  simp [h, Array.getElem?_modify]
theorem CBox.froz {g : Nat} {cs : Array Value} {t : TypeId} {w : World} (h : CBox g cs t w) (i : Nat) : w.frozen? ⟨g, i, none⟩ = false := by
  unfold CBox at h
  simp [World.frozen?, h]
theorem Kp.set (w : World) (p i : Nat) (v : Value) : Kp [p] w (w.setCell ⟨p, i, none⟩ v) :=
  ⟨rfl, rfl, rfl, by simp [World.setCell], fun k _ hn => Below.heap_setCell _ _ _ _ (by simpa using hn)⟩
theorem Kp.drewQ (w : World) (n : Nat) : Kp [] w (w.drewN n) := ⟨rfl, rfl, rfl, Nat.le_refl _, fun _ _ _ => rfl⟩
/-- append to a row of the call's own, as one step of a statement whose order is drawn; where the new row lies. -/
theorem step_append_lies {P : Program} {ops : Array Oper} {o : Oper} {a : Act} {w : World} {K : Act → World → Prop} {Q : Exit → Act → World → Prop} {E : Prop}
    (hg : o.guard = none) (s x : Operand) (t : TypeId) (hop : o.op = Op.call { callee := Callee.builtin Builtin.append, args := #[s, x], argTypes := #[t, t] })
    (base : Nat) (e : TypeId) (i : TypeInfo) (z : Value) (size bytes : Nat) (h1 : P.underlying t = some (.slice e)) (h2 : P.info? e = some i) (h3 : i.zero = some z) (h4 : i.size = size) (h5 : i.bytes = bytes) (h6 : z.cells.size = size) (h7 : 0 < size)
    (v : Value) (n : Nat) (xs : List Value) (hs : a.eval s = v) (hown : w.ownsRow base e size v n xs)
    (ad : Addr) (m c : Nat) (news : List Value) (hx : a.eval x = .slice (some ad) m c) (hn : news.length = m * size) (hc : ∀ j u, news[j]? = some u → w.cell? (ad.add j) = some u) (h1c : ∀ u ∈ news, u.oneCell' = true) (hm : 0 < m)
    (b1 : n + m ≤ maxLen) (b2 : (n + m) * bytes ≤ 140737488355328) (hb : base ≤ w.heap.size)
    (hK : ∀ g cap w', w'.ownsRow base e size (.slice (some ⟨g, 0, none⟩) (n + m) cap) (n + m) (xs ++ news) → w.grownBy w' v.ownBlock → (v.ownBlock = some g ∨ g = w.heap.size) → K (a.put o.dst (.slice (some ⟨g, 0, none⟩) (n + m) cap)) w') :
    if Region.wanted o (yielded ops a.tmps) = true then Oper.wp P o a w K Q else E := by
  have hw : Region.wanted o (yielded ops a.tmps) = true := by simp [Region.wanted, hg]
  rw [if_pos hw]
  obtain ⟨g, cap, w', hrun, r1, r2, r3, _⟩ := run_append_lies (P := P) (w := w) t o.type base e i z size bytes h1 h2 h3 h4 h5 h6 h7 v n xs hown ad m c news hn hc h1c hm b1 b2 hb _ rfl
  unfold Oper.wp
  simp [execOp, hop, resolve, invoke, builtin, hs, hx, hrun, Result.andThen]
  exact hK g cap w' r1 r2 r3
theorem one_new (w : World) (x : Value) (t : TypeId) : ∀ (j : Nat) (u : Value), [x][j]? = some u → (w.alloc (.cells #[x] t)).cell? ((⟨w.heap.size, 0, none⟩ : Addr).add j) = some u := fun j u hj => by
  match j, hj with
  | 0, hj =>
    simp at hj
    subst hj
    exact (CBox.new w #[x] t).cell rfl
end Go.Proofs.YtdmckgcbmbhmmaaGreatDoor
