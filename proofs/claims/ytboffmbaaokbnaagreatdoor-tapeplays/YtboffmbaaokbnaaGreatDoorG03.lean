/-
  Plain facts on worlds: what stays but for some blocks, a block of cells, append to a row of the call's own and where the new row lies. Of no program.
  Rows of bytes of a disk's own, and what stays: a string laid over a row, a string put at a row's end; files that lie in a map.
  A look-up, a store, a deletion, a count and a range's step on a map of texts and slices, at the operation, for the walk.
-/
import Derived.Test.YtboffmbaaokbnaaGreatDoorG01
import Derived.WalkLawsBesides
import Derived.Deep.AppendLies
import Derived.Test.YtboffmbaaokbnaaGreatDoorChecked
import Derived.Test.YtboffmbaaokbnaaGreatDoorG02
import Derived.Lib.BufferWrite
import Derived.Laws.DeepNot64
namespace Go.Proofs.YtboffmbaaokbnaaGreatDoor
open Go.RowKit

/-- What stays: all blocks but some. -/
structure Kp (F : List Nat) (w w' : World) : Prop where
  os : w'.os = w.os
  tape : w'.tape = w.tape
  output : w'.output = w.output
  size : w.heap.size ≤ w'.heap.size
  block : ∀ k, k < w.heap.size → k ∉ F → w'.heap[k]? = w.heap[k]?
theorem Kp.refl (F : List Nat) (w : World) : Kp F w w := ⟨rfl, rfl, rfl, Nat.le_refl _, fun _ _ _ => rfl⟩
theorem Kp.trans {F G : List Nat} {a b c : World} (h : Kp F a b) (k : Kp G b c) (hG : ∀ x ∈ G, x ∈ F ∨ a.heap.size ≤ x) : Kp F a c :=
  ⟨k.os.trans h.os, k.tape.trans h.tape, k.output.trans h.output, Nat.le_trans h.size k.size, fun i hi hn =>
    (k.block i (Nat.lt_of_lt_of_le hi h.size) (fun hm => (hG i hm).elim hn (fun h1 => by omega))).trans (h.block i hi hn)⟩
theorem Kp.mono {F G : List Nat} {a b : World} (h : Kp F a b) (hG : ∀ x ∈ F, x ∈ G) : Kp G a b := ⟨h.os, h.tape, h.output, h.size, fun i hi hn => h.block i hi (fun hm => hn (hG i hm))⟩
theorem Kp.of {w w' : World} {row : Option Nat} (h : w.grownBy w' row) : Kp row.toList w w' := ⟨h.os, h.tape, h.output, h.size, fun i hi hn => h.block i hi (fun e => hn (by rw [← e]; simp))⟩
theorem Kp.alloc (w : World) (o : Obj) : Kp [] w (w.alloc o) := Kp.of (World.grownBy_alloc w o none)
theorem Kp.drew (w : World) : Kp [] w w.drew := ⟨rfl, rfl, rfl, Nat.le_refl _, fun _ _ _ => rfl⟩
theorem Kp.below {F : List Nat} {B : Nat} {w w' : World} (h : Kp F w w') (hB : B ≤ w.heap.size) (hF : ∀ k ∈ F, B ≤ k) : Below B w w' :=
  ⟨h.os, h.tape, h.output, h.size, fun k hk => h.block k (by omega) (fun hm => by have := hF k hm; omega)⟩
theorem Kp.ofBelow {w w' : World} (h : Below w.heap.size w w') : Kp [] w w' := ⟨h.os, h.tape, h.output, h.size, fun k hk _ => h.block k hk⟩
theorem Kp.cell {F : List Nat} {w w' : World} (h : Kp F w w') {p : Addr} {v : Value} (hc : w.cell? p = some v) (hp : p.block ∉ F) : w'.cell? p = some v :=
  (World.cell?_of_block (h.block p.block (World.block_lt_of_cell? w p hc) hp)).trans hc
/-- The box of a change lies there. -/
def CBox (g : Nat) (cs : Array Value) (t : TypeId) (w : World) : Prop := w.heap[g]? = some (.cells cs t (0, 0))
theorem CBox.cell {g : Nat} {cs : Array Value} {t : TypeId} {w : World} (h : CBox g cs t w) {i : Nat} {v : Value} (hv : cs[i]? = some v) : w.cell? ⟨g, i, none⟩ = some v := by
  unfold CBox at h
  simp [World.cell?, h, hv]
theorem CBox.kp {g : Nat} {cs : Array Value} {t : TypeId} {w w' : World} {F : List Nat} (h : CBox g cs t w) (hk : Kp F w w') (hF : g ∉ F) : CBox g cs t w' := (hk.block g (Array.getElem?_eq_some_iff.1 h).1 hF).trans h
theorem CBox.new (w : World) (cs : Array Value) (t : TypeId) : CBox w.heap.size cs t (w.alloc (.cells cs t)) := heap_alloc_new w _
theorem CBox.set {g : Nat} {cs : Array Value} {t : TypeId} {w : World} (h : CBox g cs t w) (i : Nat) (v : Value) : CBox g (cs.setIfInBounds i v) t (w.setCell ⟨g, i, none⟩ v) := by
  unfold CBox at *
  unfold World.setCell
  simp [h, Array.getElem?_modify]
theorem CBox.froz {g : Nat} {cs : Array Value} {t : TypeId} {w : World} (h : CBox g cs t w) (i : Nat) : w.frozen? ⟨g, i, none⟩ = false := by
  unfold CBox at h
  simp [World.frozen?, h]
theorem Kp.set (w : World) (p i : Nat) (v : Value) : Kp [p] w (w.setCell ⟨p, i, none⟩ v) :=
  ⟨rfl, rfl, rfl, by simp [World.setCell], fun k _ hn => Below.heap_setCell _ _ _ _ (by simpa using hn)⟩
theorem Kp.drewQ (w : World) (n : Nat) : Kp [] w (w.drewN n) := ⟨rfl, rfl, rfl, Nat.le_refl _, fun _ _ _ => rfl⟩
/-- append to a row of the call's own, as one step of a statement whose order is drawn; where the new row lies. -/
theorem step_append_lies {P : Program} {ops : Array Oper} {o : Oper} {a : Act} {w : World} {K : Act → World → Prop} {Q : Exit → Act → World → Prop} {E : Prop}
    (hg : o.guard = none) (s x : Operand) (t : TypeId) (hop : o.op = Op.call { callee := Callee.builtin Builtin.append, args := #[s, x], argTypes := #[t, t] })
    (base : Nat) (e : TypeId) (i : TypeInfo) (z : Value) (size bytes : Nat) (h1 : P.underlying t = some (.slice e)) (h2 : P.info? e = some i) (h3 : i.zero = some z) (h4 : i.size = size) (h5 : i.bytes = bytes) (h6 : z.cells.size = size) (h7 : 0 < size)
    (v : Value) (n : Nat) (xs : List Value) (hs : a.eval s = v) (hown : w.ownsRow base e size v n xs)
    (ad : Addr) (m c : Nat) (news : List Value) (hx : a.eval x = .slice (some ad) m c) (hn : news.length = m * size) (hc : ∀ j u, news[j]? = some u → w.cell? (ad.add j) = some u) (h1c : ∀ u ∈ news, u.oneCell' = true) (hm : 0 < m)
    (b1 : n + m ≤ maxLen) (b2 : (n + m) * bytes ≤ 140737488355328) (hb : base ≤ w.heap.size)
    (hK : ∀ g cap w', w'.ownsRow base e size (.slice (some ⟨g, 0, none⟩) (n + m) cap) (n + m) (xs ++ news) → w.grownBy w' v.ownBlock → (v.ownBlock = some g ∨ g = w.heap.size) → K (a.put o.dst (.slice (some ⟨g, 0, none⟩) (n + m) cap)) w') :
    if Region.wanted o (yielded ops a.tmps) = true then Oper.wp P o a w K Q else E := by
  have hw : Region.wanted o (yielded ops a.tmps) = true := by simp [Region.wanted, hg]
  rw [if_pos hw]
  obtain ⟨g, cap, w', hrun, r1, r2, r3, _⟩ := run_append_lies (P := P) (w := w) t o.type base e i z size bytes h1 h2 h3 h4 h5 h6 h7 v n xs hown ad m c news hn hc h1c hm b1 b2 hb _ rfl
  unfold Oper.wp
  simp [execOp, hop, resolve, invoke, builtin, hs, hx, hrun, Result.andThen]
  exact hK g cap w' r1 r2 r3
theorem one_new (w : World) (x : Value) (t : TypeId) : ∀ (j : Nat) (u : Value), [x][j]? = some u → (w.alloc (.cells #[x] t)).cell? ((⟨w.heap.size, 0, none⟩ : Addr).add j) = some u := fun j u hj => by
  match j, hj with
  | 0, hj =>
    simp at hj
    subst hj
    exact (CBox.new w #[x] t).cell rfl
end Go.Proofs.YtboffmbaaokbnaaGreatDoor
namespace Go.Proofs.YtboffmbaaokbnaaGreatDoor
open Go.RowKit

/-- Bytes lie in a slice that has a row of its own. -/
def Row (w : World) (v : Value) (l : List UInt8) : Prop := w.ownsRow 0 5 1 v l.length (byteC l)
theorem Row.nil (w : World) : Row w nilS [] := World.ownsRow_nil _ _ _ _
theorem Row.kept {w w' : World} {v : Value} {l : List UInt8} {row : Option Nat} (h : Row w v l) (hg : w.grownBy w' row) (hne : v.ownBlock = none ∨ v.ownBlock ≠ row) : Row w' v l := World.ownsRow.kept h hg hne
theorem Row.form {w : World} {v : Value} {l : List UInt8} (h : Row w v l) : ∃ ad cap, v = .slice ad l.length cap ∧ l.length ≤ cap ∧ cap ≤ maxLen := by
  obtain ⟨_, ⟨rfl, h0⟩ | ⟨g, cp, cur, rfl, _, _, hn, hm, _⟩⟩ := h
  · exact ⟨_, _, by rw [h0], by omega, by simp⟩
  · exact ⟨_, _, rfl, hn, hm⟩
theorem Row.lt {w : World} {v : Value} {l : List UInt8} (h : Row w v l) {k : Nat} (hk : v.ownBlock = some k) : k < w.heap.size := (World.ownsRow.lt h k hk).2
theorem Row.block {w : World} {v : Value} {l : List UInt8} (h : Row w v l) {k : Nat} (hk : v.ownBlock = some k) : ∃ cur, w.heap[k]? = some (.cells cur 5 (0, 0)) := by
  obtain ⟨_, ⟨rfl, h0⟩ | ⟨g, cp, cur, rfl, _, hh, _⟩⟩ := h
  · simp [Value.ownBlock] at hk
  · simp [Value.ownBlock] at hk
    subst hk
    exact ⟨cur, hh⟩
theorem Row.kp {F : List Nat} {w w' : World} {v : Value} {l : List UInt8} (h : Row w v l) (hk : Kp F w w') (hF : ∀ k, v.ownBlock = some k → k ∉ F) : Row w' v l := by
  obtain ⟨h1, h2 | ⟨g, cp, cur, rfl, hb, hh, r⟩⟩ := h
  · exact ⟨h1, Or.inl h2⟩
  · exact ⟨h1, Or.inr ⟨g, cp, cur, rfl, hb, (hk.block g (Array.getElem?_eq_some_iff.1 hh).1 (hF g rfl)).trans hh, r⟩⟩
theorem MapIs.kp {F : List Nat} {w w' : World} {b : Nat} {l : List Ent} {clock : Nat} (h : MapIs w b l clock) (hk : Kp F w w') (hF : b ∉ F) : MapIs w' b l clock := ⟨(hk.block b h.lt hF).trans h.here, h.nm, h.born, h.old⟩
/-- A string's bytes put at a row's end. -/
theorem appRow {w : World} {v : Value} {l : List UInt8} (h : Row w v l) (s : ByteArray) (ty : TypeId) (hs : l.length + s.size ≤ 140737488355328) :
    ∃ v' w', (Builtin.append_ #[98, 9] ty #[v, .string s]).run Tryz.prog w = .ok v' w' ∧ Row w' v' (l ++ s.data.toList) ∧ w.grownBy w' v.ownBlock ∧ (v'.ownBlock = v.ownBlock ∨ v'.ownBlock = some w.heap.size) := by
  obtain ⟨i0, hi, hz0, hz1, hz2⟩ := info_parts info_u8
  obtain ⟨v', w', hr, h1, h2, h3⟩ := Lib.run_append_own_string (P := Tryz.prog) w 0 98 9 ty 5 i0 Tryz.underlying98 Tryz.underlying9 hi hz0 hz1 hz2 v _ _ h s (by unfold maxLen; omega) hs (Nat.zero_le _)
  have hlen : (l ++ s.data.toList).length = l.length + s.size := by rw [List.length_append, Array.length_toList]; rfl
  have hcs : byteC (l ++ s.data.toList) = byteC l ++ Lib.strCells s := by rw [byteC_append, byteC_str]
  refine ⟨v', w', hr, by unfold Row; rw [hlen, hcs]; exact h1, h2, ?_⟩
  rcases id h with ⟨_, ⟨rfl, h0⟩ | ⟨g, cap, cur, rfl, hbg, hg, hnc, hcm, hcz, htk⟩⟩
  · obtain rfl : l = [] := List.eq_nil_of_length_eq_zero h0
    by_cases hm : s.size = 0
    · rw [h3.2 ⟨rfl, hm⟩]; exact Or.inl rfl
    · have hr' := run_append_nil_string (P := Tryz.prog) w 98 9 ty 5 i0 (.int .u8 0) Tryz.underlying98 Tryz.underlying9 hi hz0 s (by omega) (by simp at hs; omega) (by rw [hz2]; simp at hs; omega)
      rw [hr'] at hr
      injection hr with e1 _
      rw [← e1]; exact Or.inr rfl
  · by_cases hroom : l.length + s.size ≤ cap
    · have hr' := Lib.run_append_room_string (P := Tryz.prog) w 98 9 ty 5 i0 Tryz.underlying98 Tryz.underlying9 hi hz1 g l.length cap cur hg s hroom (by omega)
      rw [hr'] at hr
      injection hr with e1 _
      rw [← e1]; exact Or.inl rfl
    · have hr' := Lib.run_append_grow_string (P := Tryz.prog) w 98 9 ty 5 i0 (.int .u8 0) Tryz.underlying98 Tryz.underlying9 hi hz0 ⟨g, 0, none⟩ l.length cap (byteC l) (by rw [byteC_length, hz1, Nat.mul_one]) (World.ownsRow.cells h (g := g) rfl) s (by omega) (by omega) (by rw [hz2]; exact growslice_fits (by omega) (by omega))
      rw [hr'] at hr
      injection hr with e1 _
      rw [← e1]; exact Or.inr rfl
/-- A slice from a place on. -/
def fromS : Value → Nat → Value
  | .slice ad n cap, pos => .slice (if cap = pos then ad else ad.map (·.add pos)) (n - pos) (cap - pos)
  | v, _ => v
theorem runFrom {w : World} {v : Value} {l : List UInt8} (h : Row w v l) (pos : Nat) (hp : pos ≤ l.length) (W : World) :
    (Instr.slice 98 v (some (.int .i64 (pos : Int))) none none).run Tryz.prog W = .ok (fromS v pos) W := by
  obtain ⟨ad, cap, rfl, hc, _⟩ := h.form
  obtain ⟨i0, hi, hz0, hz1, hz2⟩ := info_parts info_u8
  simp [Instr.slice, run_underlying Tryz.underlying98, Instr.sliceBounds, Instr.sliceBound, asIntOf, sizeOf, typeInfo, hi, hz1, fromS, Result.andThen, hp]
/-- A string laid over a row from a place on, as far as the row goes. -/
theorem copyRow {w : World} {v : Value} {l : List UInt8} (h : Row w v l) (pos : Nat) (hp : pos ≤ l.length) (s : ByteArray) (ty : TypeId) :
    ∃ w', (Builtin.copy_ #[98, 9] ty #[fromS v pos, .string s]).run Tryz.prog w = .ok (.int .i64 ((min s.size (l.length - pos) : Nat) : Int)) w' ∧
      Row w' v (l.take pos ++ s.data.toList.take (min s.size (l.length - pos)) ++ l.drop (pos + min s.size (l.length - pos))) ∧ w.grownBy w' v.ownBlock ∧ w'.heap.size = w.heap.size := by
  obtain ⟨i0, hi, hz0, hz1, hz2⟩ := info_parts info_u8
  have hs1 : (Tryz.prog.info? 5).map (·.size) = some 1 := by rw [hi]; simp [hz1]
  have hsl : s.data.toList.length = s.size := Array.length_toList
  generalize hm : min s.size (l.length - pos) = m
  have hm1 : m ≤ s.size := by omega
  have hm2 : pos + m ≤ l.length := by omega
  have hmin : ∀ d, d = l.length - pos → Nat.min s.size d = m := fun d hd => by rw [hd]; exact hm
  by_cases h0 : m = 0
  · subst h0
    refine ⟨w, ?_, by simpa using h, ⟨rfl, rfl, rfl, Nat.le_refl _, fun _ _ _ => rfl⟩, rfl⟩
    obtain ⟨ad, cap, rfl, hc, _⟩ := h.form
    unfold fromS
    cases hq : (if cap = pos then ad else ad.map (·.add pos)) <;> simp [Builtin.copy_, run_underlying Tryz.underlying98, Builtin.lenOf, Builtin.firstCells, sizeOf, typeInfo, hi, hq, hm, storeCells, Result.andThen, goInt]
  · obtain ⟨_, ⟨rfl, h00⟩ | ⟨g, cap, cur, rfl, hbg, hg, hnc, hcm, hcs, htk⟩⟩ := h
    · omega
    · have hne : cap ≠ pos := by omega
      have hcs' : cur.size = cap := by simpa using hcs
      have htk' : cur.toList.take l.length = byteC l := by simpa using htk
      have hst := run_storeCells_at Tryz.prog g pos 5 (byteC (s.data.toList.take m)) 0 cur w hg (by rw [byteC_length, List.length_take]; omega) (by unfold byteC; intro u hu; obtain ⟨_, _, rfl⟩ := List.mem_map.1 hu; rfl)
      have hlen : (byteC (s.data.toList.take m)).length = m := by rw [byteC_length, List.length_take]; omega
      rw [hlen, Nat.add_zero] at hst
      have hcl : cur.toList.length = cur.size := Array.length_toList
      refine ⟨w.setRow g (cur.toList.take pos ++ byteC (s.data.toList.take m) ++ cur.toList.drop (pos + m)).toArray, ?_, ⟨?_, Or.inr ⟨g, cap, _, ?_, hbg, setRow_heap w g cur _ 5 _ hg, ?_, hcm, ?_, ?_⟩⟩, ⟨rfl, rfl, rfl, by simp, fun k _ hk => setRow_other w g k _ (fun e => hk (by simp [Value.ownBlock, e]))⟩, by simp⟩
      · have ef : fromS (.slice (some ⟨g, 0, none⟩) l.length cap) pos = .slice (some ⟨g, pos, none⟩) (l.length - pos) (cap - pos) := by
          show Value.slice (if cap = pos then some ⟨g, 0, none⟩ else (some (⟨g, 0, none⟩ : Addr)).map (·.add pos)) _ _ = _
          rw [if_neg hne]
          simp [Addr.add]
          omega
        have ec : List.take m (List.map (fun b : UInt8 => Value.int IntKind.u8 (b.toNat : Int)) s.data.toList) = byteC (s.data.toList.take m) := by
          unfold byteC
          rw [List.map_take]
        rw [ef]
        simp [Builtin.copy_, run_underlying Tryz.underlying98, Builtin.lenOf, Builtin.firstCells, sizeOf, typeInfo, hi, hm]
        rw [ec, hst]
        simp [Result.andThen, goInt]
      · rw [byteC_length, Nat.mul_one]
      · have : (l.take pos ++ s.data.toList.take m ++ l.drop (pos + m)).length = l.length := by simp [hsl]; omega
        rw [this]
      · simp [hsl]; omega
      · simp [hlen]; omega
      · have e1 : (l.take pos ++ s.data.toList.take m ++ l.drop (pos + m)).length = l.length := by simp [hsl]; omega
        rw [e1, Nat.mul_one]
        have h1 : cur.toList.take pos = byteC (l.take pos) := by
          have := congrArg (List.take pos) htk'
          rw [List.take_take, Nat.min_eq_left hp] at this
          rw [this]; unfold byteC; rw [List.map_take]
        have h2 : (cur.toList.drop (pos + m)).take (l.length - (pos + m)) = byteC (l.drop (pos + m)) := by
          have := congrArg (List.drop (pos + m)) htk'
          rw [List.drop_take] at this
          rw [this]; unfold byteC; rw [List.map_drop]
        have h3 : (byteC (l.take pos)).length = pos := by rw [byteC_length, List.length_take]; omega
        have q1 : List.take l.length (byteC (l.take pos)) = byteC (l.take pos) := List.take_of_length_le (by rw [h3]; exact hp)
        have q2 : List.take (l.length - pos) (byteC (s.data.toList.take m)) = byteC (s.data.toList.take m) := List.take_of_length_le (by rw [hlen]; omega)
        rw [byteC_append, byteC_append, ← h2, h1, List.append_assoc, List.append_assoc, List.take_append, h3, q1, List.take_append, hlen, q2, Nat.sub_sub]
/-- Files lie in the map of block b, their bytes in rows of their own. -/
def FilesAt (w : World) (b : Nat) (fs : Fs) (L : List Nat) : Prop :=
  ∃ l clock, MapIs w b l clock ∧ (∀ x ∈ l, Row w x.v x.has) ∧ (l.map Ent.p).Perm fs ∧ L = blE l ∧ L.Nodup
theorem blE_row {w : World} {l : List Ent} (hr : ∀ x ∈ l, Row w x.v x.has) {k : Nat} (hk : k ∈ blE l) : k < w.heap.size ∧ ∃ cur, w.heap[k]? = some (.cells cur 5 (0, 0)) := by
  obtain ⟨x, hx, he⟩ := List.mem_filterMap.1 hk
  exact ⟨(hr x hx).lt he, (hr x hx).block he⟩
theorem FilesAt.rows {w : World} {b : Nat} {fs : Fs} {L : List Nat} (h : FilesAt w b fs L) {k : Nat} (hk : k ∈ L) : k < w.heap.size ∧ ∃ cur, w.heap[k]? = some (.cells cur 5 (0, 0)) := by
  obtain ⟨l, clock, hm, hr, hp, rfl, hn⟩ := h
  exact blE_row hr hk
theorem FilesAt.lt {w : World} {b : Nat} {fs : Fs} {L : List Nat} (h : FilesAt w b fs L) : b < w.heap.size := let ⟨_, _, hm, _⟩ := h; hm.lt
theorem FilesAt.nin {w : World} {b : Nat} {fs : Fs} {L : List Nat} (h : FilesAt w b fs L) : b ∉ L := fun hb => by
  obtain ⟨cur, hc⟩ := (h.rows hb).2
  obtain ⟨l, clock, hm, _⟩ := h
  rw [hm.here] at hc
  cases hc
theorem FilesAt.kp {F : List Nat} {w w' : World} {b : Nat} {fs : Fs} {L : List Nat} (h : FilesAt w b fs L) (hk : Kp F w w') (hb : b ∉ F) (hF : ∀ k ∈ L, k ∉ F) : FilesAt w' b fs L := by
  obtain ⟨l, clock, hm, hr, hp, rfl, hn⟩ := h
  exact ⟨l, clock, hm.kp hk hb, fun x hx => (hr x hx).kp hk (fun k he => hF k (blE_mem hx he)), hp, rfl, hn⟩
theorem FilesAt.nodup {w : World} {b : Nat} {fs : Fs} {L : List Nat} (h : FilesAt w b fs L) : (fs.map (·.1)).Nodup := by
  obtain ⟨l, clock, hm, hr, hp, rfl, hn⟩ := h
  exact names_perm hp hm.nm
theorem FilesAt.made (w : World) : FilesAt (w.alloc (.map #[] 0)) w.heap.size [] [] :=
  ⟨[], 0, ⟨heap_alloc_new w _, by simp, by simp, by simp⟩, by simp, by simp, rfl, by simp⟩
/-- The value of a change. -/
def chV : Chg → Value
  | .wr n pos d => .iface 102 (.agg #[.string n, .int .i64 (pos : Int), .string d])
  | .ct n len => .iface 107 (.agg #[.string n, .int .i64 (len : Int)])
  | .rn a b => .iface 128 (.agg #[.string a, .string b])
  | .rm n => .iface 130 (.agg #[.string n])
theorem zero_row (w : World) : (zeroValue 98).run Tryz.prog w = .ok nilS w := by kernel_rfl
end Go.Proofs.YtboffmbaaokbnaaGreatDoor
namespace Go.Proofs.YtboffmbaaokbnaaGreatDoor
open Go.RowKit

/-- The entries but one. -/
def lessE (left : List Ent) (x : Ent) : List Ent := left.filter fun y => decide (y.born ≠ x.born)
section
variable {w : World} {b : Nat} {l : List Ent} {clock : Nat} {ops : Array Oper} {rest : List Oper} {o : Oper} {a : Act} {Q : Exit → Act → World → Prop}
theorem wpList_lookE (hg : o.guard = none) (m x : Operand) (hop : o.op = Op.lookup 43 m x false) (hm : a.eval m = .map (some b)) (h : MapIs w b l clock) (s : ByteArray) (hx : a.eval x = .string s) (v : Value) (hv : valE l s = v)
    (hK : wpList Tryz.prog ops Q rest (a.put o.dst v) w) : wpList Tryz.prog ops Q (o :: rest) a w := by
  refine wpList_plain hg fun K' hK' => ?_
  unfold Oper.wp
  simp [execOp, hop, hm, hx, h.look (P := Tryz.prog) Tryz.underlying43 Tryz.underlying9 (zero_row _) s false, Result.andThen, hv]
  exact hK' _ _ hK
theorem wpList_lookOk (hg : o.guard = none) (m x : Operand) (hop : o.op = Op.lookup 43 m x true) (hm : a.eval m = .map (some b)) (h : MapIs w b l clock) (s : ByteArray) (hx : a.eval x = .string s) (v : Value) (hv : valE l s = v) (f : Bool) (hf : (findE l s).isSome = f)
    (hK : wpList Tryz.prog ops Q rest (a.put o.dst (.tuple #[v, .bool f])) w) : wpList Tryz.prog ops Q (o :: rest) a w := by
  refine wpList_plain hg fun K' hK' => ?_
  unfold Oper.wp
  simp [execOp, hop, hm, hx, h.look (P := Tryz.prog) Tryz.underlying43 Tryz.underlying9 (zero_row _) s true, Result.andThen, hv, hf]
  exact hK' _ _ hK
theorem wpList_delE (hg : o.guard = none) (m x : Operand) (hop : o.op = Op.call { callee := Callee.builtin Builtin.delete, args := #[m, x], argTypes := #[43, 9] }) (hm : a.eval m = .map (some b)) (h : MapIs w b l clock) (s : ByteArray) (hx : a.eval x = .string s)
    (hK : ∀ w', MapIs w' b (dropE l s) clock → w.grownBy w' (some b) → wpList Tryz.prog ops Q rest (a.put o.dst (.tuple #[])) w') : wpList Tryz.prog ops Q (o :: rest) a w := by
  refine wpList_plain hg fun K' hK' => ?_
  obtain ⟨w', hrun, r1, r2, _⟩ := h.drop (P := Tryz.prog) Tryz.underlying43 Tryz.underlying9 s o.type
  unfold Oper.wp
  simp [execOp, hop, resolve, invoke, builtin, hm, hx, hrun, Result.andThen]
  exact hK' _ _ (hK w' r1 r2)
theorem wpList_putE (hg : o.guard = none) (m x y : Operand) (hop : o.op = Op.mapUpdate 43 m x y) (hm : a.eval m = .map (some b)) (h : MapIs w b l clock) (s : ByteArray) (hx : a.eval x = .string s) (v : Value) (hy : a.eval y = v) (d : List UInt8)
    (hK : ∀ w' clock', MapIs w' b (putE l s d v clock) clock' → w.grownBy w' (some b) → wpList Tryz.prog ops Q rest (a.put o.dst undef) w') : wpList Tryz.prog ops Q (o :: rest) a w := by
  refine wpList_plain hg fun K' hK' => ?_
  obtain ⟨w', clock', hrun, r1, r2, _⟩ := h.store (P := Tryz.prog) Tryz.underlying43 Tryz.underlying9 s v d
  unfold Oper.wp
  simp [execOp, hop, hm, hx, hy, hrun, Result.andThen]
  exact hK' _ _ (hK w' clock' r1 r2)
theorem wpList_lenE (hg : o.guard = none) (m : Operand) (hop : o.op = Op.call { callee := Callee.builtin Builtin.len, args := #[m], argTypes := #[43] }) (hm : a.eval m = .map (some b)) (h : MapIs w b l clock)
    (hK : wpList Tryz.prog ops Q rest (a.put o.dst (.int .i64 (l.length : Int))) w) : wpList Tryz.prog ops Q (o :: rest) a w := by
  refine wpList_plain hg fun K' hK' => ?_
  unfold Oper.wp
  simp [execOp, hop, resolve, invoke, builtin, hm, h.len (P := Tryz.prog) Tryz.underlying43 o.type, Result.andThen]
  exact hK' _ _ hK
theorem wpList_rangeE (hg : o.guard = none) (m : Operand) (hop : o.op = Op.range 43 m) (hm : a.eval m = .map (some b)) (h : MapIs w b l clock)
    (hK : ∀ w', RngIs w' b w.heap.size l l → Kp [] w w' → wpList Tryz.prog ops Q rest (a.put o.dst (.pointer (some ⟨w.heap.size, 0, none⟩))) w') : wpList Tryz.prog ops Q (o :: rest) a w := by
  refine wpList_plain hg fun K' hK' => ?_
  obtain ⟨hrun, hr⟩ := h.range (P := Tryz.prog) Tryz.underlying43
  unfold Oper.wp
  simp [execOp, hop, hm, hrun, Result.andThen]
  exact hK' _ _ (hK _ hr (Kp.alloc _ _))
theorem wpList_nextE (hg : o.guard = none) (it : Operand) (hop : o.op = Op.next it false) (r : Nat) (left : List Ent) (hit : a.eval it = .pointer (some ⟨r, 0, none⟩)) (h : RngIs w b r l left)
    (hDone : left = [] → wpList Tryz.prog ops Q rest (a.put o.dst (.tuple #[.bool false])) w)
    (hMore : ∀ x w', x ∈ left → RngIs w' b r l (lessE left x) → (lessE left x).length < left.length → Kp [r] w w' → w'.heap.size = w.heap.size →
      (Instr.entry (.pointer (some ⟨r, 0, none⟩))).run Tryz.prog w' = .ok (.tuple #[.string x.nm, x.v]) w' → wpList Tryz.prog ops Q rest (a.put o.dst (.tuple #[.bool true, .string x.nm, x.v])) w') : wpList Tryz.prog ops Q (o :: rest) a w := by
  refine wpList_plain hg fun K' hK' => ?_
  unfold Oper.wp
  rcases h.next (P := Tryz.prog) o.type with ⟨h0, hrun⟩ | ⟨x, w', hx, hrun, h1, h2, h3, h4, h5⟩
  · simp [execOp, hop, hit, hrun, Result.andThen]
    exact hK' _ _ (hDone h0)
  · simp [execOp, hop, hit, hrun, Result.andThen]
    exact hK' _ _ (hMore x w' hx h1 h2 (Kp.of h3) h4 h5)
end
theorem as_wr_wr (v : Value) (w : World) : (Instr.typeAssert (.iface 102 v) 92 102 true).run Tryz.prog w = .ok (.tuple #[v, .bool true]) w := by kernel_rfl
theorem as_wr_ct (v : Value) (w : World) : (Instr.typeAssert (.iface 102 v) 92 107 true).run Tryz.prog w = .ok (.tuple #[.agg #[.string ⟨#[]⟩, .int .i64 0], .bool false]) w := by kernel_rfl
theorem as_wr_rn (v : Value) (w : World) : (Instr.typeAssert (.iface 102 v) 92 128 true).run Tryz.prog w = .ok (.tuple #[.agg #[.string ⟨#[]⟩, .string ⟨#[]⟩], .bool false]) w := by kernel_rfl
theorem as_wr_rm (v : Value) (w : World) : (Instr.typeAssert (.iface 102 v) 92 130 true).run Tryz.prog w = .ok (.tuple #[.agg #[.string ⟨#[]⟩], .bool false]) w := by kernel_rfl
theorem as_ct_wr (v : Value) (w : World) : (Instr.typeAssert (.iface 107 v) 92 102 true).run Tryz.prog w = .ok (.tuple #[.agg #[.string ⟨#[]⟩, .int .i64 0, .string ⟨#[]⟩], .bool false]) w := by kernel_rfl
theorem as_ct_ct (v : Value) (w : World) : (Instr.typeAssert (.iface 107 v) 92 107 true).run Tryz.prog w = .ok (.tuple #[v, .bool true]) w := by kernel_rfl
theorem as_ct_rn (v : Value) (w : World) : (Instr.typeAssert (.iface 107 v) 92 128 true).run Tryz.prog w = .ok (.tuple #[.agg #[.string ⟨#[]⟩, .string ⟨#[]⟩], .bool false]) w := by kernel_rfl
theorem as_ct_rm (v : Value) (w : World) : (Instr.typeAssert (.iface 107 v) 92 130 true).run Tryz.prog w = .ok (.tuple #[.agg #[.string ⟨#[]⟩], .bool false]) w := by kernel_rfl
theorem as_rn_wr (v : Value) (w : World) : (Instr.typeAssert (.iface 128 v) 92 102 true).run Tryz.prog w = .ok (.tuple #[.agg #[.string ⟨#[]⟩, .int .i64 0, .string ⟨#[]⟩], .bool false]) w := by kernel_rfl
theorem as_rn_ct (v : Value) (w : World) : (Instr.typeAssert (.iface 128 v) 92 107 true).run Tryz.prog w = .ok (.tuple #[.agg #[.string ⟨#[]⟩, .int .i64 0], .bool false]) w := by kernel_rfl
theorem as_rn_rn (v : Value) (w : World) : (Instr.typeAssert (.iface 128 v) 92 128 true).run Tryz.prog w = .ok (.tuple #[v, .bool true]) w := by kernel_rfl
theorem as_rn_rm (v : Value) (w : World) : (Instr.typeAssert (.iface 128 v) 92 130 true).run Tryz.prog w = .ok (.tuple #[.agg #[.string ⟨#[]⟩], .bool false]) w := by kernel_rfl
theorem as_rm_wr (v : Value) (w : World) : (Instr.typeAssert (.iface 130 v) 92 102 true).run Tryz.prog w = .ok (.tuple #[.agg #[.string ⟨#[]⟩, .int .i64 0, .string ⟨#[]⟩], .bool false]) w := by kernel_rfl
theorem as_rm_ct (v : Value) (w : World) : (Instr.typeAssert (.iface 130 v) 92 107 true).run Tryz.prog w = .ok (.tuple #[.agg #[.string ⟨#[]⟩, .int .i64 0], .bool false]) w := by kernel_rfl
theorem as_rm_rn (v : Value) (w : World) : (Instr.typeAssert (.iface 130 v) 92 128 true).run Tryz.prog w = .ok (.tuple #[.agg #[.string ⟨#[]⟩, .string ⟨#[]⟩], .bool false]) w := by kernel_rfl
theorem as_rm_rm (v : Value) (w : World) : (Instr.typeAssert (.iface 130 v) 92 130 true).run Tryz.prog w = .ok (.tuple #[v, .bool true]) w := by kernel_rfl
theorem FilesAt.mk {w : World} {b : Nat} {fs : Fs} {l : List Ent} {clock : Nat} (hm : MapIs w b l clock) (hr : ∀ x ∈ l, Row w x.v x.has) (hp : (l.map Ent.p).Perm fs) (hn : (blE l).Nodup) : FilesAt w b fs (blE l) := ⟨l, clock, hm, hr, hp, rfl, hn⟩
end Go.Proofs.YtboffmbaaokbnaaGreatDoor
