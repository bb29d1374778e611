/-
  Rows of bytes of a disk's own, and what stays: a string laid over a row, a string put at a row's end; files that lie in a map.
  A look-up, a store, a deletion, a count and a range's step on a map of texts and slices, at the operation, for the walk.
-/
import Derived.Test.YtdmckgcbmbhmmaaGreatDoorChecked
import Derived.Test.YtdmckgcbmbhmmaaGreatDoorRw09
import Derived.Test.YtdmckgcbmbhmmaaGreatDoorRw03
import Derived.WalkLawsBesides
import Derived.Lib.BufferWrite
import Derived.Laws.DeepNot64
namespace Go.Proofs.YtdmckgcbmbhmmaaGreatDoor
open Go.RowKit

/-- Bytes lie in a slice that has a row of its own. -/
def Row (w : World) (v : Value) (l : List UInt8) : Prop := w.ownsRow 0 5 1 v l.length (byteC l)
theorem Row.nil (w : World) : Row w nilS [] := World.ownsRow_nil _ _ _ _
theorem Row.kept {w w' : World} {v : Value} {l : List UInt8} {row : Option Nat} (h : Row w v l) (hg : w.grownBy w' row) (hne : v.ownBlock = none ∨ v.ownBlock ≠ row) : Row w' v l := World.ownsRow.kept h hg hne
theorem Row.form {w : World} {v : Value} {l : List UInt8} (h : Row w v l) : ∃ ad cap, v = .slice ad l.length cap ∧ l.length ≤ cap ∧ cap ≤ maxLen := by
  obtain ⟨_, ⟨rfl, h0⟩ | ⟨g, cp, cur, rfl, _, _, hn, hm, _⟩⟩ := h
  · exact ⟨_, _, by rw [h0], by omega, by simp⟩
  · exact ⟨_, _, rfl, hn, hm⟩
theorem Row.lt {w : World} {v : Value} {l : List UInt8} (h : Row w v l) {k : Nat} (hk : v.ownBlock = some k) : k < w.heap.size := (World.ownsRow.lt h k hk).2
theorem Row.block {w : World} {v : Value} {l : List UInt8} (h : Row w v l) {k : Nat} (hk : v.ownBlock = some k) : ∃ cur, w.heap[k]? = some (.cells cur 5 (0, 0)) := by
  obtain ⟨_, ⟨rfl, h0⟩ | ⟨g, cp, cur, rfl, _, hh, _⟩⟩ := h
  · simp [Value.ownBlock] at hk
  · simp [Value.ownBlock] at hk
    subst hk
    exact ⟨cur, hh⟩
theorem Row.kp {F : List Nat} {w w' : World} {v : Value} {l : List UInt8} (h : Row w v l) (hk : Kp F w w') (hF : ∀ k, v.ownBlock = some k → k ∉ F) : Row w' v l := by
  obtain ⟨h1, h2 | ⟨g, cp, cur, rfl, hb, hh, r⟩⟩ := h
  · exact ⟨h1, Or.inl h2⟩
  · exact ⟨h1, Or.inr ⟨g, cp, cur, rfl, hb, (hk.block g (Array.getElem?_eq_some_iff.1 hh).1 (hF g rfl)).trans hh, r⟩⟩
theorem MapIs.kp {F : List Nat} {w w' : World} {b : Nat} {l : List Ent} {clock : Nat} (h : MapIs w b l clock) (hk : Kp F w w') (hF : b ∉ F) : MapIs w' b l clock := ⟨(hk.block b h.lt hF).trans h.here, h.nm, h.born, h.old⟩
/-- A string's bytes put at a row's end. -/
theorem appRow {w : World} {v : Value} {l : List UInt8} (h : Row w v l) (s : ByteArray) (ty : TypeId) (hs : l.length + s.size ≤ 140737488355328) :
    ∃ v' w', (Builtin.append_ #[91, 9] ty #[v, .string s]).run Tryz.prog w = .ok v' w' ∧ Row w' v' (l ++ s.data.toList) ∧ w.grownBy w' v.ownBlock ∧ (v'.ownBlock = v.ownBlock ∨ v'.ownBlock = some w.heap.size) := by
  obtain ⟨i0, hi, hz0, hz1, hz2⟩ := info_parts info_u8
  obtain ⟨v', w', hr, h1, h2, h3⟩ := Lib.run_append_own_string (P := Tryz.prog) w 0 91 9 ty 5 i0 Tryz.underlying91 Tryz.underlying9 hi hz0 hz1 hz2 v _ _ h s (by unfold maxLen; omega) hs (Nat.zero_le _)
  have hlen : (l ++ s.data.toList).length = l.length + s.size := by rw [List.length_append, Array.length_toList]; rfl
  have hcs : byteC (l ++ s.data.toList) = byteC l ++ Lib.strCells s := by rw [byteC_append, byteC_str]
  refine ⟨v', w', hr, by unfold Row; rw [hlen, hcs]; exact h1, h2, ?_⟩
  rcases id h with ⟨_, ⟨rfl, h0⟩ | ⟨g, cap, cur, rfl, hbg, hg, hnc, hcm, hcz, htk⟩⟩
  · obtain rfl : l = [] := List.eq_nil_of_length_eq_zero h0
    by_cases hm : s.size = 0
    · rw [h3.2 ⟨rfl, hm⟩]; exact Or.inl rfl
    · have hr' := run_append_nil_string (P := Tryz.prog) w 91 9 ty 5 i0 (.int .u8 0) Tryz.underlying91 Tryz.underlying9 hi hz0 s (by omega) (by simp at hs; omega) (by rw [hz2]; simp at hs; omega)
      rw [hr'] at hr
      injection hr with e1 _
      rw [← e1]; exact Or.inr rfl
  · by_cases hroom : l.length + s.size ≤ cap
    · have hr' := Lib.run_append_room_string (P := Tryz.prog) w 91 9 ty 5 i0 Tryz.underlying91 Tryz.underlying9 hi hz1 g l.length cap cur hg s hroom (by omega)
      rw [hr'] at hr
      injection hr with e1 _
      rw [← e1]; exact Or.inl rfl
    · have hr' := Lib.run_append_grow_string (P := Tryz.prog) w 91 9 ty 5 i0 (.int .u8 0) Tryz.underlying91 Tryz.underlying9 hi hz0 ⟨g, 0, none⟩ l.length cap (byteC l) (by rw [byteC_length, hz1, Nat.mul_one]) (World.ownsRow.cells h (g := g) rfl) s (by omega) (by omega) (by rw [hz2]; exact growslice_fits (by omega) (by omega))
      rw [hr'] at hr
      injection hr with e1 _
      rw [← e1]; exact Or.inr rfl
/-- A slice from a place on. -/
def fromS : Value → Nat → Value
  | .slice ad n cap, pos => .slice (if cap = pos then ad else ad.map (·.add pos)) (n - pos) (cap - pos)
  | v, _ => v
theorem runFrom {w : World} {v : Value} {l : List UInt8} (h : Row w v l) (pos : Nat) (hp : pos ≤ l.length) (W : World) :
    (Instr.slice 91 v (some (.int .i64 (pos : Int))) none none).run Tryz.prog W = .ok (fromS v pos) W := by
  obtain ⟨ad, cap, rfl, hc, _⟩ := h.form
  obtain ⟨i0, hi, hz0, hz1, hz2⟩ := info_parts info_u8
  simp [Instr.slice, run_underlying Tryz.underlying91, Instr.sliceBounds, Instr.sliceBound, asIntOf, sizeOf, typeInfo, hi, hz1, fromS, Result.andThen, hp]
/-- A string laid over a row from a place on, as far as the row goes. -/
theorem copyRow {w : World} {v : Value} {l : List UInt8} (h : Row w v l) (pos : Nat) (hp : pos ≤ l.length) (s : ByteArray) (ty : TypeId) :
    ∃ w', (Builtin.copy_ #[91, 9] ty #[fromS v pos, .string s]).run Tryz.prog w = .ok (.int .i64 ((min s.size (l.length - pos) : Nat) : Int)) w' ∧
      Row w' v (l.take pos ++ s.data.toList.take (min s.size (l.length - pos)) ++ l.drop (pos + min s.size (l.length - pos))) ∧ w.grownBy w' v.ownBlock ∧ w'.heap.size = w.heap.size := by
  obtain ⟨i0, hi, hz0, hz1, hz2⟩ := info_parts info_u8
  have hs1 : (Tryz.prog.info? 5).map (·.size) = some 1 := by rw [hi]; simp [hz1]
  have hsl : s.data.toList.length = s.size := Array.length_toList
  generalize hm : min s.size (l.length - pos) = m
  have hm1 : m ≤ s.size := by omega
  have hm2 : pos + m ≤ l.length := by omega
  have hmin : ∀ d, d = l.length - pos → Nat.min s.size d = m := fun d hd => by rw [hd]; exact hm
  by_cases h0 : m = 0
  · subst h0
    refine ⟨w, ?_, by simpa using h, ⟨rfl, rfl, rfl, Nat.le_refl _, fun _ _ _ => rfl⟩, rfl⟩
    obtain ⟨ad, cap, rfl, hc, _⟩ := h.form
    unfold fromS
    cases hq : (if cap = pos then ad else ad.map (·.add pos)) <;> simp [Builtin.copy_, run_underlying Tryz.underlying91, Builtin.lenOf, Builtin.firstCells, sizeOf, typeInfo, hi, hq, hm, storeCells, Result.andThen, goInt]
  · obtain ⟨_, ⟨rfl, h00⟩ | ⟨g, cap, cur, rfl, hbg, hg, hnc, hcm, hcs, htk⟩⟩ := h
    · omega
    · have hne : cap ≠ pos := by omega
      have hcs' : cur.size = cap := by simpa using hcs
      have htk' : cur.toList.take l.length = byteC l := by simpa using htk
      have hst := run_storeCells_at Tryz.prog g pos 5 (byteC (s.data.toList.take m)) 0 cur w hg (by rw [byteC_length, List.length_take]; omega) (by unfold byteC; intro u hu; obtain ⟨_, _, rfl⟩ := List.mem_map.1 hu; rfl)
      have hlen : (byteC (s.data.toList.take m)).length = m := by rw [byteC_length, List.length_take]; omega
      rw [hlen, Nat.add_zero] at hst
      have hcl : cur.toList.length = cur.size := Array.length_toList
      refine ⟨w.setRow g (cur.toList.take pos ++ byteC (s.data.toList.take m) ++ cur.toList.drop (pos + m)).toArray, ?_, ⟨?_, Or.inr ⟨g, cap, _, ?_, hbg, setRow_heap w g cur _ 5 _ hg, ?_, hcm, ?_, ?_⟩⟩, ⟨rfl, rfl, rfl, by simp, fun k _ hk => setRow_other w g k _ (fun e => hk (by simp [Value.ownBlock, e]))⟩, by simp⟩
      · have ef : fromS (.slice (some ⟨g, 0, none⟩) l.length cap) pos = .slice (some ⟨g, pos, none⟩) (l.length - pos) (cap - pos) := by
          show Value.slice (if cap = pos then some ⟨g, 0, none⟩ else (some (⟨g, 0, none⟩ : Addr)).map (·.add pos)) _ _ = _
          rw [if_neg hne]
          simp [Addr.add]
          omega
        have ec : List.take m (List.map (fun b : UInt8 => Value.int IntKind.u8 (b.toNat : Int)) s.data.toList) = byteC (s.data.toList.take m) := by
          unfold byteC
          rw [List.map_take]
        rw [ef]
        simp [Builtin.copy_, run_underlying Tryz.underlying91, Builtin.lenOf, Builtin.firstCells, sizeOf, typeInfo, hi, hm]
        rw [ec, hst]
        simp [Result.andThen, goInt]
      · rw [byteC_length, Nat.mul_one]
      · have : (l.take pos ++ s.data.toList.take m ++ l.drop (pos + m)).length = l.length := by simp [hsl]; omega
        rw [this]
      · simp [hsl]; omega
      · simp [hlen]; omega
      · have e1 : (l.take pos ++ s.data.toList.take m ++ l.drop (pos + m)).length = l.length := by simp [hsl]; omega
        rw [e1, Nat.mul_one]
        have h1 : cur.toList.take pos = byteC (l.take pos) := by
          have := congrArg (List.take pos) htk'
          rw [List.take_take, Nat.min_eq_left hp] at this
          rw [this]; unfold byteC; rw [List.map_take]
        have h2 : (cur.toList.drop (pos + m)).take (l.length - (pos + m)) = byteC (l.drop (pos + m)) := by
          have := congrArg (List.drop (pos + m)) htk'
          rw [List.drop_take] at this
          rw [this]; unfold byteC; rw [List.map_drop]
        have h3 : (byteC (l.take pos)).length = pos := by rw [byteC_length, List.length_take]; omega
        have q1 : List.take l.length (byteC (l.take pos)) = byteC (l.take pos) := List.take_of_length_le (by rw [h3]; exact hp)
        have q2 : List.take (l.length - pos) (byteC (s.data.toList.take m)) = byteC (s.data.toList.take m) := List.take_of_length_le (by rw [hlen]; omega)
        rw [byteC_append, byteC_append, ← h2, h1, List.append_assoc, List.append_assoc, List.take_append, h3, q1, List.take_append, hlen, q2, Nat.sub_sub]
/-- Files lie in the map of block b, their bytes in rows of their own. -/
def FilesAt (w : World) (b : Nat) (fs : Fs) (L : List Nat) : Prop :=
  ∃ l clock, MapIs w b l clock ∧ (∀ x ∈ l, Row w x.v x.has) ∧ (l.map Ent.p).Perm fs ∧ L = blE l ∧ L.Nodup
theorem blE_row {w : World} {l : List Ent} (hr : ∀ x ∈ l, Row w x.v x.has) {k : Nat} (hk : k ∈ blE l) : k < w.heap.size ∧ ∃ cur, w.heap[k]? = some (.cells cur 5 (0, 0)) := by
  obtain ⟨x, hx, he⟩ := List.mem_filterMap.1 hk
  exact ⟨(hr x hx).lt he, (hr x hx).block he⟩
theorem FilesAt.rows {w : World} {b : Nat} {fs : Fs} {L : List Nat} (h : FilesAt w b fs L) {k : Nat} (hk : k ∈ L) : k < w.heap.size ∧ ∃ cur, w.heap[k]? = some (.cells cur 5 (0, 0)) := by
  obtain ⟨l, clock, hm, hr, hp, rfl, hn⟩ := h
  exact blE_row hr hk
theorem FilesAt.lt {w : World} {b : Nat} {fs : Fs} {L : List Nat} (h : FilesAt w b fs L) : b < w.heap.size := let ⟨_, _, hm, _⟩ := h; hm.lt
theorem FilesAt.nin {w : World} {b : Nat} {fs : Fs} {L : List Nat} (h : FilesAt w b fs L) : b ∉ L := fun hb => by
  obtain ⟨cur, hc⟩ := (h.rows hb).2
  obtain ⟨l, clock, hm, _⟩ := h
  rw [hm.here] at hc
  cases hc
theorem FilesAt.kp {F : List Nat} {w w' : World} {b : Nat} {fs : Fs} {L : List Nat} (h : FilesAt w b fs L) (hk : Kp F w w') (hb : b ∉ F) (hF : ∀ k ∈ L, k ∉ F) : FilesAt w' b fs L := by
  obtain ⟨l, clock, hm, hr, hp, rfl, hn⟩ := h
  exact ⟨l, clock, hm.kp hk hb, fun x hx => (hr x hx).kp hk (fun k he => hF k (blE_mem hx he)), hp, rfl, hn⟩
theorem FilesAt.nodup {w : World} {b : Nat} {fs : Fs} {L : List Nat} (h : FilesAt w b fs L) : (fs.map (·.1)).Nodup := by
  obtain ⟨l, clock, hm, hr, hp, rfl, hn⟩ := h
  exact names_perm hp hm.nm
theorem FilesAt.made (w : World) : FilesAt (w.alloc (.map #[] 0)) w.heap.size [] [] :=
  ⟨[], 0, ⟨heap_alloc_new w _, by simp, by simp, by simp⟩, by simp, by simp, rfl, by simp⟩
/-- The value of a change. -/
def chV : Chg → Value
  | .wr n pos d => .iface 96 (.agg #[.string n, .int .i64 (pos : Int), .string d])
  | .ct n len => .iface 155 (.agg #[.string n, .int .i64 (len : Int)])
  | .rn a b => .iface 143 (.agg #[.string a, .string b])
  | .rm n => .iface 138 (.agg #[.string n])
theorem zero_row (w : World) : (zeroValue 91).run Tryz.prog w = .ok nilS w := by kernel_rfl
end Go.Proofs.YtdmckgcbmbhmmaaGreatDoor
namespace Go.Proofs.YtdmckgcbmbhmmaaGreatDoor
open Go.RowKit

/-- The entries but one. -/
def lessE (left : List Ent) (x : Ent) : List Ent := left.filter fun y => decide (y.born ≠ x.born)
section
variable {w : World} {b : Nat} {l : List Ent} {clock : Nat} {ops : Array Oper} {rest : List Oper} {o : Oper} {a : Act} {Q : Exit → Act → World → Prop}
theorem wpList_lookE (hg : o.guard = none) (m x : Operand) (hop : o.op = Op.lookup 55 m x false) (hm : a.eval m = .map (some b)) (h : MapIs w b l clock) (s : ByteArray) (hx : a.eval x = .string s) (v : Value) (hv : valE l s = v)
    (hK : wpList Tryz.prog ops Q rest (a.put o.dst v) w) : wpList Tryz.prog ops Q (o :: rest) a w := by
  refine wpList_plain hg fun K' hK' => ?_
  unfold Oper.wp
  simp [execOp, hop, hm, hx, h.look (P := Tryz.prog) Tryz.underlying55 Tryz.underlying9 (zero_row _) s false, Result.andThen, hv]
  exact hK' _ _ hK
theorem wpList_lookOk (hg : o.guard = none) (m x : Operand) (hop : o.op = Op.lookup 55 m x true) (hm : a.eval m = .map (some b)) (h : MapIs w b l clock) (s : ByteArray) (hx : a.eval x = .string s) (v : Value) (hv : valE l s = v) (f : Bool) (hf : (findE l s).isSome = f)
    (hK : wpList Tryz.prog ops Q rest (a.put o.dst (.tuple #[v, .bool f])) w) : wpList Tryz.prog ops Q (o :: rest) a w := by
  refine wpList_plain hg fun K' hK' => ?_
  unfold Oper.wp
  simp [execOp, hop, hm, hx, h.look (P := Tryz.prog) Tryz.underlying55 Tryz.underlying9 (zero_row _) s true, Result.andThen, hv, hf]
  exact hK' _ _ hK
theorem wpList_delE (hg : o.guard = none) (m x : Operand) (hop : o.op = Op.call { callee := Callee.builtin Builtin.delete, args := #[m, x], argTypes := #[55, 9] }) (hm : a.eval m = .map (some b)) (h : MapIs w b l clock) (s : ByteArray) (hx : a.eval x = .string s)
    (hK : ∀ w', MapIs w' b (dropE l s) clock → w.grownBy w' (some b) → wpList Tryz.prog ops Q rest (a.put o.dst (.tuple #[])) w') : wpList Tryz.prog ops Q (o :: rest) a w := by
  refine wpList_plain hg fun K' hK' => ?_
  obtain ⟨w', hrun, r1, r2, _⟩ := h.drop (P := Tryz.prog) Tryz.underlying55 Tryz.underlying9 s o.type
  unfold Oper.wp
  simp [execOp, hop, resolve, invoke, builtin, hm, hx, hrun, Result.andThen]
  exact hK' _ _ (hK w' r1 r2)
theorem wpList_putE (hg : o.guard = none) (m x y : Operand) (hop : o.op = Op.mapUpdate 55 m x y) (hm : a.eval m = .map (some b)) (h : MapIs w b l clock) (s : ByteArray) (hx : a.eval x = .string s) (v : Value) (hy : a.eval y = v) (d : List UInt8)
    (hK : ∀ w' clock', MapIs w' b (putE l s d v clock) clock' → w.grownBy w' (some b) → wpList Tryz.prog ops Q rest (a.put o.dst undef) w') : wpList Tryz.prog ops Q (o :: rest) a w := by
  refine wpList_plain hg fun K' hK' => ?_
  obtain ⟨w', clock', hrun, r1, r2, _⟩ := h.store (P := Tryz.prog) Tryz.underlying55 Tryz.underlying9 s v d
  unfold Oper.wp
  simp [execOp, hop, hm, hx, hy, hrun, Result.andThen]
  exact hK' _ _ (hK w' clock' r1 r2)
theorem wpList_lenE (hg : o.guard = none) (m : Operand) (hop : o.op = Op.call { callee := Callee.builtin Builtin.len, args := #[m], argTypes := #[55] }) (hm : a.eval m = .map (some b)) (h : MapIs w b l clock)
    (hK : wpList Tryz.prog ops Q rest (a.put o.dst (.int .i64 (l.length : Int))) w) : wpList Tryz.prog ops Q (o :: rest) a w := by
  refine wpList_plain hg fun K' hK' => ?_
  unfold Oper.wp
  simp [execOp, hop, resolve, invoke, builtin, hm, h.len (P := Tryz.prog) Tryz.underlying55 o.type, Result.andThen]
  exact hK' _ _ hK
theorem wpList_rangeE (hg : o.guard = none) (m : Operand) (hop : o.op = Op.range 55 m) (hm : a.eval m = .map (some b)) (h : MapIs w b l clock)
    (hK : ∀ w', RngIs w' b w.heap.size l l → Kp [] w w' → wpList Tryz.prog ops Q rest (a.put o.dst (.pointer (some ⟨w.heap.size, 0, none⟩))) w') : wpList Tryz.prog ops Q (o :: rest) a w := by
  refine wpList_plain hg fun K' hK' => ?_
  obtain ⟨hrun, hr⟩ := h.range (P := Tryz.prog) Tryz.underlying55
  unfold Oper.wp
  simp [execOp, hop, hm, hrun, Result.andThen]
  exact hK' _ _ (hK _ hr (Kp.alloc _ _))
theorem wpList_nextE (hg : o.guard = none) (it : Operand) (hop : o.op = Op.next it false) (r : Nat) (left : List Ent) (hit : a.eval it = .pointer (some ⟨r, 0, none⟩)) (h : RngIs w b r l left)
    (hDone : left = [] → wpList Tryz.prog ops Q rest (a.put o.dst (.tuple #[.bool false])) w)
    (hMore : ∀ x w', x ∈ left → RngIs w' b r l (lessE left x) → (lessE left x).length < left.length → Kp [r] w w' → w'.heap.size = w.heap.size →
      (Instr.entry (.pointer (some ⟨r, 0, none⟩))).run Tryz.prog w' = .ok (.tuple #[.string x.nm, x.v]) w' → wpList Tryz.prog ops Q rest (a.put o.dst (.tuple #[.bool true, .string x.nm, x.v])) w') : wpList Tryz.prog ops Q (o :: rest) a w := by
  refine wpList_plain hg fun K' hK' => ?_
  unfold Oper.wp
  rcases h.next (P := Tryz.prog) o.type with ⟨h0, hrun⟩ | ⟨x, w', hx, hrun, h1, h2, h3, h4, h5⟩
  · simp [execOp, hop, hit, hrun, Result.andThen]
    exact hK' _ _ (hDone h0)
  · simp [execOp, hop, hit, hrun, Result.andThen]
    exact hK' _ _ (hMore x w' hx h1 h2 (Kp.of h3) h4 h5)
end
theorem as_wr_wr (v : Value) (w : World) : (Instr.typeAssert (.iface 96 v) 88 96 true).run Tryz.prog w = .ok (.tuple #[v, .bool true]) w := by kernel_rfl
theorem as_wr_ct (v : Value) (w : World) : (Instr.typeAssert (.iface 96 v) 88 155 true).run Tryz.prog w = .ok (.tuple #[.agg #[.string ⟨#[]⟩, .int .i64 0], .bool false]) w := by kernel_rfl
theorem as_wr_rn (v : Value) (w : World) : (Instr.typeAssert (.iface 96 v) 88 143 true).run Tryz.prog w = .ok (.tuple #[.agg #[.string ⟨#[]⟩, .string ⟨#[]⟩], .bool false]) w := by kernel_rfl
theorem as_wr_rm (v : Value) (w : World) : (Instr.typeAssert (.iface 96 v) 88 138 true).run Tryz.prog w = .ok (.tuple #[.agg #[.string ⟨#[]⟩], .bool false]) w := by kernel_rfl
theorem as_ct_wr (v : Value) (w : World) : (Instr.typeAssert (.iface 155 v) 88 96 true).run Tryz.prog w = .ok (.tuple #[.agg #[.string ⟨#[]⟩, .int .i64 0, .string ⟨#[]⟩], .bool false]) w := by kernel_rfl
theorem as_ct_ct (v : Value) (w : World) : (Instr.typeAssert (.iface 155 v) 88 155 true).run Tryz.prog w = .ok (.tuple #[v, .bool true]) w := by kernel_rfl
theorem as_ct_rn (v : Value) (w : World) : (Instr.typeAssert (.iface 155 v) 88 143 true).run Tryz.prog w = .ok (.tuple #[.agg #[.string ⟨#[]⟩, .string ⟨#[]⟩], .bool false]) w := by kernel_rfl
theorem as_ct_rm (v : Value) (w : World) : (Instr.typeAssert (.iface 155 v) 88 138 true).run Tryz.prog w = .ok (.tuple #[.agg #[.string ⟨#[]⟩], .bool false]) w := by kernel_rfl
theorem as_rn_wr (v : Value) (w : World) : (Instr.typeAssert (.iface 143 v) 88 96 true).run Tryz.prog w = .ok (.tuple #[.agg #[.string ⟨#[]⟩, .int .i64 0, .string ⟨#[]⟩], .bool false]) w := by kernel_rfl
theorem as_rn_ct (v : Value) (w : World) : (Instr.typeAssert (.iface 143 v) 88 155 true).run Tryz.prog w = .ok (.tuple #[.agg #[.string ⟨#[]⟩, .int .i64 0], .bool false]) w := by kernel_rfl
theorem as_rn_rn (v : Value) (w : World) : (Instr.typeAssert (.iface 143 v) 88 143 true).run Tryz.prog w = .ok (.tuple #[v, .bool true]) w := by kernel_rfl
theorem as_rn_rm (v : Value) (w : World) : (Instr.typeAssert (.iface 143 v) 88 138 true).run Tryz.prog w = .ok (.tuple #[.agg #[.string ⟨#[]⟩], .bool false]) w := by kernel_rfl
theorem as_rm_wr (v : Value) (w : World) : (Instr.typeAssert (.iface 138 v) 88 96 true).run Tryz.prog w = .ok (.tuple #[.agg #[.string ⟨#[]⟩, .int .i64 0, .string ⟨#[]⟩], .bool false]) w := by kernel_rfl
theorem as_rm_ct (v : Value) (w : World) : (Instr.typeAssert (.iface 138 v) 88 155 true).run Tryz.prog w = .ok (.tuple #[.agg #[.string ⟨#[]⟩, .int .i64 0], .bool false]) w := by kernel_rfl
theorem as_rm_rn (v : Value) (w : World) : (Instr.typeAssert (.iface 138 v) 88 143 true).run Tryz.prog w = .ok (.tuple #[.agg #[.string ⟨#[]⟩, .string ⟨#[]⟩], .bool false]) w := by kernel_rfl
theorem as_rm_rm (v : Value) (w : World) : (Instr.typeAssert (.iface 138 v) 88 138 true).run Tryz.prog w = .ok (.tuple #[v, .bool true]) w := by kernel_rfl
theorem FilesAt.mk {w : World} {b : Nat} {fs : Fs} {l : List Ent} {clock : Nat} (hm : MapIs w b l clock) (hr : ∀ x ∈ l, Row w x.v x.has) (hp : (l.map Ent.p).Perm fs) (hn : (blE l).Nodup) : FilesAt w b fs (blE l) := ⟨l, clock, hm, hr, hp, rfl, hn⟩
end Go.Proofs.YtdmckgcbmbhmmaaGreatDoor
