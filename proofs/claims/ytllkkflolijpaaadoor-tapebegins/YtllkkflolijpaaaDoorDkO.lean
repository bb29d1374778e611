/-
  A look-up, a store, a deletion, a count and a range's step on a map of texts and slices, at the operation, for the walk.
-/
import Derived.Test.YtllkkflolijpaaaDoorDkF
namespace Go.Proofs.YtllkkflolijpaaaDoor
open Go.RowKit

/-- The entries but one. -/
def lessE (left : List Ent) (x : Ent) : List Ent := left.filter fun y => decide (y.born ≠ x.born)
section
variable {w : World} {b : Nat} {l : List Ent} {clock : Nat} {ops : Array Oper} {rest : List Oper} {o : Oper} {a : Act} {Q : Exit → Act → World → Prop}
theorem wpList_lookE (hg : o.guard = none) (m x : Operand) (hop : o.op = Op.lookup 54 m x false) (hm : a.eval m = .map (some b)) (h : MapIs w b l clock) (s : ByteArray) (hx : a.eval x = .string s) (v : Value) (hv : valE l s = v)
    (hK : wpList Tryd.prog ops Q rest (a.put o.dst v) w) : wpList Tryd.prog ops Q (o :: rest) a w := by
  refine wpList_plain hg fun K' hK' => ?_
  unfold Oper.wp
  simp [execOp, hop, hm, hx, h.look (P := Tryd.prog) Tryd.underlying54 Tryd.underlying9 (zero_row _) s false, Result.andThen, hv]
  exact hK' _ _ hK
theorem wpList_lookOk (hg : o.guard = none) (m x : Operand) (hop : o.op = Op.lookup 54 m x true) (hm : a.eval m = .map (some b)) (h : MapIs w b l clock) (s : ByteArray) (hx : a.eval x = .string s) (v : Value) (hv : valE l s = v) (f : Bool) (hf : (findE l s).isSome = f)
    (hK : wpList Tryd.prog ops Q rest (a.put o.dst (.tuple #[v, .bool f])) w) : wpList Tryd.prog ops Q (o :: rest) a w := by
  refine wpList_plain hg fun K' hK' => ?_
  unfold Oper.wp
  simp [execOp, hop, hm, hx, h.look (P := Tryd.prog) Tryd.underlying54 Tryd.underlying9 (zero_row _) s true, Result.andThen, hv, hf]
  exact hK' _ _ hK
theorem wpList_delE (hg : o.guard = none) (m x : Operand) (hop : o.op = Op.call { callee := Callee.builtin Builtin.delete, args := #[m, x], argTypes := #[54, 9] }) (hm : a.eval m = .map (some b)) (h : MapIs w b l clock) (s : ByteArray) (hx : a.eval x = .string s)
    (hK : ∀ w', MapIs w' b (dropE l s) clock → w.grownBy w' (some b) → wpList Tryd.prog ops Q rest (a.put o.dst (.tuple #[])) w') : wpList Tryd.prog ops Q (o :: rest) a w := by
  refine wpList_plain hg fun K' hK' => ?_
  obtain ⟨w', hrun, r1, r2, _⟩ := h.drop (P := Tryd.prog) Tryd.underlying54 Tryd.underlying9 s o.type
  unfold Oper.wp
  simp [execOp, hop, resolve, invoke, builtin, hm, hx, hrun, Result.andThen]
  exact hK' _ _ (hK w' r1 r2)
theorem wpList_putE (hg : o.guard = none) (m x y : Operand) (hop : o.op = Op.mapUpdate 54 m x y) (hm : a.eval m = .map (some b)) (h : MapIs w b l clock) (s : ByteArray) (hx : a.eval x = .string s) (v : Value) (hy : a.eval y = v) (d : List UInt8)
    (hK : ∀ w' clock', MapIs w' b (putE l s d v clock) clock' → w.grownBy w' (some b) → wpList Tryd.prog ops Q rest (a.put o.dst undef) w') : wpList Tryd.prog ops Q (o :: rest) a w := by
  refine wpList_plain hg fun K' hK' => ?_
  obtain ⟨w', clock', hrun, r1, r2, _⟩ := h.store (P := Tryd.prog) Tryd.underlying54 Tryd.underlying9 s v d
  unfold Oper.wp
  simp [execOp, hop, hm, hx, hy, hrun, Result.andThen]
  exact hK' _ _ (hK w' clock' r1 r2)
theorem wpList_lenE (hg : o.guard = none) (m : Operand) (hop : o.op = Op.call { callee := Callee.builtin Builtin.len, args := #[m], argTypes := #[54] }) (hm : a.eval m = .map (some b)) (h : MapIs w b l clock)
    (hK : wpList Tryd.prog ops Q rest (a.put o.dst (.int .i64 (l.length : Int))) w) : wpList Tryd.prog ops Q (o :: rest) a w := by
  refine wpList_plain hg fun K' hK' => ?_
  unfold Oper.wp
  simp [execOp, hop, resolve, invoke, builtin, hm, h.len (P := Tryd.prog) Tryd.underlying54 o.type, Result.andThen]
  exact hK' _ _ hK
theorem wpList_rangeE (hg : o.guard = none) (m : Operand) (hop : o.op = Op.range 54 m) (hm : a.eval m = .map (some b)) (h : MapIs w b l clock)
    (hK : ∀ w', RngIs w' b w.heap.size l l → Kp [] w w' → wpList Tryd.prog ops Q rest (a.put o.dst (.pointer (some ⟨w.heap.size, 0, none⟩))) w') : wpList Tryd.prog ops Q (o :: rest) a w := by
  refine wpList_plain hg fun K' hK' => ?_
  obtain ⟨hrun, hr⟩ := h.range (P := Tryd.prog) Tryd.underlying54
  unfold Oper.wp
  simp [execOp, hop, hm, hrun, Result.andThen]
  exact hK' _ _ (hK _ hr (Kp.alloc _ _))
theorem wpList_nextE (hg : o.guard = none) (it : Operand) (hop : o.op = Op.next it false) (r : Nat) (left : List Ent) (hit : a.eval it = .pointer (some ⟨r, 0, none⟩)) (h : RngIs w b r l left)
    (hDone : left = [] → wpList Tryd.prog ops Q rest (a.put o.dst (.tuple #[.bool false])) w)
    (hMore : ∀ x w', x ∈ left → RngIs w' b r l (lessE left x) → (lessE left x).length < left.length → Kp [r] w w' → w'.heap.size = w.heap.size →
      (Instr.entry (.pointer (some ⟨r, 0, none⟩))).run Tryd.prog w' = .ok (.tuple #[.string x.nm, x.v]) w' → wpList Tryd.prog ops Q rest (a.put o.dst (.tuple #[.bool true, .string x.nm, x.v])) w') : wpList Tryd.prog ops Q (o :: rest) a w := by
  refine wpList_plain hg fun K' hK' => ?_
  unfold Oper.wp
  rcases h.next (P := Tryd.prog) o.type with ⟨h0, hrun⟩ | ⟨x, w', hx, hrun, h1, h2, h3, h4, h5⟩
  · simp [execOp, hop, hit, hrun, Result.andThen]
    exact hK' _ _ (hDone h0)
  · simp [execOp, hop, hit, hrun, Result.andThen]
    exact hK' _ _ (hMore x w' hx h1 h2 (Kp.of h3) h4 h5)
end
theorem as_wr_wr (v : Value) (w : World) : (Instr.typeAssert (.iface 76 v) 68 76 true).run Tryd.prog w = .ok (.tuple #[v, .bool true]) w := by kernel_rfl
theorem as_wr_ct (v : Value) (w : World) : (Instr.typeAssert (.iface 76 v) 68 93 true).run Tryd.prog w = .ok (.tuple #[.agg #[.string ⟨#[]⟩, .int .i64 0], .bool false]) w := by kernel_rfl
theorem as_wr_rn (v : Value) (w : World) : (Instr.typeAssert (.iface 76 v) 68 98 true).run Tryd.prog w = .ok (.tuple #[.agg #[.string ⟨#[]⟩, .string ⟨#[]⟩], .bool false]) w := by kernel_rfl
theorem as_wr_rm (v : Value) (w : World) : (Instr.typeAssert (.iface 76 v) 68 100 true).run Tryd.prog w = .ok (.tuple #[.agg #[.string ⟨#[]⟩], .bool false]) w := by kernel_rfl
theorem as_ct_wr (v : Value) (w : World) : (Instr.typeAssert (.iface 93 v) 68 76 true).run Tryd.prog w = .ok (.tuple #[.agg #[.string ⟨#[]⟩, .int .i64 0, .string ⟨#[]⟩], .bool false]) w := by kernel_rfl
theorem as_ct_ct (v : Value) (w : World) : (Instr.typeAssert (.iface 93 v) 68 93 true).run Tryd.prog w = .ok (.tuple #[v, .bool true]) w := by kernel_rfl
theorem as_ct_rn (v : Value) (w : World) : (Instr.typeAssert (.iface 93 v) 68 98 true).run Tryd.prog w = .ok (.tuple #[.agg #[.string ⟨#[]⟩, .string ⟨#[]⟩], .bool false]) w := by kernel_rfl
theorem as_ct_rm (v : Value) (w : World) : (Instr.typeAssert (.iface 93 v) 68 100 true).run Tryd.prog w = .ok (.tuple #[.agg #[.string ⟨#[]⟩], .bool false]) w := by kernel_rfl
theorem as_rn_wr (v : Value) (w : World) : (Instr.typeAssert (.iface 98 v) 68 76 true).run Tryd.prog w = .ok (.tuple #[.agg #[.string ⟨#[]⟩, .int .i64 0, .string ⟨#[]⟩], .bool false]) w := by kernel_rfl
theorem as_rn_ct (v : Value) (w : World) : (Instr.typeAssert (.iface 98 v) 68 93 true).run Tryd.prog w = .ok (.tuple #[.agg #[.string ⟨#[]⟩, .int .i64 0], .bool false]) w := by kernel_rfl
theorem as_rn_rn (v : Value) (w : World) : (Instr.typeAssert (.iface 98 v) 68 98 true).run Tryd.prog w = .ok (.tuple #[v, .bool true]) w := by kernel_rfl
theorem as_rn_rm (v : Value) (w : World) : (Instr.typeAssert (.iface 98 v) 68 100 true).run Tryd.prog w = .ok (.tuple #[.agg #[.string ⟨#[]⟩], .bool false]) w := by kernel_rfl
theorem as_rm_wr (v : Value) (w : World) : (Instr.typeAssert (.iface 100 v) 68 76 true).run Tryd.prog w = .ok (.tuple #[.agg #[.string ⟨#[]⟩, .int .i64 0, .string ⟨#[]⟩], .bool false]) w := by kernel_rfl
theorem as_rm_ct (v : Value) (w : World) : (Instr.typeAssert (.iface 100 v) 68 93 true).run Tryd.prog w = .ok (.tuple #[.agg #[.string ⟨#[]⟩, .int .i64 0], .bool false]) w := by kernel_rfl
theorem as_rm_rn (v : Value) (w : World) : (Instr.typeAssert (.iface 100 v) 68 98 true).run Tryd.prog w = .ok (.tuple #[.agg #[.string ⟨#[]⟩, .string ⟨#[]⟩], .bool false]) w := by kernel_rfl
theorem as_rm_rm (v : Value) (w : World) : (Instr.typeAssert (.iface 100 v) 68 100 true).run Tryd.prog w = .ok (.tuple #[v, .bool true]) w := by kernel_rfl
theorem FilesAt.mk {w : World} {b : Nat} {fs : Fs} {l : List Ent} {clock : Nat} (hm : MapIs w b l clock) (hr : ∀ x ∈ l, Row w x.v x.has) (hp : (l.map Ent.p).Perm fs) (hn : (blE l).Nodup) : FilesAt w b fs (blE l) := ⟨l, clock, hm, hr, hp, rfl, hn⟩
end Go.Proofs.YtllkkflolijpaaaDoor
