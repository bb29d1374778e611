/-
  Plain facts on worlds: what a row of bytes that the call itself made holds, and what stays as it was while such rows grow. Of no program.
-/
import Derived.WalkKit
import Derived.WalkSpells
import Derived.Lib.AppendStr
namespace Go.Proofs.YtdmckgcbmbhmmaaGreatDoor
open Go.RowKit

theorem hide {p : Prop} (h : p) : Hid p := h
theorem unhide {p : Prop} (h : Hid p) : p := h
theorem ret_int {k : IntKind} {a b : Int} (h : a = b) : Ending.returned (.int k a) = .returned (.int k b) := by rw [h]

theorem ret_bool {a b : Bool} (h : a = b) : Ending.returned (.bool a) = .returned (.bool b) := by rw [h]

/-- What stays: all blocks below B, and all that are no rows of the element type e. -/
structure Fr (B e : Nat) (w w' : World) : Prop where
  below : Below B w w'
  other : ∀ k, k < w.heap.size → (∀ cur f, w.heap[k]? ≠ some (.cells cur e f)) → w'.heap[k]? = w.heap[k]?
theorem Fr.refl (B e : Nat) (w : World) : Fr B e w w := ⟨Below.refl _ _, fun _ _ _ => rfl⟩
theorem Fr.trans {B e : Nat} {a b c : World} (h : Fr B e a b) (k : Fr B e b c) : Fr B e a c :=
  ⟨h.below.trans k.below, fun j hj hn => by
    have e1 := h.other j hj hn
    rw [k.other j (by have := h.below.size; omega) (fun cur f => by rw [e1]; exact hn cur f), e1]⟩
theorem Fr.mono {B B' e : Nat} {a b : World} (h : Fr B e a b) (hB : B' ≤ B) : Fr B' e a b := ⟨h.below.mono hB, h.other⟩
theorem Fr.drew {B e : Nat} {a w : World} (h : Fr B e a w) : Fr B e a w.drew := ⟨h.below.drew, h.other⟩
theorem Fr.alloc {B e : Nat} {a w : World} (h : Fr B e a w) (hB : B ≤ w.heap.size) (o : Obj) : Fr B e a (w.alloc o) :=
  ⟨h.below.alloc hB o, fun k hk hn => by rw [Below.heap_alloc _ _ _ (by have := h.below.size; omega)]; exact h.other k hk hn⟩
theorem Fr.grown {B e size n : Nat} {a w w' : World} {v : Value} {xs : List Value} (h : Fr B e a w) (ho : w.ownsRow B e size v n xs) (hg : w.grownBy w' v.ownBlock) (hB : B ≤ w.heap.size) : Fr B e a w' :=
  ⟨h.below.grown hg hB (fun k hk => (ho.lt k hk).1), fun k hk hn => by
    have e1 := h.other k hk hn
    rw [← e1]
    refine hg.block k (by have := h.below.size; omega) fun hv => ?_
    obtain ⟨_, ⟨rfl, _⟩ | ⟨g, cap, cur, rfl, _, hh, _⟩⟩ := ho
    · simp [Value.ownBlock] at hv
    · simp [Value.ownBlock] at hv
      subst hv
      exact hn cur (0, 0) (by rw [← e1]; exact hh)⟩
theorem Fr.size {B e : Nat} {a w : World} (h : Fr B e a w) : a.heap.size ≤ w.heap.size := h.below.size
/-- A block that is no row of that type is there still. -/
theorem Fr.keep {B e k : Nat} {a w : World} (h : Fr B e a w) {cur : Array Value} {t : TypeId} {f : Nat × Nat} (hb : a.heap[k]? = some (.cells cur t f)) (ht : t ≠ e) : w.heap[k]? = some (.cells cur t f) := by
  have hk : k < a.heap.size := by
    rcases Nat.lt_or_ge k a.heap.size with h1 | h1
    · exact h1
    · rw [Array.getElem?_eq_none h1] at hb; cases hb
  rw [h.other k hk (fun c g hc => by rw [hb] at hc; simp at hc; exact ht hc.2.1)]; exact hb

/-- append to a row of the call's own, as one step of a statement whose order is drawn. -/
theorem step_append_own {P : Program} {ops : Array Oper} {o : Oper} {a : Act} {w : World} {K : Act → World → Prop} {Q : Exit → Act → World → Prop} {E : Prop}
    (hg : o.guard = none) (s x : Operand) (t : TypeId) (hop : o.op = Op.call { callee := Callee.builtin Builtin.append, args := #[s, x], argTypes := #[t, t] })
    (base : Nat) (e : TypeId) (i : TypeInfo) (z : Value) (size bytes : Nat) (h1 : P.underlying t = some (.slice e)) (h2 : P.info? e = some i) (h3 : i.zero = some z) (h4 : i.size = size) (h5 : i.bytes = bytes) (h6 : z.cells.size = size) (h7 : 0 < size)
    (v : Value) (n : Nat) (xs : List Value) (hs : a.eval s = v) (hown : w.ownsRow base e size v n xs)
    (ad : Addr) (m c : Nat) (news : List Value) (hx : a.eval x = .slice (some ad) m c) (hn : news.length = m * size) (hc : ∀ j u, news[j]? = some u → w.cell? (ad.add j) = some u) (h1c : ∀ u ∈ news, u.oneCell' = true)
    (b1 : n + m ≤ maxLen) (b2 : (n + m) * bytes ≤ 140737488355328) (hb : base ≤ w.heap.size)
    (hK : ∀ v' w', w'.ownsRow base e size v' (n + m) (xs ++ news) → w.grownBy w' v.ownBlock → K (a.put o.dst v') w') :
    if Region.wanted o (yielded ops a.tmps) = true then Oper.wp P o a w K Q else E := by
  have hw : Region.wanted o (yielded ops a.tmps) = true := by simp [Region.wanted, hg]
  rw [if_pos hw]
  obtain ⟨v', w', hrun, r1, r2, _⟩ := run_append_own (P := P) w base t o.type e i z size bytes h1 h2 h3 h4 h5 h6 h7 v n xs hown ad m c news hn hc h1c b1 b2 hb
  unfold Oper.wp
  simp [execOp, hop, resolve, invoke, builtin, hs, hx, hrun, Result.andThen]
  exact hK v' w' r1 r2

/-- Bytes as cells. -/
def byteC (l : List UInt8) : List Value := l.map fun b => .int .u8 (b.toNat : Int)
theorem byteC_append (a b : List UInt8) : byteC (a ++ b) = byteC a ++ byteC b := by unfold byteC; exact List.map_append
theorem byteC_length (a : List UInt8) : (byteC a).length = a.length := by unfold byteC; exact List.length_map ..
theorem byteC_str (s : ByteArray) : Lib.strCells s = byteC s.data.toList := by
  unfold Lib.strCells byteC; rfl
theorem byteC_one (n : Nat) (h : n < 256) : [Value.int .u8 (n : Int)] = byteC [UInt8.ofNat n] := by
  unfold byteC; simp [Nat.mod_eq_of_lt h]
end Go.Proofs.YtdmckgcbmbhmmaaGreatDoor
