/-
  A string's bytes put at the end of a row of bytes of the call's own, however long (below 2^48 with a quarter more).
-/
import Derived.Test.YtijckimjcogfjaaAppN
import Derived.Deep.DeepAppendWide
namespace Go.Proofs.Ytijckimjcogfjaa
open Go.RowKit

/-- What a new row of bytes holds that was laid for a longer text. -/
theorem owns_laid (B : Nat) (w : World) (old : Nat) (l : List UInt8) (hB : B ≤ w.heap.size) (hl : l.length ≤ maxLen) :
    Owns B (w.drew.alloc (.cells ((byteC l).toArray ++ Builtin.zeroCells (Value.int .u8 0).cells (grownCap w l.length old 5 - l.length)) 5)) (.slice (some ⟨w.heap.size, 0, none⟩) l.length (grownCap w l.length old 5)) l := by
  have hge := grownCap_ge w l.length old 5
  refine ⟨by rw [byteC_length, Nat.mul_one], .inr ⟨w.heap.size, _, _, rfl, hB, heap_alloc_new w.drew _, hge, grownCap_le_maxLen w _ _ _ hl, ?_, ?_⟩⟩
  · have h1 : (Value.int IntKind.u8 0).cells.size = 1 := rfl
    rw [Array.size_append, List.size_toArray, byteC_length, size_zeroCells, h1]
    omega
  · rw [Array.toList_append, Nat.mul_one, ← byteC_length l]
    exact List.take_left
theorem grown_laid (w : World) (o : Obj) (r : Option Nat) : w.grownBy (w.drew.alloc o) r := ⟨rfl, rfl, rfl, by simp, fun k hk _ => Below.heap_alloc w.drew _ k hk⟩
theorem appS_run {B : Nat} {w : World} {v : Value} {l : List UInt8} (ho : Owns B w v l) (s : ByteArray) (ty : TypeId) (hs : (l.length + s.size) + (l.length + s.size) / 4 + 192 ≤ 281474976710656) (hB : B ≤ w.heap.size) :
    ∃ v' w', (Builtin.append_ #[82, 9] ty #[v, .string s]).run Try.prog w = .ok v' w' ∧ Owns B w' v' (l ++ s.data.toList) ∧ w.grownBy w' v.ownBlock := by
  obtain ⟨i0, hi, hz0, hz1, hz2⟩ := info_parts info_u8
  have hlen : (l ++ s.data.toList).length = l.length + s.size := by rw [List.length_append, Array.length_toList]; rfl
  have hcs : byteC (l ++ s.data.toList) = byteC l ++ Lib.strCells s := by rw [byteC_append, byteC_str]
  have fin : ∀ {v' w'}, w'.ownsRow B 5 1 v' (l.length + s.size) (byteC l ++ Lib.strCells s) → Owns B w' v' (l ++ s.data.toList) := fun h => by unfold Owns; rw [hlen, hcs]; exact h
  rcases Nat.lt_or_ge 140737488355328 (l.length + s.size) with hbig | hsm
  · have h63 : l.length + s.size ≤ maxLen := by unfold maxLen; omega
    have laid : ∀ old, Owns B (w.drew.alloc (.cells ((byteC l).toArray ++ (Lib.strCells s).toArray ++ Builtin.zeroCells (Value.int .u8 0).cells (grownCap w (l.length + s.size) old 5 - (l.length + s.size))) 5)) (.slice (some ⟨w.heap.size, 0, none⟩) (l.length + s.size) (grownCap w (l.length + s.size) old 5)) (l ++ s.data.toList) := fun old => by
      have := owns_laid B w old (l ++ s.data.toList) hB (by omega)
      rw [hlen, hcs, ← List.append_toArray] at this
      exact this
    rcases id ho with ⟨_, ⟨rfl, h0⟩ | ⟨g, cap, cur, rfl, hbg, hg, hnc, hcm, hcz, htk⟩⟩
    · obtain rfl : l = [] := List.eq_nil_of_length_eq_zero h0
      have hr := run_append_nil_string (P := Try.prog) w 82 9 ty 5 i0 (.int .u8 0) Try.underlying82 Try.underlying9 hi hz0 s (by simp at hbig; omega) (by simp at h63; unfold maxLen at h63; omega) (by rw [hz2]; simp at hs; omega)
      have e1 : (s.data.map fun b => Value.int .u8 b.toNat) = (Lib.strCells s).toArray := by apply Array.ext'; simp [Lib.strCells]
      have := laid 0
      rw [e1] at hr
      simp only [List.length_nil, Nat.zero_add, List.nil_append] at this ⊢
      exact ⟨_, _, hr, by simpa [byteC] using this, grown_laid _ _ _⟩
    · by_cases hroom : l.length + s.size ≤ cap
      · have hr := Lib.run_append_room_string (P := Try.prog) w 82 9 ty 5 i0 Try.underlying82 Try.underlying9 hi hz1 g l.length cap cur hg s hroom (by omega)
        rw [Nat.mul_one] at htk hcz
        refine ⟨_, _, hr, fin ⟨by rw [List.length_append, byteC_length, Lib.strCells_length, Nat.mul_one], .inr ⟨g, cap, _, rfl, hbg, setRow_heap w g cur _ 5 _ hg, hroom, hcm, ?_, ?_⟩⟩, ⟨rfl, rfl, rfl, by simp, fun k _ hk => setRow_other w g k _ (fun e => hk (by simp [Value.ownBlock, e]))⟩⟩
        · have hcl : cur.toList.length = cur.size := Array.length_toList
          rw [List.size_toArray, List.length_append, List.length_append, List.length_take, List.length_drop, Lib.strCells_length, Nat.mul_one]; omega
        · rw [htk, Nat.mul_one, show l.length + s.size = (byteC l ++ Lib.strCells s).length by rw [List.length_append, byteC_length, Lib.strCells_length]]
          exact List.take_left
      · have hr := Lib.run_append_grow_string (P := Try.prog) w 82 9 ty 5 i0 (.int .u8 0) Try.underlying82 Try.underlying9 hi hz0 ⟨g, 0, none⟩ l.length cap (byteC l) (by rw [byteC_length, hz1, Nat.mul_one]) (ho.cells (g := g) rfl) s (by omega) (by unfold maxLen at h63; omega) (by rw [hz2, Nat.mul_one]; exact Nat.le_trans (nextslicecap_le_wide (by omega)) hs)
        exact ⟨_, _, hr, laid cap, grown_laid _ _ _⟩
  · obtain ⟨v', w', hr, h1, h2, _⟩ := Lib.run_append_own_string (P := Try.prog) w B 82 9 ty 5 i0 Try.underlying82 Try.underlying9 hi hz0 hz1 hz2 v _ _ ho s (by unfold maxLen; omega) hsm hB
    exact ⟨v', w', hr, fin h1, h2⟩
/-- The operation, for the walk. -/
theorem wpList_appS {B : Nat} {w : World} {ops : Array Oper} {rest : List Oper} {o : Oper} {a : Act} {Q : Exit → Act → World → Prop} (hgd : o.guard = none) (sl x : Operand)
    (ho : o.op = .call { callee := .builtin .append, args := #[sl, x], argTypes := #[82, 9] })
    (v : Value) (l : List UInt8) (hs : a.eval sl = v) (hown : Owns B w v l) (s : ByteArray) (hx : a.eval x = .string s)
    (hn : (l.length + s.size) + (l.length + s.size) / 4 + 192 ≤ 281474976710656) (hbase : B ≤ w.heap.size)
    (h : ∀ v' w', Owns B w' v' (l ++ s.data.toList) → Fr B 5 w w' → wpList Try.prog ops Q rest (a.put o.dst v') w') : wpList Try.prog ops Q (o :: rest) a w := by
  refine wpList_plain hgd fun K hK => ?_
  obtain ⟨v', w', hr, h2, h3⟩ := appS_run hown s o.type hn hbase
  unfold Oper.wp
  simp [execOp, ho, resolve, invoke, builtin, hs, hx, hr, Result.andThen]
  exact hK _ _ (h v' w' h2 ((Fr.refl _ _ _).grown hown h3 hbase))
end Go.Proofs.Ytijckimjcogfjaa
