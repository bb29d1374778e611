/-
  A string's bytes put at the end of a row of bytes of the call's own, however long (below 2^48 with a quarter more).
  The document's answer for a list's bytes (Bytes) is the plain function's.
-/
import Derived.Test.YtpfcoaimciojjaaG09
import Derived.Deep.DeepAppendWide
import Derived.Test.YtpfcoaimciojjaaG12
namespace Go.Proofs.Ytpfcoaimciojjaa
open Go.RowKit

/-- What a new row of bytes holds that was laid for a longer text. -/
theorem owns_laid (B : Nat) (w : World) (old : Nat) (l : List UInt8) (hB : B ≤ w.heap.size) (hl : l.length ≤ maxLen) :
    Owns B (w.drew.alloc (.cells ((byteC l).toArray ++ Builtin.zeroCells (Value.int .u8 0).cells (grownCap w l.length old 5 - l.length)) 5)) (.slice (some ⟨w.heap.size, 0, none⟩) l.length (grownCap w l.length old 5)) l := by
  have hge := grownCap_ge w l.length old 5
  refine ⟨by rw [byteC_length, Nat.mul_one], .inr ⟨w.heap.size, _, _, rfl, hB, heap_alloc_new w.drew _, hge, grownCap_le_maxLen w _ _ _ hl, ?_, ?_⟩⟩
  · have h1 : (Value.int IntKind.u8 0).cells.size = 1 := rfl
    rw [Array.size_append, List.size_toArray, byteC_length, size_zeroCells, h1]
    omega
  · rw [Array.toList_append, Nat.mul_one, ← byteC_length l]
    exact List.take_left
theorem grown_laid (w : World) (o : Obj) (r : Option Nat) : w.grownBy (w.drew.alloc o) r := ⟨rfl, rfl, rfl, by simp, fun k hk _ => Below.heap_alloc w.drew _ k hk⟩
theorem appS_run {B : Nat} {w : World} {v : Value} {l : List UInt8} (ho : Owns B w v l) (s : ByteArray) (ty : TypeId) (hs : (l.length + s.size) + (l.length + s.size) / 4 + 192 ≤ 281474976710656) (hB : B ≤ w.heap.size) :
    ∃ v' w', (Builtin.append_ #[74, 9] ty #[v, .string s]).run Try.prog w = .ok v' w' ∧ Owns B w' v' (l ++ s.data.toList) ∧ w.grownBy w' v.ownBlock := by
  obtain ⟨i0, hi, hz0, hz1, hz2⟩ := info_parts info_u8
  have hlen : (l ++ s.data.toList).length = l.length + s.size := by rw [List.length_append, Array.length_toList]; rfl
  have hcs : byteC (l ++ s.data.toList) = byteC l ++ Lib.strCells s := by rw [byteC_append, byteC_str]
  have fin : ∀ {v' w'}, w'.ownsRow B 5 1 v' (l.length + s.size) (byteC l ++ Lib.strCells s) → Owns B w' v' (l ++ s.data.toList) := fun h => by unfold Owns; rw [hlen, hcs]; exact h
  rcases Nat.lt_or_ge 140737488355328 (l.length + s.size) with hbig | hsm
  · have h63 : l.length + s.size ≤ maxLen := by unfold maxLen; omega
    have laid : ∀ old, Owns B (w.drew.alloc (.cells ((byteC l).toArray ++ (Lib.strCells s).toArray ++ Builtin.zeroCells (Value.int .u8 0).cells (grownCap w (l.length + s.size) old 5 - (l.length + s.size))) 5)) (.slice (some ⟨w.heap.size, 0, none⟩) (l.length + s.size) (grownCap w (l.length + s.size) old 5)) (l ++ s.data.toList) := fun old => by
      have := owns_laid B w old (l ++ s.data.toList) hB (by omega)
      rw [hlen, hcs, ← List.append_toArray] at this
      exact this
    rcases id ho with ⟨_, ⟨rfl, h0⟩ | ⟨g, cap, cur, rfl, hbg, hg, hnc, hcm, hcz, htk⟩⟩
    · obtain rfl : l = [] := List.eq_nil_of_length_eq_zero h0
      have hr := run_append_nil_string (P := Try.prog) w 74 9 ty 5 i0 (.int .u8 0) Try.underlying74 Try.underlying9 hi hz0 s (by simp at hbig; omega) (by simp at h63; unfold maxLen at h63; omega) (by rw [hz2]; simp at hs; omega)
      have e1 : (s.data.map fun b => Value.int .u8 b.toNat) = (Lib.strCells s).toArray := by apply Array.ext'; simp [Lib.strCells]
      have := laid 0
      rw [e1] at hr
      simp only [List.length_nil, Nat.zero_add, List.nil_append] at this ⊢
      exact ⟨_, _, hr, by simpa [byteC] using this, grown_laid _ _ _⟩
    · by_cases hroom : l.length + s.size ≤ cap
      · have hr := Lib.run_append_room_string (P := Try.prog) w 74 9 ty 5 i0 Try.underlying74 Try.underlying9 hi hz1 g l.length cap cur hg s hroom (by omega)
        rw [Nat.mul_one] at htk hcz
        refine ⟨_, _, hr, fin ⟨by rw [List.length_append, byteC_length, Lib.strCells_length, Nat.mul_one], .inr ⟨g, cap, _, rfl, hbg, setRow_heap w g cur _ 5 _ hg, hroom, hcm, ?_, ?_⟩⟩, ⟨rfl, rfl, rfl, by simp, fun k _ hk => setRow_other w g k _ (fun e => hk (by simp [Value.ownBlock, e]))⟩⟩
        · have hcl : cur.toList.length = cur.size := Array.length_toList
          rw [List.size_toArray, List.length_append, List.length_append, List.length_take, List.length_drop, Lib.strCells_length, Nat.mul_one]; omega
        · rw [htk, Nat.mul_one, show l.length + s.size = (byteC l ++ Lib.strCells s).length by rw [List.length_append, byteC_length, Lib.strCells_length]]
          exact List.take_left
      · have hr := Lib.run_append_grow_string (P := Try.prog) w 74 9 ty 5 i0 (.int .u8 0) Try.underlying74 Try.underlying9 hi hz0 ⟨g, 0, none⟩ l.length cap (byteC l) (by rw [byteC_length, hz1, Nat.mul_one]) (ho.cells (g := g) rfl) s (by omega) (by unfold maxLen at h63; omega) (by rw [hz2, Nat.mul_one]; exact Nat.le_trans (nextslicecap_le_wide (by omega)) hs)
        exact ⟨_, _, hr, laid cap, grown_laid _ _ _⟩
  · obtain ⟨v', w', hr, h1, h2, _⟩ := Lib.run_append_own_string (P := Try.prog) w B 74 9 ty 5 i0 Try.underlying74 Try.underlying9 hi hz0 hz1 hz2 v _ _ ho s (by unfold maxLen; omega) hsm hB
    exact ⟨v', w', hr, fin h1, h2⟩
/-- The operation, for the walk. -/
theorem wpList_appS {B : Nat} {w : World} {ops : Array Oper} {rest : List Oper} {o : Oper} {a : Act} {Q : Exit → Act → World → Prop} (hgd : o.guard = none) (sl x : Operand)
    (ho : o.op = .call { callee := .builtin .append, args := #[sl, x], argTypes := #[74, 9] })
    (v : Value) (l : List UInt8) (hs : a.eval sl = v) (hown : Owns B w v l) (s : ByteArray) (hx : a.eval x = .string s)
    (hn : (l.length + s.size) + (l.length + s.size) / 4 + 192 ≤ 281474976710656) (hbase : B ≤ w.heap.size)
    (h : ∀ v' w', Owns B w' v' (l ++ s.data.toList) → Fr B 5 w w' → wpList Try.prog ops Q rest (a.put o.dst v') w') : wpList Try.prog ops Q (o :: rest) a w := by
  refine wpList_plain hgd fun K hK => ?_
  obtain ⟨v', w', hr, h2, h3⟩ := appS_run hown s o.type hn hbase
  unfold Oper.wp
  simp [execOp, ho, resolve, invoke, builtin, hs, hx, hr, Result.andThen]
  exact hK _ _ (h v' w' h2 ((Fr.refl _ _ _).grown hown h3 hbase))
end Go.Proofs.Ytpfcoaimciojjaa
namespace Go.Proofs.Ytpfcoaimciojjaa
open Go.RowKit

theorem Owns.below {B B' : Nat} {w w' : World} {v : Value} {l : List UInt8} (h : Owns B w v l) (hb : Below B' w w') (hB : w.heap.size ≤ B') : Owns B w' v l := by
  refine World.ownsRow.kept (row := none) h ⟨hb.os, hb.tape, hb.output, hb.size, fun k hk _ => hb.block k (by omega)⟩ ?_
  cases v.ownBlock
  · exact Or.inl rfl
  · exact Or.inr (by simp)
theorem itemB_size (t : Bool) (n : Int) (s : ByteArray) (h0 : -9223372036854775808 ≤ n) (h1 : n < 9223372036854775808) (hs : s.size ≤ 140737488351232) : (⟨(itemB t n s).toArray⟩ : ByteArray).size ≤ s.size + 11 := by
  show (List.toArray _).size ≤ _
  rw [List.size_toArray]
  unfold itemB
  split
  · have := (numB_length (u := zig (s.size : Int)) (zig_lt (by omega) (by omega))).2
    have e : s.data.toList.length = s.size := Array.length_toList
    rw [List.length_cons, List.length_append]; omega
  · have := (numB_length (u := zig n) (zig_lt h0 h1)).2
    rw [List.length_cons]; omega
set_option maxHeartbeats 1000000 in
set_option maxRecDepth 100000 in
theorem refBytes_any (ad : Option Addr) (cap : Nat) (l : List It) (w : World) (hlen : l.length ≤ 9223372036854775807) (hA : ItemsAt w ad l) (hok : ∀ x ∈ l, x.ok) (hsz : ∀ x ∈ l, x.s.size ≤ 140737488351232) :
    Calls Try.prog 42 #[.slice ad l.length cap] w fun e w' => ∃ k, k ≤ l.length ∧ e = .returned (.string ⟨(listB (l.take k)).toArray⟩) ∧ (k = l.length ∨ 262144 < (listB (l.take k)).length) ∧ Below w.heap.size w w' := by
  have HA := hide hA
  have HO := hide hok
  have HZ := hide hsz
  clear hA hok hsz
  go_enter Try.func42, Try.ntmps42
  go_wp2_with fail
  go_loopw [3, 4] (fun v i wr => ∃ k : Nat, k ≤ l.length ∧ i = .int .i64 k ∧ Owns w.heap.size wr v (listB (l.take k)) ∧ Below w.heap.size w wr) (fun _ i _ => l.length - (intOf i).toNat)
  case atStart => exact ⟨0, Nat.zero_le _, rfl, Owns.nil _ _, Below.refl _ _⟩
  case round =>
    obtain ⟨k, hk, rfl, hown, hbel⟩ := hrel
    obtain ⟨av, cv, rfl⟩ := hown.form
    have hz := hbel.size
    by_cases hlt : k < l.length
    · by_cases hbig : 262144 < (listB (l.take k)).length
      · have hcv := hown.string
        have hfin : ∃ k', k' ≤ l.length ∧ Ending.returned (.string ⟨(listB (l.take k)).toArray⟩) = .returned (.string ⟨(listB (l.take k')).toArray⟩) ∧ (k' = l.length ∨ 262144 < (listB (l.take k')).length) ∧ Below w.heap.size w wr := ⟨k, hk, rfl, Or.inr hbig, hbel⟩
        have HF := hide hfin
        clear hfin
        generalize listB (l.take k) = L at *
        generalize L.length = m at *
        go_wp2
        go_ret
        exact unhide HF
      · obtain ⟨b, off, rfl, hbw, hc⟩ := (unhide HA).below hbel (Nat.le_refl _) (fun e => by rw [e] at hlt; simp at hlt)
        obtain ⟨c0, c1, c2⟩ := hc k hlt
        clear hc
        have hxok := unhide HO l[k] (List.getElem_mem hlt)
        have hxs := unhide HZ l[k] (List.getElem_mem hlt)
        have hsucc := listB_take_succ hlt
        generalize hx : l[k] = x at *
        clear hx
        obtain ⟨t, n, s⟩ := x
        obtain ⟨o0, o1, o2⟩ := hxok
        dsimp only at o0 o1 o2 hxs
        have hone := fun w => refOne_any t n s w o0 o1 hxs
        have hos := itemB_size t n s o0 o1 hxs
        have hbl : (⟨(itemB t n s).toArray⟩ : ByteArray).data.toList = It.b ⟨t, n, s⟩ := rfl
        generalize (⟨(itemB t n s).toArray⟩ : ByteArray) = Z at *
        have HS := hide hsucc
        have HONE := hide hone
        have HBL := hide hbl
        generalize hL : listB (l.take k) = L at *
        clear hsucc hone hbl o2 hL
        go_wp2_with fail
        refine (unhide HONE _).mono ?_
        rintro e w1 ⟨rfl, hb1⟩
        have hbel1 := hbel.trans (hb1.mono hz)
        have hz1 := hbel1.size
        have hown1 : Owns w.heap.size w1 (.slice av L.length cv) L := hown.below hb1 (Nat.le_refl _)
        clear hown hbel hb1
        go_wp2_with (at_builtin; refine wpList_appS rfl _ _ rfl _ L rfl hown1 Z rfl (by omega) hz1 ?_)
        intro v2 w2 hown2 hfr
        have hbel2 := hbel1.trans hfr.below
        have hown3 : Owns w.heap.size w2 v2 (listB (l.take (k + 1))) := by rw [unhide HS, ← unhide HBL]; exact hown2
        clear hown2 hfr hown1 hbel1
        go_wp2
        go_roundw
        case rel => exact ⟨k + 1, by omega, by go_num, hown3, hbel2⟩
        case measure => simp [intOf]; omega
    · obtain rfl : k = l.length := by omega
      have hcv := hown.string
      have hfin : ∃ k', k' ≤ l.length ∧ Ending.returned (.string ⟨(listB (l.take l.length)).toArray⟩) = .returned (.string ⟨(listB (l.take k')).toArray⟩) ∧ (k' = l.length ∨ 262144 < (listB (l.take k')).length) ∧ Below w.heap.size w wr := ⟨l.length, hk, rfl, Or.inl rfl, hbel⟩
      have HF := hide hfin
      clear hfin
      generalize listB (l.take l.length) = L at *
      generalize L.length = m at *
      go_wp2
      go_ret
      exact unhide HF
end Go.Proofs.Ytpfcoaimciojjaa
