/-
  A string's bytes put at the end of a row of bytes of the call's own, however long (below 2^48 with a quarter more).
  The document's answer for a list's bytes (Bytes) is the plain function's.
  Plain facts on worlds: what stays but for some blocks, a block of cells, append to a row of the call's own and where the new row lies. Of no program.
  append to a row of the call's own, of cells that lie anywhere: what it gives, and where the new row lies. Of no program.
-/
import Derived.Test.YtiomngpfolkgpaaL02
import Derived.Deep.DeepAppendWide
import Derived.Test.YtiomngpfolkgpaaL06
import Derived.Test.YtiomngpfolkgpaaL01
import Derived.WalkLawsBesides
import Derived.Deep.AppendLies
import Derived.Laws.AppendOwnNone
namespace Go.Proofs.Ytiomngpfolkgpaa
open Go.RowKit

/-- What a new row of bytes holds that was laid for a longer text. -/
theorem owns_laid (B : Nat) (w : World) (old : Nat) (l : List UInt8) (hB : B ≤ w.heap.size) (hl : l.length ≤ maxLen) :
    Owns B (w.drew.alloc (.cells ((byteC l).toArray ++ Builtin.zeroCells (Value.int .u8 0).cells (grownCap w l.length old 5 - l.length)) 5)) (.slice (some ⟨w.heap.size, 0, none⟩) l.length (grownCap w l.length old 5)) l := by
  have hge := grownCap_ge w l.length old 5
  refine ⟨by rw [byteC_length, Nat.mul_one], .inr ⟨w.heap.size, _, _, rfl, hB, heap_alloc_new w.drew _, hge, grownCap_le_maxLen w _ _ _ hl, ?_, ?_⟩⟩
  · have h1 : (Value.int IntKind.u8 0).cells.size = 1 := rfl
    rw [Array.size_append, List.size_toArray, byteC_length, size_zeroCells, h1]
    omega
  · rw [Array.toList_append, Nat.mul_one, ← byteC_length l]
    exact List.take_left
theorem grown_laid (w : World) (o : Obj) (r : Option Nat) : w.grownBy (w.drew.alloc o) r := ⟨rfl, rfl, rfl, by simp, fun k hk _ => Below.heap_alloc w.drew _ k hk⟩
theorem appS_run {B : Nat} {w : World} {v : Value} {l : List UInt8} (ho : Owns B w v l) (s : ByteArray) (ty : TypeId) (hs : (l.length + s.size) + (l.length + s.size) / 4 + 192 ≤ 281474976710656) (hB : B ≤ w.heap.size) :
    ∃ v' w', (Builtin.append_ #[99, 9] ty #[v, .string s]).run Try.prog w = .ok v' w' ∧ Owns B w' v' (l ++ s.data.toList) ∧ w.grownBy w' v.ownBlock := by
  obtain ⟨i0, hi, hz0, hz1, hz2⟩ := info_parts info_u8
  have hlen : (l ++ s.data.toList).length = l.length + s.size := by rw [List.length_append, Array.length_toList]; rfl
  have hcs : byteC (l ++ s.data.toList) = byteC l ++ Lib.strCells s := by rw [byteC_append, byteC_str]
  have fin : ∀ {v' w'}, w'.ownsRow B 5 1 v' (l.length + s.size) (byteC l ++ Lib.strCells s) → Owns B w' v' (l ++ s.data.toList) := fun h => by unfold Owns; rw [hlen, hcs]; exact h
  rcases Nat.lt_or_ge 140737488355328 (l.length + s.size) with hbig | hsm
  · have h63 : l.length + s.size ≤ maxLen := by unfold maxLen; omega
    have laid : ∀ old, Owns B (w.drew.alloc (.cells ((byteC l).toArray ++ (Lib.strCells s).toArray ++ Builtin.zeroCells (Value.int .u8 0).cells (grownCap w (l.length + s.size) old 5 - (l.length + s.size))) 5)) (.slice (some ⟨w.heap.size, 0, none⟩) (l.length + s.size) (grownCap w (l.length + s.size) old 5)) (l ++ s.data.toList) := fun old => by
      have := owns_laid B w old (l ++ s.data.toList) hB (by omega)
      rw [hlen, hcs, ← List.append_toArray] at this
      exact this
    rcases id ho with ⟨_, ⟨rfl, h0⟩ | ⟨g, cap, cur, rfl, hbg, hg, hnc, hcm, hcz, htk⟩⟩
    · obtain rfl : l = [] := List.eq_nil_of_length_eq_zero h0
      have hr := run_append_nil_string (P := Try.prog) w 99 9 ty 5 i0 (.int .u8 0) Try.underlying99 Try.underlying9 hi hz0 s (by simp at hbig; omega) (by simp at h63; unfold maxLen at h63; omega) (by rw [hz2]; simp at hs; omega)
      have e1 : (s.data.map fun b => Value.int .u8 b.toNat) = (Lib.strCells s).toArray := by apply Array.ext'; simp [Lib.strCells]
      have := laid 0
      rw [e1] at hr
      simp only [List.length_nil, Nat.zero_add, List.nil_append] at this ⊢
      exact ⟨_, _, hr, by simpa [byteC] using this, grown_laid _ _ _⟩
    · by_cases hroom : l.length + s.size ≤ cap
      · have hr := Lib.run_append_room_string (P := Try.prog) w 99 9 ty 5 i0 Try.underlying99 Try.underlying9 hi hz1 g l.length cap cur hg s hroom (by omega)
        rw [Nat.mul_one] at htk hcz
        refine ⟨_, _, hr, fin ⟨by rw [List.length_append, byteC_length, Lib.strCells_length, Nat.mul_one], .inr ⟨g, cap, _, rfl, hbg, setRow_heap w g cur _ 5 _ hg, hroom, hcm, ?_, ?_⟩⟩, ⟨rfl, rfl, rfl, by simp, fun k _ hk => setRow_other w g k _ (fun e => hk (by simp [Value.ownBlock, e]))⟩⟩
        · have hcl : cur.toList.length = cur.size := Array.length_toList
          rw [List.size_toArray, List.length_append, List.length_append, List.length_take, List.length_drop, Lib.strCells_length, Nat.mul_one]; omega
        · rw [htk, Nat.mul_one, show l.length + s.size = (byteC l ++ Lib.strCells s).length by rw [List.length_append, byteC_length, Lib.strCells_length]]
          exact List.take_left
      · have hr := Lib.run_append_grow_string (P := Try.prog) w 99 9 ty 5 i0 (.int .u8 0) Try.underlying99 Try.underlying9 hi hz0 ⟨g, 0, none⟩ l.length cap (byteC l) (by rw [byteC_length, hz1, Nat.mul_one]) (ho.cells (g := g) rfl) s (by omega) (by unfold maxLen at h63; omega) (by rw [hz2, Nat.mul_one]; exact Nat.le_trans (nextslicecap_le_wide (by omega)) hs)
        exact ⟨_, _, hr, laid cap, grown_laid _ _ _⟩
  · obtain ⟨v', w', hr, h1, h2, _⟩ := Lib.run_append_own_string (P := Try.prog) w B 99 9 ty 5 i0 Try.underlying99 Try.underlying9 hi hz0 hz1 hz2 v _ _ ho s (by unfold maxLen; omega) hsm hB
    exact ⟨v', w', hr, fin h1, h2⟩
/-- The operation, for the walk. -/
theorem wpList_appS {B : Nat} {w : World} {ops : Array Oper} {rest : List Oper} {o : Oper} {a : Act} {Q : Exit → Act → World → Prop} (hgd : o.guard = none) (sl x : Operand)
    (ho : o.op = .call { callee := .builtin .append, args := #[sl, x], argTypes := #[99, 9] })
    (v : Value) (l : List UInt8) (hs : a.eval sl = v) (hown : Owns B w v l) (s : ByteArray) (hx : a.eval x = .string s)
    (hn : (l.length + s.size) + (l.length + s.size) / 4 + 192 ≤ 281474976710656) (hbase : B ≤ w.heap.size)
    (h : ∀ v' w', Owns B w' v' (l ++ s.data.toList) → Fr B 5 w w' → wpList Try.prog ops Q rest (a.put o.dst v') w') : wpList Try.prog ops Q (o :: rest) a w := by
  refine wpList_plain hgd fun K hK => ?_
  obtain ⟨v', w', hr, h2, h3⟩ := appS_run hown s o.type hn hbase
  unfold Oper.wp
  simp [execOp, ho, resolve, invoke, builtin, hs, hx, hr, Result.andThen]
  exact hK _ _ (h v' w' h2 ((Fr.refl _ _ _).grown hown h3 hbase))
end Go.Proofs.Ytiomngpfolkgpaa
namespace Go.Proofs.Ytiomngpfolkgpaa
open Go.RowKit

theorem Owns.below {B B' : Nat} {w w' : World} {v : Value} {l : List UInt8} (h : Owns B w v l) (hb : Below B' w w') (hB : w.heap.size ≤ B') : Owns B w' v l := by
  refine World.ownsRow.kept (row := none) h ⟨hb.os, hb.tape, hb.output, hb.size, fun k hk _ => hb.block k (by omega)⟩ ?_
  cases v.ownBlock
  · exact Or.inl rfl
  · exact Or.inr (by simp)
theorem itemB_size (t : Bool) (n : Int) (s : ByteArray) (h0 : -9223372036854775808 ≤ n) (h1 : n < 9223372036854775808) (hs : s.size ≤ 140737488351232) : (⟨(itemB t n s).toArray⟩ : ByteArray).size ≤ s.size + 11 := by
  show (List.toArray _).size ≤ _
  rw [List.size_toArray]
  unfold itemB
  split
  · have := (numB_length (u := zig (s.size : Int)) (zig_lt (by omega) (by omega))).2
    have e : s.data.toList.length = s.size := Array.length_toList
    rw [List.length_cons, List.length_append]; omega
  · have := (numB_length (u := zig n) (zig_lt h0 h1)).2
    rw [List.length_cons]; omega
set_option maxHeartbeats 1000000 in
set_option maxRecDepth 100000 in
theorem refBytes_any (ad : Option Addr) (cap : Nat) (l : List It) (w : World) (hlen : l.length ≤ 9223372036854775807) (hA : ItemsAt w ad l) (hok : ∀ x ∈ l, x.ok) (hsz : ∀ x ∈ l, x.s.size ≤ 140737488351232) :
    Calls Try.prog 39 #[.slice ad l.length cap] w fun e w' => ∃ k, k ≤ l.length ∧ e = .returned (.string ⟨(listB (l.take k)).toArray⟩) ∧ (k = l.length ∨ 262144 < (listB (l.take k)).length) ∧ Below w.heap.size w w' := by
  have HA := hide hA
  have HO := hide hok
  have HZ := hide hsz
  clear hA hok hsz
  go_enter Try.func39, Try.ntmps39
  go_wp2_with fail
  go_loopw [3, 4] (fun v i wr => ∃ k : Nat, k ≤ l.length ∧ i = .int .i64 k ∧ Owns w.heap.size wr v (listB (l.take k)) ∧ Below w.heap.size w wr) (fun _ i _ => l.length - (intOf i).toNat)
  case atStart => exact ⟨0, Nat.zero_le _, rfl, Owns.nil _ _, Below.refl _ _⟩
  case round =>
    obtain ⟨k, hk, rfl, hown, hbel⟩ := hrel
    obtain ⟨av, cv, rfl⟩ := hown.form
    have hz := hbel.size
    by_cases hlt : k < l.length
    · by_cases hbig : 262144 < (listB (l.take k)).length
      · have hcv := hown.string
        have hfin : ∃ k', k' ≤ l.length ∧ Ending.returned (.string ⟨(listB (l.take k)).toArray⟩) = .returned (.string ⟨(listB (l.take k')).toArray⟩) ∧ (k' = l.length ∨ 262144 < (listB (l.take k')).length) ∧ Below w.heap.size w wr := ⟨k, hk, rfl, Or.inr hbig, hbel⟩
        have HF := hide hfin
        clear hfin
        generalize listB (l.take k) = L at *
        generalize L.length = m at *
        go_wp2
        go_ret
        exact unhide HF
      · obtain ⟨b, off, rfl, hbw, hc⟩ := (unhide HA).below hbel (Nat.le_refl _) (fun e => by rw [e] at hlt; simp at hlt)
        obtain ⟨c0, c1, c2⟩ := hc k hlt
        clear hc
        have hxok := unhide HO l[k] (List.getElem_mem hlt)
        have hxs := unhide HZ l[k] (List.getElem_mem hlt)
        have hsucc := listB_take_succ hlt
        generalize hx : l[k] = x at *
        clear hx
        obtain ⟨t, n, s⟩ := x
        obtain ⟨o0, o1, o2⟩ := hxok
        dsimp only at o0 o1 o2 hxs
        have hone := fun w => refOne_any t n s w o0 o1 hxs
        have hos := itemB_size t n s o0 o1 hxs
        have hbl : (⟨(itemB t n s).toArray⟩ : ByteArray).data.toList = It.b ⟨t, n, s⟩ := rfl
        generalize (⟨(itemB t n s).toArray⟩ : ByteArray) = Z at *
        have HS := hide hsucc
        have HONE := hide hone
        have HBL := hide hbl
        generalize hL : listB (l.take k) = L at *
        clear hsucc hone hbl o2 hL
        go_wp2_with fail
        refine (unhide HONE _).mono ?_
        rintro e w1 ⟨rfl, hb1⟩
        have hbel1 := hbel.trans (hb1.mono hz)
        have hz1 := hbel1.size
        have hown1 : Owns w.heap.size w1 (.slice av L.length cv) L := hown.below hb1 (Nat.le_refl _)
        clear hown hbel hb1
        go_wp2_with (at_builtin; refine wpList_appS rfl _ _ rfl _ L rfl hown1 Z rfl (by omega) hz1 ?_)
        intro v2 w2 hown2 hfr
        have hbel2 := hbel1.trans hfr.below
        have hown3 : Owns w.heap.size w2 v2 (listB (l.take (k + 1))) := by rw [unhide HS, ← unhide HBL]; exact hown2
        clear hown2 hfr hown1 hbel1
        go_wp2
        go_roundw
        case rel => exact ⟨k + 1, by omega, by go_num, hown3, hbel2⟩
        case measure => simp [intOf]; omega
    · obtain rfl : k = l.length := by omega
      have hcv := hown.string
      have hfin : ∃ k', k' ≤ l.length ∧ Ending.returned (.string ⟨(listB (l.take l.length)).toArray⟩) = .returned (.string ⟨(listB (l.take k')).toArray⟩) ∧ (k' = l.length ∨ 262144 < (listB (l.take k')).length) ∧ Below w.heap.size w wr := ⟨l.length, hk, rfl, Or.inl rfl, hbel⟩
      have HF := hide hfin
      clear hfin
      generalize listB (l.take l.length) = L at *
      generalize L.length = m at *
      go_wp2
      go_ret
      exact unhide HF
end Go.Proofs.Ytiomngpfolkgpaa
namespace Go.Proofs.Ytiomngpfolkgpaa
open Go.RowKit

/-- What stays: all blocks but some. -/
structure Kp (F : List Nat) (w w' : World) : Prop where
  os : w'.os = w.os
  tape : w'.tape = w.tape
  output : w'.output = w.output
  size : w.heap.size ≤ w'.heap.size
  block : ∀ k, k < w.heap.size → k ∉ F → w'.heap[k]? = w.heap[k]?
theorem Kp.refl (F : List Nat) (w : World) : Kp F w w := ⟨rfl, rfl, rfl, Nat.le_refl _, fun _ _ _ => rfl⟩
theorem Kp.trans {F G : List Nat} {a b c : World} (h : Kp F a b) (k : Kp G b c) (hG : ∀ x ∈ G, x ∈ F ∨ a.heap.size ≤ x) : Kp F a c :=
  ⟨k.os.trans h.os, k.tape.trans h.tape, k.output.trans h.output, Nat.le_trans h.size k.size, fun i hi hn =>
    (k.block i (Nat.lt_of_lt_of_le hi h.size) (fun hm => (hG i hm).elim hn (fun h1 => by omega))).trans (h.block i hi hn)⟩
theorem Kp.mono {F G : List Nat} {a b : World} (h : Kp F a b) (hG : ∀ x ∈ F, x ∈ G) : Kp G a b := ⟨h.os, h.tape, h.output, h.size, fun i hi hn => h.block i hi (fun hm => hn (hG i hm))⟩
theorem Kp.of {w w' : World} {row : Option Nat} (h : w.grownBy w' row) : Kp row.toList w w' := ⟨h.os, h.tape, h.output, h.size, fun i hi hn => h.block i hi (fun e => hn (by rw [← e]; simp))⟩
theorem Kp.alloc (w : World) (o : Obj) : Kp [] w (w.alloc o) := Kp.of (World.grownBy_alloc w o none)
theorem Kp.drew (w : World) : Kp [] w w.drew := ⟨rfl, rfl, rfl, Nat.le_refl _, fun _ _ _ => rfl⟩
theorem Kp.below {F : List Nat} {B : Nat} {w w' : World} (h : Kp F w w') (hB : B ≤ w.heap.size) (hF : ∀ k ∈ F, B ≤ k) : Below B w w' :=
  ⟨h.os, h.tape, h.output, h.size, fun k hk => h.block k (by omega) (fun hm => by have := hF k hm; omega)⟩
theorem Kp.ofBelow {w w' : World} (h : Below w.heap.size w w') : Kp [] w w' := ⟨h.os, h.tape, h.output, h.size, fun k hk _ => h.block k hk⟩
theorem Kp.cell {F : List Nat} {w w' : World} (h : Kp F w w') {p : Addr} {v : Value} (hc : w.cell? p = some v) (hp : p.block ∉ F) : w'.cell? p = some v :=
  (World.cell?_of_block (h.block p.block (World.block_lt_of_cell? w p hc) hp)).trans hc
/-- The box of a change lies there. -/
def CBox (g : Nat) (cs : Array Value) (t : TypeId) (w : World) : Prop := w.heap[g]? = some (.cells cs t (0, 0))
theorem CBox.cell {g : Nat} {cs : Array Value} {t : TypeId} {w : World} (h : CBox g cs t w) {i : Nat} {v : Value} (hv : cs[i]? = some v) : w.cell? ⟨g, i, none⟩ = some v := by
  unfold CBox at h
  simp [World.cell?, h, hv]
theorem CBox.kp {g : Nat} {cs : Array Value} {t : TypeId} {w w' : World} {F : List Nat} (h : CBox g cs t w) (hk : Kp F w w') (hF : g ∉ F) : CBox g cs t w' := (hk.block g (Array.getElem?_eq_some_iff.1 h).1 hF).trans h
theorem CBox.new (w : World) (cs : Array Value) (t : TypeId) : CBox w.heap.size cs t (w.alloc (.cells cs t)) := heap_alloc_new w _
theorem CBox.set {g : Nat} {cs : Array Value} {t : TypeId} {w : World} (h : CBox g cs t w) (i : Nat) (v : Value) : CBox g (cs.setIfInBounds i v) t (w.setCell ⟨g, i, none⟩ v) := by
  unfold CBox at *
  unfold World.setCell
  simp [h, Array.getElem?_modify]
theorem CBox.froz {g : Nat} {cs : Array Value} {t : TypeId} {w : World} (h : CBox g cs t w) (i : Nat) : w.frozen? ⟨g, i, none⟩ = false := by
  unfold CBox at h
  simp [World.frozen?, h]
theorem Kp.set (w : World) (p i : Nat) (v : Value) : Kp [p] w (w.setCell ⟨p, i, none⟩ v) :=
  ⟨rfl, rfl, rfl, by simp [World.setCell], fun k _ hn => Below.heap_setCell _ _ _ _ (by simpa using hn)⟩
theorem Kp.drewQ (w : World) (n : Nat) : Kp [] w (w.drewN n) := ⟨rfl, rfl, rfl, Nat.le_refl _, fun _ _ _ => rfl⟩
/-- append to a row of the call's own, as one step of a statement whose order is drawn; where the new row lies. -/
theorem step_append_lies {P : Program} {ops : Array Oper} {o : Oper} {a : Act} {w : World} {K : Act → World → Prop} {Q : Exit → Act → World → Prop} {E : Prop}
    (hg : o.guard = none) (s x : Operand) (t : TypeId) (hop : o.op = Op.call { callee := Callee.builtin Builtin.append, args := #[s, x], argTypes := #[t, t] })
    (base : Nat) (e : TypeId) (i : TypeInfo) (z : Value) (size bytes : Nat) (h1 : P.underlying t = some (.slice e)) (h2 : P.info? e = some i) (h3 : i.zero = some z) (h4 : i.size = size) (h5 : i.bytes = bytes) (h6 : z.cells.size = size) (h7 : 0 < size)
    (v : Value) (n : Nat) (xs : List Value) (hs : a.eval s = v) (hown : w.ownsRow base e size v n xs)
    (ad : Addr) (m c : Nat) (news : List Value) (hx : a.eval x = .slice (some ad) m c) (hn : news.length = m * size) (hc : ∀ j u, news[j]? = some u → w.cell? (ad.add j) = some u) (h1c : ∀ u ∈ news, u.oneCell' = true) (hm : 0 < m)
    (b1 : n + m ≤ maxLen) (b2 : (n + m) * bytes ≤ 140737488355328) (hb : base ≤ w.heap.size)
    (hK : ∀ g cap w', w'.ownsRow base e size (.slice (some ⟨g, 0, none⟩) (n + m) cap) (n + m) (xs ++ news) → w.grownBy w' v.ownBlock → (v.ownBlock = some g ∨ g = w.heap.size) → K (a.put o.dst (.slice (some ⟨g, 0, none⟩) (n + m) cap)) w') :
    if Region.wanted o (yielded ops a.tmps) = true then Oper.wp P o a w K Q else E := by
  have hw : Region.wanted o (yielded ops a.tmps) = true := by simp [Region.wanted, hg]
  rw [if_pos hw]
  obtain ⟨g, cap, w', hrun, r1, r2, r3, _⟩ := run_append_lies (P := P) (w := w) t o.type base e i z size bytes h1 h2 h3 h4 h5 h6 h7 v n xs hown ad m c news hn hc h1c hm b1 b2 hb _ rfl
  unfold Oper.wp
  simp [execOp, hop, resolve, invoke, builtin, hs, hx, hrun, Result.andThen]
  exact hK g cap w' r1 r2 r3
theorem one_new (w : World) (x : Value) (t : TypeId) : ∀ (j : Nat) (u : Value), [x][j]? = some u → (w.alloc (.cells #[x] t)).cell? ((⟨w.heap.size, 0, none⟩ : Addr).add j) = some u := fun j u hj => by
  match j, hj with
  | 0, hj =>
    simp at hj
    subst hj
    exact (CBox.new w #[x] t).cell rfl
end Go.Proofs.Ytiomngpfolkgpaa
namespace Go.Proofs.Ytiomngpfolkgpaa
open Go.RowKit

theorem run_app_any {P : Program} {w : World} (t ty e : TypeId) (i : TypeInfo) (z : Value) (size bytes : Nat) (h1 : P.underlying t = some (.slice e)) (h2 : P.info? e = some i) (h3 : i.zero = some z) (h4 : i.size = size) (h5 : i.bytes = bytes) (h6 : z.cells.size = size) (h7 : 0 < size)
    {g2 n2 cap2 : Nat} {xs : List Value} (ho : w.ownsRow 0 e size (.slice (some ⟨g2, 0, none⟩) n2 cap2) n2 xs)
    (ad : Option Addr) (m c : Nat) (news : List Value) (hn : news.length = m * size) (hnone : ad = none → m = 0 ∧ c = 0) (hsp : ∀ a, ad = some a → a.spot = none) (hc : ∀ a, ad = some a → ∀ j u, news[j]? = some u → w.cell? (a.add j) = some u) (h1c : ∀ u ∈ news, u.oneCell' = true)
    (b1 : n2 + m ≤ maxLen) (b2 : (n2 + m) * bytes ≤ 140737488355328) :
    ∃ g cap w', (Builtin.append_ #[t, t] ty #[.slice (some ⟨g2, 0, none⟩) n2 cap2, .slice ad m c]).run P w = .ok (.slice (some ⟨g, 0, none⟩) (n2 + m) cap) w' ∧ w'.ownsRow 0 e size (.slice (some ⟨g, 0, none⟩) (n2 + m) cap) (n2 + m) (xs ++ news) ∧ w.grownBy w' (some g2) ∧ (g = g2 ∨ g = w.heap.size) := by
  have hcp : n2 ≤ cap2 := by
    obtain ⟨_, ⟨e, _⟩ | ⟨g, cp, cur, e, _, _, hn, _⟩⟩ := id ho
    · cases e
    · injection e with _ e2 e3; omega
  cases ad with
  | none =>
    obtain ⟨rfl, rfl⟩ := hnone rfl
    obtain rfl : news = [] := List.eq_nil_of_length_eq_zero (by omega)
    exact ⟨g2, cap2, w, by simpa using run_append_owned_none (P := P) (w := w) 0 t ty e i size h1 h2 _ _ _ ho, by simpa using ho, World.grownBy.refl _ _, Or.inl rfl⟩
  | some a =>
    obtain ⟨b, off, spot⟩ := a
    obtain rfl : spot = none := hsp _ rfl
    rcases Nat.eq_zero_or_pos m with h0 | hpos
    · subst h0
      obtain rfl : news = [] := List.eq_nil_of_length_eq_zero (by omega)
      have := run_append_room_cells (P := P) (w := w) t ty e i h1 h2 g2 0 n2 cap2 ⟨b, off, none⟩ 0 c [] (by simp) (fun j u hj => by simp at hj) (fun u hu => by cases hu) (by omega) (fun j hj => absurd hj (by simp)) (fun j hj => absurd hj (by simp))
      exact ⟨g2, cap2, w, by simpa [World.setCells] using this, by simpa using ho, World.grownBy.refl _ _, Or.inl rfl⟩
    · obtain ⟨g3, cap3, w', hr, r1, r2, r3, _⟩ := run_append_lies (P := P) (w := w) t ty 0 e i z size bytes h1 h2 h3 h4 h5 h6 h7 _ _ _ ho ⟨b, off, none⟩ m c news hn (hc _ rfl) h1c hpos b1 b2 (Nat.zero_le _) _ rfl
      refine ⟨g3, cap3, w', hr, r1, r2, ?_⟩
      rcases r3 with r3 | r3
      · exact Or.inl (by simpa [Value.ownBlock] using r3.symm)
      · exact Or.inr r3
/-- The same, as one step of a statement whose order is drawn. -/
theorem step_app_any {P : Program} {ops : Array Oper} {o : Oper} {a : Act} {w : World} {K : Act → World → Prop} {Q : Exit → Act → World → Prop} {E : Prop}
    (hg : o.guard = none) (s x : Operand) (t : TypeId) (hop : o.op = Op.call { callee := Callee.builtin Builtin.append, args := #[s, x], argTypes := #[t, t] })
    (e : TypeId) (i : TypeInfo) (z : Value) (size bytes : Nat) (h1 : P.underlying t = some (.slice e)) (h2 : P.info? e = some i) (h3 : i.zero = some z) (h4 : i.size = size) (h5 : i.bytes = bytes) (h6 : z.cells.size = size) (h7 : 0 < size)
    {g2 n2 cap2 : Nat} {xs : List Value} (hs : a.eval s = .slice (some ⟨g2, 0, none⟩) n2 cap2) (ho : w.ownsRow 0 e size (.slice (some ⟨g2, 0, none⟩) n2 cap2) n2 xs)
    (ad : Option Addr) (m c : Nat) (news : List Value) (hx : a.eval x = .slice ad m c) (hn : news.length = m * size) (hnone : ad = none → m = 0 ∧ c = 0) (hsp : ∀ a, ad = some a → a.spot = none) (hc : ∀ a, ad = some a → ∀ j u, news[j]? = some u → w.cell? (a.add j) = some u) (h1c : ∀ u ∈ news, u.oneCell' = true)
    (b1 : n2 + m ≤ maxLen) (b2 : (n2 + m) * bytes ≤ 140737488355328) (N : Nat) (hN : n2 + m = N)
    (hK : ∀ g cap w', w'.ownsRow 0 e size (.slice (some ⟨g, 0, none⟩) N cap) N (xs ++ news) → w.grownBy w' (some g2) → (g = g2 ∨ g = w.heap.size) → K (a.put o.dst (.slice (some ⟨g, 0, none⟩) N cap)) w') :
    if Region.wanted o (yielded ops a.tmps) = true then Oper.wp P o a w K Q else E := by
  subst hN
  have hw : Region.wanted o (yielded ops a.tmps) = true := by simp [Region.wanted, hg]
  rw [if_pos hw]
  obtain ⟨g, cap, w', hrun, r1, r2, r3⟩ := run_app_any (P := P) (w := w) t o.type e i z size bytes h1 h2 h3 h4 h5 h6 h7 ho ad m c news hn hnone hsp hc h1c b1 b2
  unfold Oper.wp
  simp [execOp, hop, resolve, invoke, builtin, hs, hx, hrun, Result.andThen]
  exact hK g cap w' r1 r2 r3
/-- append, by its run. -/
theorem wpList_app_run {P : Program} {ops : Array Oper} {rest : List Oper} {o : Oper} {a : Act} {w w' : World} {Q : Exit → Act → World → Prop} {v u1 u2 : Value} (hgd : o.guard = none) (s x : Operand) (t : TypeId)
    (ho : o.op = .call { callee := .builtin .append, args := #[s, x], argTypes := #[t, t] }) (hs : a.eval s = u1) (hx : a.eval x = u2) (hr : (Builtin.append_ #[t, t] o.type #[u1, u2]).run P w = .ok v w')
    (h : wpList P ops Q rest (a.put o.dst v) w') : wpList P ops Q (o :: rest) a w :=
  wpList_plain hgd fun _ hK => by
    unfold Oper.wp
    simp [execOp, ho, resolve, invoke, builtin, hs, hx, hr, Result.andThen]
    exact hK _ _ h
/-- What stays while a row of the call's own grows. -/
theorem kp_gr {wx W w5 : World} {g2 : Nat} (hk : Kp [] wx W) (hg : W.grownBy w5 (some g2)) (hle : wx.heap.size ≤ g2) : Kp [] wx w5 := hk.trans (Kp.of hg) (by simp; omega)
end Go.Proofs.Ytiomngpfolkgpaa
