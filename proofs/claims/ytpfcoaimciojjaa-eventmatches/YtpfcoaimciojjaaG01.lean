/-
  Plain facts on worlds: what a row of bytes that the call itself made holds, and what stays as it was while such rows grow. Of no program.
  Plain facts on orders, of no program: numbers, lists, one order behind another.
  The library's contracts at this program, laid by the guide's own tools: how many bits a number has, and a copy of a string.
-/
import Derived.WalkKit
import Derived.WalkSpells
import Derived.Lib.AppendStr
import Derived.Lib.Small
import Derived.Lib.Bytealg
import Derived.Shelf.Small.Strs
import Derived.Shelf.Small.Wraps
import Derived.Shelf.Strconv.Itoa0
import Derived.Shelf.LaysM
import Derived.Shelf.Strconv.Clone
import Derived.Ground.Names2Prog
import Derived.Shelf.Slices.SearchI
import Derived.Test.YtpfcoaimciojjaaProg
namespace Go.Proofs.Ytpfcoaimciojjaa
open Go.RowKit

theorem hide {p : Prop} (h : p) : Hid p := h
theorem unhide {p : Prop} (h : Hid p) : p := h
theorem ret_int {k : IntKind} {a b : Int} (h : a = b) : Ending.returned (.int k a) = .returned (.int k b) := by rw [h]

theorem ret_bool {a b : Bool} (h : a = b) : Ending.returned (.bool a) = .returned (.bool b) := by rw [h]

/-- What stays: all blocks below B, and all that are no rows of the element type e. -/
structure Fr (B e : Nat) (w w' : World) : Prop where
  below : Below B w w'
  other : ∀ k, k < w.heap.size → (∀ cur f, w.heap[k]? ≠ some (.cells cur e f)) → w'.heap[k]? = w.heap[k]?
theorem Fr.refl (B e : Nat) (w : World) : Fr B e w w := ⟨Below.refl _ _, fun _ _ _ => rfl⟩
theorem Fr.trans {B e : Nat} {a b c : World} (h : Fr B e a b) (k : Fr B e b c) : Fr B e a c :=
  ⟨h.below.trans k.below, fun j hj hn => by
    have e1 := h.other j hj hn
    rw [k.other j (by have := h.below.size; omega) (fun cur f => by rw [e1]; exact hn cur f), e1]⟩
theorem Fr.mono {B B' e : Nat} {a b : World} (h : Fr B e a b) (hB : B' ≤ B) : Fr B' e a b := ⟨h.below.mono hB, h.other⟩
theorem Fr.drew {B e : Nat} {a w : World} (h : Fr B e a w) : Fr B e a w.drew := ⟨h.below.drew, h.other⟩
theorem Fr.alloc {B e : Nat} {a w : World} (h : Fr B e a w) (hB : B ≤ w.heap.size) (o : Obj) : Fr B e a (w.alloc o) :=
  ⟨h.below.alloc hB o, fun k hk hn => by rw [Below.heap_alloc _ _ _ (by have := h.below.size; omega)]; exact h.other k hk hn⟩
theorem Fr.grown {B e size n : Nat} {a w w' : World} {v : Value} {xs : List Value} (h : Fr B e a w) (ho : w.ownsRow B e size v n xs) (hg : w.grownBy w' v.ownBlock) (hB : B ≤ w.heap.size) : Fr B e a w' :=
  ⟨h.below.grown hg hB (fun k hk => (ho.lt k hk).1), fun k hk hn => by
    have e1 := h.other k hk hn
    rw [← e1]
    refine hg.block k (by have := h.below.size; omega) fun hv => ?_
    obtain ⟨_, ⟨rfl, _⟩ | ⟨g, cap, cur, rfl, _, hh, _⟩⟩ := ho
    · simp [Value.ownBlock] at hv
    · simp [Value.ownBlock] at hv
      subst hv
      exact hn cur (0, 0) (by rw [← e1]; exact hh)⟩
theorem Fr.size {B e : Nat} {a w : World} (h : Fr B e a w) : a.heap.size ≤ w.heap.size := h.below.size
/-- A block that is no row of that type is there still. -/
theorem Fr.keep {B e k : Nat} {a w : World} (h : Fr B e a w) {cur : Array Value} {t : TypeId} {f : Nat × Nat} (hb : a.heap[k]? = some (.cells cur t f)) (ht : t ≠ e) : w.heap[k]? = some (.cells cur t f) := by
  have hk : k < a.heap.size := by
    rcases Nat.lt_or_ge k a.heap.size with h1 | h1
    · exact h1
    · rw [Array.getElem?_eq_none h1] at hb; cases hb
  rw [h.other k hk (fun c g hc => by rw [hb] at hc; simp at hc; exact ht hc.2.1)]; exact hb

/-- append to a row of the call's own, as one step of a statement whose order is drawn. -/
theorem step_append_own {P : Program} {ops : Array Oper} {o : Oper} {a : Act} {w : World} {K : Act → World → Prop} {Q : Exit → Act → World → Prop} {E : Prop}
    (hg : o.guard = none) (s x : Operand) (t : TypeId) (hop : o.op = Op.call { callee := Callee.builtin Builtin.append, args := #[s, x], argTypes := #[t, t] })
    (base : Nat) (e : TypeId) (i : TypeInfo) (z : Value) (size bytes : Nat) (h1 : P.underlying t = some (.slice e)) (h2 : P.info? e = some i) (h3 : i.zero = some z) (h4 : i.size = size) (h5 : i.bytes = bytes) (h6 : z.cells.size = size) (h7 : 0 < size)
    (v : Value) (n : Nat) (xs : List Value) (hs : a.eval s = v) (hown : w.ownsRow base e size v n xs)
    (ad : Addr) (m c : Nat) (news : List Value) (hx : a.eval x = .slice (some ad) m c) (hn : news.length = m * size) (hc : ∀ j u, news[j]? = some u → w.cell? (ad.add j) = some u) (h1c : ∀ u ∈ news, u.oneCell' = true)
    (b1 : n + m ≤ maxLen) (b2 : (n + m) * bytes ≤ 140737488355328) (hb : base ≤ w.heap.size)
    (hK : ∀ v' w', w'.ownsRow base e size v' (n + m) (xs ++ news) → w.grownBy w' v.ownBlock → K (a.put o.dst v') w') :
    if Region.wanted o (yielded ops a.tmps) = true then Oper.wp P o a w K Q else E := by
  have hw : Region.wanted o (yielded ops a.tmps) = true := by simp [Region.wanted, hg]
  rw [if_pos hw]
  obtain ⟨v', w', hrun, r1, r2, _⟩ := run_append_own (P := P) w base t o.type e i z size bytes h1 h2 h3 h4 h5 h6 h7 v n xs hown ad m c news hn hc h1c b1 b2 hb
  unfold Oper.wp
  simp [execOp, hop, resolve, invoke, builtin, hs, hx, hrun, Result.andThen]
  exact hK v' w' r1 r2

/-- Bytes as cells. -/
def byteC (l : List UInt8) : List Value := l.map fun b => .int .u8 (b.toNat : Int)
theorem byteC_append (a b : List UInt8) : byteC (a ++ b) = byteC a ++ byteC b := by unfold byteC; exact List.map_append
theorem byteC_length (a : List UInt8) : (byteC a).length = a.length := by unfold byteC; exact List.length_map ..
theorem byteC_str (s : ByteArray) : Lib.strCells s = byteC s.data.toList := by
  unfold Lib.strCells byteC; rfl
theorem byteC_one (n : Nat) (h : n < 256) : [Value.int .u8 (n : Int)] = byteC [UInt8.ofNat n] := by
  unfold byteC; simp [Nat.mod_eq_of_lt h]
end Go.Proofs.Ytpfcoaimciojjaa
namespace Go.Proofs.Ytpfcoaimciojjaa

/-- Lists by their first place of unlike members, else by their lengths. -/
def cL {α : Type} (c : α → α → Int) : List α → List α → Int
  | [], [] => 0
  | [], _ :: _ => -1
  | _ :: _, [] => 1
  | a :: r, b :: s => if c a b = 0 then cL c r s else c a b
/-- One order behind another. -/
def orI (a b : Int) : Int := if a = 0 then b else a
/-- What an order is. -/
structure Pre {α : Type} (c : α → α → Int) : Prop where
  anti : ∀ x y, c y x = - c x y
  trans : ∀ x y z, c x y ≤ 0 → c y z ≤ 0 → c x z ≤ 0 ∧ (c x z = 0 → c x y = 0 ∧ c y z = 0)
theorem pre_int : Pre Lib.compareInt where
  anti x y := by unfold Lib.compareInt; repeat' split
                 all_goals omega
  trans x y z h1 h2 := by
    unfold Lib.compareInt at *
    repeat' split at h1
    all_goals repeat' split at h2
    all_goals repeat' split
    all_goals omega
theorem zero_int (x y : Int) : Lib.compareInt x y = 0 ↔ x = y := by
  unfold Lib.compareInt; repeat' split
  all_goals omega
theorem Pre.or {α : Type} {c d : α → α → Int} (hc : Pre c) (hd : Pre d) : Pre fun x y => orI (c x y) (d x y) where
  anti x y := by
    show orI (c y x) (d y x) = - orI (c x y) (d x y)
    unfold orI
    rw [hc.anti x y, hd.anti x y]
    split <;> split <;> omega
  trans x y z h1 h2 := by
    unfold orI at *
    have k1 : c x y ≤ 0 := by split at h1 <;> omega
    have k2 : c y z ≤ 0 := by split at h2 <;> omega
    obtain ⟨t1, t2⟩ := hc.trans x y z k1 k2
    by_cases h0 : c x z = 0
    · obtain ⟨e1, e2⟩ := t2 h0
      rw [if_pos e1] at h1
      rw [if_pos e2] at h2
      rw [if_pos h0, if_pos e1, if_pos e2]
      exact hd.trans x y z h1 h2
    · rw [if_neg h0]
      exact ⟨t1, fun h => absurd h h0⟩
theorem Pre.on {α β : Type} {c : β → β → Int} (hc : Pre c) (f : α → β) : Pre fun x y => c (f x) (f y) :=
  ⟨fun x y => hc.anti (f x) (f y), fun x y z => hc.trans (f x) (f y) (f z)⟩
theorem cL_anti {α : Type} {c : α → α → Int} (hc : ∀ x y, c y x = - c x y) : ∀ x y, cL c y x = - cL c x y
  | [], [] => rfl
  | [], _ :: _ => rfl
  | _ :: _, [] => rfl
  | a :: r, b :: s => by
    simp only [cL]
    rw [hc a b, cL_anti hc r s]
    by_cases h : c a b = 0
    · rw [if_pos h, if_pos (by omega)]
    · rw [if_neg h, if_neg (by omega)]
theorem cL_trans {α : Type} {c : α → α → Int} (hc : Pre c) : ∀ x y z, cL c x y ≤ 0 → cL c y z ≤ 0 → cL c x z ≤ 0 ∧ (cL c x z = 0 → cL c x y = 0 ∧ cL c y z = 0)
  | [], [], [], _, _ => ⟨by simp [cL], fun _ => ⟨rfl, rfl⟩⟩
  | [], [], _ :: _, _, _ => ⟨by simp [cL], fun h => by simp [cL] at h⟩
  | [], _ :: _, [], _, h => by simp [cL] at h
  | [], _ :: _, _ :: _, _, _ => ⟨by simp [cL], fun h => by simp [cL] at h⟩
  | _ :: _, [], _, h, _ => by simp [cL] at h
  | _ :: _, _ :: _, [], _, h => by simp [cL] at h
  | a :: r, b :: s, d :: t, h1, h2 => by
    simp only [cL] at *
    have k1 : c a b ≤ 0 := by split at h1 <;> omega
    have k2 : c b d ≤ 0 := by split at h2 <;> omega
    obtain ⟨t1, t2⟩ := hc.trans a b d k1 k2
    by_cases h0 : c a d = 0
    · obtain ⟨e1, e2⟩ := t2 h0
      rw [if_pos e1] at h1
      rw [if_pos e2] at h2
      rw [if_pos h0, if_pos e1, if_pos e2]
      exact cL_trans hc r s t h1 h2
    · rw [if_neg h0]
      exact ⟨t1, fun h => absurd h h0⟩
theorem pre_list {α : Type} {c : α → α → Int} (hc : Pre c) : Pre (cL c) := ⟨cL_anti hc.anti, cL_trans hc⟩
theorem zero_list {α : Type} {c : α → α → Int} (hc : ∀ x y, c x y = 0 ↔ x = y) : ∀ x y, cL c x y = 0 ↔ x = y
  | [], [] => by simp [cL]
  | [], _ :: _ => by simp [cL]
  | _ :: _, [] => by simp [cL]
  | a :: r, b :: s => by
    simp only [cL, List.cons.injEq]
    by_cases h : c a b = 0
    · rw [if_pos h, zero_list hc r s]; exact ⟨fun e => ⟨(hc a b).1 h, e⟩, fun e => e.2⟩
    · rw [if_neg h]; exact ⟨fun e => absurd e h, fun e => absurd ((hc a b).2 e.1) h⟩
theorem bytes_list : ∀ a b : List UInt8, Lib.compareBytes a b = cL (fun x y => Lib.compareInt (x.toNat : Int) (y.toNat : Int)) a b
  | [], [] => rfl
  | [], _ :: _ => rfl
  | _ :: _, [] => rfl
  | x :: r, y :: s => by
    simp only [Lib.compareBytes, cL, bytes_list r s, Lib.compareInt, UInt8.lt_iff_toNat_lt]
    repeat' split
    all_goals first | rfl | (exfalso; omega)
theorem pre_bytes : Pre Lib.compareBytes := by
  have := pre_list (pre_int.on fun x : UInt8 => (x.toNat : Int))
  refine ⟨fun x y => ?_, fun x y z => ?_⟩
  · rw [bytes_list, bytes_list]; exact this.anti x y
  · rw [bytes_list, bytes_list, bytes_list]; exact this.trans x y z
theorem zero_bytes (a b : List UInt8) : Lib.compareBytes a b = 0 ↔ a = b := by
  rw [bytes_list]
  refine zero_list (fun x y => ?_) a b
  rw [zero_int]
  exact ⟨fun h => UInt8.toNat_inj.1 (by omega), fun h => by rw [h]⟩
end Go.Proofs.Ytpfcoaimciojjaa
namespace Go.Proofs
open Go.Shelf
def Try.lays213_ren : Go.Shelf.Ren := ⟨fun | 213 => 61 | 265 => 68 | n => n, fun | 9 => 9 | 3 => 3 | n => n, fun | n => n⟩
theorem Try.lays213 : Go.Proofs.Lays.n213 Try.prog Try.lays213_ren := {
  mixed := by kernel_rfl
  f213 := Try.func61.trans (congrArg some (by kernel_rfl))
  f265 := Try.func68.trans (congrArg some (by kernel_rfl))
  t3 := Try.underlying3
  a3 := Try.isAgg3
  z3 := Try.sizeOf3
  v3 := Try.zeroValue3
  t9 := Try.underlying9
  a9 := Try.isAgg9
  z9 := Try.sizeOf9
  v9 := Try.zeroValue9 }
open Go.RowKit in
theorem Try.bytealg_CompareString (a b : ByteArray) (w : World) :
    Calls Try.prog 61 #[.string a, .string b] w fun e w' => e = .returned (.int .i64 (Lib.compareBytes a.data.toList b.data.toList)) ∧ w' = w := Any.bytealg_CompareString Try.lays213 a b w
def Try.lays106_ren : Go.Shelf.Ren := ⟨fun | 106 => 53 | 213 => 61 | 265 => 68 | n => n, fun | 9 => 9 | 3 => 3 | n => n, fun | n => n⟩
theorem Try.lays106 : Go.Proofs.Lays.n106 Try.prog Try.lays106_ren := {
  mixed := by kernel_rfl
  f106 := Try.func53.trans (congrArg some (by kernel_rfl))
  f213 := Try.func61.trans (congrArg some (by kernel_rfl))
  f265 := Try.func68.trans (congrArg some (by kernel_rfl))
  t3 := Try.underlying3
  a3 := Try.isAgg3
  z3 := Try.sizeOf3
  v3 := Try.zeroValue3
  t9 := Try.underlying9
  a9 := Try.isAgg9
  z9 := Try.sizeOf9
  v9 := Try.zeroValue9 }
open Go.RowKit in
theorem Try.strings_Compare (a b : ByteArray) (w : World) :
    Calls Try.prog 53 #[.string a, .string b] w fun e w' => e = .returned (.int .i64 (Lib.compareBytes a.data.toList b.data.toList)) ∧ w' = w := Any.strings_Compare Try.lays106 a b w
def Try.lays215_ren : Go.Shelf.Ren := ⟨fun | 215 => 60 | n => n, fun | 3 => 3 | 4 => 4 | n => n, fun | n => n⟩
theorem Try.lays215 : Go.Proofs.Lays.n215 Try.prog Try.lays215_ren := {
  mixed := by kernel_rfl
  f215 := Try.func60.trans (congrArg some (by kernel_rfl))
  t3 := Try.underlying3
  a3 := Try.isAgg3
  z3 := Try.sizeOf3
  v3 := Try.zeroValue3
  t4 := Try.underlying4
  a4 := Try.isAgg4
  z4 := Try.sizeOf4
  v4 := Try.zeroValue4 }
open Go.RowKit in
theorem Try.cmp_isNaN_int (x : Int) (w : World) :
    Calls Try.prog 60 #[.int .i64 x] w fun e w' => e = .returned (.bool false) ∧ w' = w := Any.cmp_isNaN_int Try.lays215 x w
def Try.lays122_ren : Go.Shelf.Ren := ⟨fun | 122 => 49 | 215 => 60 | n => n, fun | 3 => 3 | 4 => 4 | n => n, fun | n => n⟩
theorem Try.lays122 : Go.Proofs.Lays.n122 Try.prog Try.lays122_ren := {
  mixed := by kernel_rfl
  f122 := Try.func49.trans (congrArg some (by kernel_rfl))
  f215 := Try.func60.trans (congrArg some (by kernel_rfl))
  t3 := Try.underlying3
  a3 := Try.isAgg3
  z3 := Try.sizeOf3
  v3 := Try.zeroValue3
  t4 := Try.underlying4
  a4 := Try.isAgg4
  z4 := Try.sizeOf4
  v4 := Try.zeroValue4 }
open Go.RowKit in
theorem Try.cmp_Compare_int (x y : Int) (w : World) :
    Calls Try.prog 49 #[.int .i64 x, .int .i64 y] w fun e w' => e = .returned (.int .i64 (Lib.compareInt x y)) ∧ w' = w := Any.cmp_Compare_int Try.lays122 x y w
def Try.lays129_ren : Go.Shelf.Ren := ⟨fun | 129 => 63 | n => n, fun | 53 => 97 | 3 => 3 | 4 => 4 | 46 => 103 | 5 => 5 | 9 => 9 | n => n, fun | n => n⟩
theorem Try.lays129 : Go.Proofs.Lays.n129 Try.prog Try.lays129_ren := {
  mixed := by kernel_rfl
  f129 := Try.func63.trans (congrArg some (by kernel_rfl))
  t3 := Try.underlying3
  a3 := Try.isAgg3
  z3 := Try.sizeOf3
  v3 := Try.zeroValue3
  t4 := Try.underlying4
  a4 := Try.isAgg4
  z4 := Try.sizeOf4
  v4 := Try.zeroValue4
  t5 := Try.underlying5
  a5 := Try.isAgg5
  z5 := Try.sizeOf5
  v5 := Try.zeroValue5
  t9 := Try.underlying9
  a9 := Try.isAgg9
  z9 := Try.sizeOf9
  v9 := Try.zeroValue9
  t46 := Try.underlying103
  a46 := Try.isAgg103
  z46 := Try.sizeOf103
  v46 := Try.zeroValue103
  t53 := Try.underlying97
  a53 := Try.isAgg97
  z53 := Try.sizeOf97
  v53 := Try.zeroValue97 }
theorem Try.bits_Len64 (x : Int) (w : World) (h0 : 0 ≤ x) (h1 : x ≤ 18446744073709551615) :
    Calls Try.prog 63 #[.int .u64 x] w fun e w' => e = .returned (.int .i64 (Lib.bitLen x.toNat)) ∧ w' = w := Any.bits_Len64 Try.lays129 x w h0 h1
def Try.laysM316_ren : Go.Shelf.Ren := ⟨fun | 316 => 71 | n => n, fun | 9 => 9 | 3 => 3 | 4 => 4 | 37 => 74 | 0 => 0 | 127 => 104 | 5 => 5 | n => n, fun | n => n⟩
theorem Try.laysM316 : Go.Proofs.LaysM.n316 Try.prog Try.laysM316_ren := {
  mixed := by kernel_rfl
  f316 := Try.func71.trans (congrArg some (by kernel_rfl))
  t0 := Try.underlying0
  a0 := Try.isAgg0
  z0 := Try.sizeOf0
  v0 := Try.zeroValue0
  t3 := Try.underlying3
  a3 := Try.isAgg3
  z3 := Try.sizeOf3
  v3 := Try.zeroValue3
  t4 := Try.underlying4
  a4 := Try.isAgg4
  z4 := Try.sizeOf4
  v4 := Try.zeroValue4
  t9 := Try.underlying9
  a9 := Try.isAgg9
  z9 := Try.sizeOf9
  v9 := Try.zeroValue9
  t37 := Try.underlying74
  a37 := Try.isAgg74
  z37 := Try.sizeOf74
  v37 := Try.zeroValue74
  t127 := Try.underlying104
  a127 := Try.isAgg104
  z127 := Try.sizeOf104
  v127 := Try.zeroValue104
  t5 := Try.underlying5
  a5 := Try.isAgg5
  z5 := Try.sizeOf5
  v5 := Try.zeroValue5
  i0 := by kernel_rfl
  i3 := by kernel_rfl
  i4 := by kernel_rfl
  i5 := by kernel_rfl
  i9 := by kernel_rfl
  i37 := by kernel_rfl
  i127 := by kernel_rfl }
open Go.RowKit in
theorem Try.stringslite_Clone (s : ByteArray) (w : World) (hlim : s.size ≤ 281474976710656) :
    Calls Try.prog 71 #[.string s] w fun e w' => e = .returned (.string s) ∧ Below w.heap.size w w' := Any.stringslite_Clone Try.laysM316 s w hlim
def Try.laysNm237_ren : Go.Shelf.Ren := ⟨fun | 37 => 60 | n => n, fun | 3 => 3 | 4 => 4 | n => n, fun | n => n⟩
theorem Try.laysNm237 : Go.Proofs.Lays2.n37 Try.prog Try.laysNm237_ren := {
  mixed := by kernel_rfl
  f37 := Try.func60.trans (congrArg some (by kernel_rfl))
  t3 := Try.underlying3
  a3 := Try.isAgg3
  z3 := Try.sizeOf3
  v3 := Try.zeroValue3
  t4 := Try.underlying4
  a4 := Try.isAgg4
  z4 := Try.sizeOf4
  v4 := Try.zeroValue4 }
open Go.RowKit Go.Lib in
theorem Try.cmp_isNaN_int2 (x : Int) (w : World) :
    Calls Try.prog 60 #[.int .i64 x] w fun e w' => e = .returned (.bool false) ∧ w' = w := Any.cmp_isNaN_int2 Try.laysNm237 x w
end Go.Proofs
