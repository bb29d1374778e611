/-
  Plain facts on worlds: what a row of bytes that the call itself made holds, and what stays as it was while such rows grow. Of no program.
  Credit, plainly: a store (its capacity, what is owed, its texts), and what each call answers and leaves.
  Plain facts on worlds: what stays but for some blocks, a block of cells, append to a row of the call's own and where the new row lies. Of no program.
  append to a row of the call's own, of cells that lie anywhere: what it gives, and where the new row lies. Of no program.
  How a store lies; a ring's rows, its room, its first text.
  A ring: a text put behind the last one; the first one taken off.
-/
import Derived.WalkKit
import Derived.WalkSpells
import Derived.Lib.AppendStr
import Derived.WalkLawsBesides
import Derived.Deep.AppendLies
import Derived.Laws.AppendOwnNone
import Derived.Test.YtcogcfnbgicjcaaChecked
import Derived.BigQuiet
import Derived.Deep.RegionHeld3
namespace Go.Proofs.Ytcogcfnbgicjcaa
open Go.RowKit

theorem hide {p : Prop} (h : p) : Hid p := h
theorem unhide {p : Prop} (h : Hid p) : p := h
theorem ret_int {k : IntKind} {a b : Int} (h : a = b) : Ending.returned (.int k a) = .returned (.int k b) := by rw [h]

theorem ret_bool {a b : Bool} (h : a = b) : Ending.returned (.bool a) = .returned (.bool b) := by rw [h]

/-- What stays: all blocks below B, and all that are no rows of the element type e. -/
structure Fr (B e : Nat) (w w' : World) : Prop where
  below : Below B w w'
  other : ∀ k, k < w.heap.size → (∀ cur f, w.heap[k]? ≠ some (.cells cur e f)) → w'.heap[k]? = w.heap[k]?
theorem Fr.refl (B e : Nat) (w : World) : Fr B e w w := ⟨Below.refl _ _, fun _ _ _ => rfl⟩
theorem Fr.trans {B e : Nat} {a b c : World} (h : Fr B e a b) (k : Fr B e b c) : Fr B e a c :=
  ⟨h.below.trans k.below, fun j hj hn => by
    have e1 := h.other j hj hn
    rw [k.other j (by have := h.below.size; omega) (fun cur f => by rw [e1]; exact hn cur f), e1]⟩
theorem Fr.mono {B B' e : Nat} {a b : World} (h : Fr B e a b) (hB : B' ≤ B) : Fr B' e a b := ⟨h.below.mono hB, h.other⟩
theorem Fr.drew {B e : Nat} {a w : World} (h : Fr B e a w) : Fr B e a w.drew := ⟨h.below.drew, h.other⟩
theorem Fr.alloc {B e : Nat} {a w : World} (h : Fr B e a w) (hB : B ≤ w.heap.size) (o : Obj) : Fr B e a (w.alloc o) :=
  ⟨h.below.alloc hB o, fun k hk hn => by rw [Below.heap_alloc _ _ _ (by have := h.below.size; omega)]; exact h.other k hk hn⟩
theorem Fr.grown {B e size n : Nat} {a w w' : World} {v : Value} {xs : List Value} (h : Fr B e a w) (ho : w.ownsRow B e size v n xs) (hg : w.grownBy w' v.ownBlock) (hB : B ≤ w.heap.size) : Fr B e a w' :=
  ⟨h.below.grown hg hB (fun k hk => (ho.lt k hk).1), fun k hk hn => by
    have e1 := h.other k hk hn
    rw [← e1]
    refine hg.block k (by have := h.below.size; omega) fun hv => ?_
    obtain ⟨_, ⟨rfl, _⟩ | ⟨g, cap, cur, rfl, _, hh, _⟩⟩ := ho
    · simp [Value.ownBlock] at hv
    · simp [Value.ownBlock] at hv
      subst hv
      exact hn cur (0, 0) (by rw [← e1]; exact hh)⟩
theorem Fr.size {B e : Nat} {a w : World} (h : Fr B e a w) : a.heap.size ≤ w.heap.size := h.below.size
/-- A block that is no row of that type is there still. -/
theorem Fr.keep {B e k : Nat} {a w : World} (h : Fr B e a w) {cur : Array Value} {t : TypeId} {f : Nat × Nat} (hb : a.heap[k]? = some (.cells cur t f)) (ht : t ≠ e) : w.heap[k]? = some (.cells cur t f) := by
  have hk : k < a.heap.size := by
    rcases Nat.lt_or_ge k a.heap.size with h1 | h1
    · exact h1
    · rw [Array.getElem?_eq_none h1] at hb; cases hb
  rw [h.other k hk (fun c g hc => by rw [hb] at hc; simp at hc; exact ht hc.2.1)]; exact hb

/-- append to a row of the call's own, as one step of a statement whose order is drawn. -/
theorem step_append_own {P : Program} {ops : Array Oper} {o : Oper} {a : Act} {w : World} {K : Act → World → Prop} {Q : Exit → Act → World → Prop} {E : Prop}
    (hg : o.guard = none) (s x : Operand) (t : TypeId) (hop : o.op = Op.call { callee := Callee.builtin Builtin.append, args := #[s, x], argTypes := #[t, t] })
    (base : Nat) (e : TypeId) (i : TypeInfo) (z : Value) (size bytes : Nat) (h1 : P.underlying t = some (.slice e)) (h2 : P.info? e = some i) (h3 : i.zero = some z) (h4 : i.size = size) (h5 : i.bytes = bytes) (h6 : z.cells.size = size) (h7 : 0 < size)
    (v : Value) (n : Nat) (xs : List Value) (hs : a.eval s = v) (hown : w.ownsRow base e size v n xs)
    (ad : Addr) (m c : Nat) (news : List Value) (hx : a.eval x = .slice (some ad) m c) (hn : news.length = m * size) (hc : ∀ j u, news[j]? = some u → w.cell? (ad.add j) = some u) (h1c : ∀ u ∈ news, u.oneCell' = true)
    (b1 : n + m ≤ maxLen) (b2 : (n + m) * bytes ≤ 140737488355328) (hb : base ≤ w.heap.size)
    (hK : ∀ v' w', w'.ownsRow base e size v' (n + m) (xs ++ news) → w.grownBy w' v.ownBlock → K (a.put o.dst v') w') :
    if Region.wanted o (yielded ops a.tmps) = true then Oper.wp P o a w K Q else E := by
  have hw : Region.wanted o (yielded ops a.tmps) = true := by simp [Region.wanted, hg]
  rw [if_pos hw]
  obtain ⟨v', w', hrun, r1, r2, _⟩ := run_append_own (P := P) w base t o.type e i z size bytes h1 h2 h3 h4 h5 h6 h7 v n xs hown ad m c news hn hc h1c b1 b2 hb
  unfold Oper.wp
  simp [execOp, hop, resolve, invoke, builtin, hs, hx, hrun, Result.andThen]
  exact hK v' w' r1 r2

/-- Bytes as cells. -/
def byteC (l : List UInt8) : List Value := l.map fun b => .int .u8 (b.toNat : Int)
theorem byteC_append (a b : List UInt8) : byteC (a ++ b) = byteC a ++ byteC b := by unfold byteC; exact List.map_append
theorem byteC_length (a : List UInt8) : (byteC a).length = a.length := by unfold byteC; exact List.length_map ..
theorem byteC_str (s : ByteArray) : Lib.strCells s = byteC s.data.toList := by
  unfold Lib.strCells byteC; rfl
theorem byteC_one (n : Nat) (h : n < 256) : [Value.int .u8 (n : Int)] = byteC [UInt8.ofNat n] := by
  unfold byteC; simp [Nat.mod_eq_of_lt h]
end Go.Proofs.Ytcogcfnbgicjcaa
namespace Go.Proofs.Ytcogcfnbgicjcaa.Cr

/-- A store, plainly. -/
structure Sto where
  cap : Nat
  owed : Nat
  q : List ByteArray
structure Sto.Ok (s : Sto) : Prop where
  lo : 0 < s.cap
  hi : s.cap ≤ 256
  room : s.q.length + s.owed ≤ s.cap
/-- How many credits are given. -/
def gvN (s : Sto) (most : Int) : Nat := min most.toNat (s.cap - s.q.length - s.owed)
def gvE (most : Int) : Int := if most < 0 then 1 else 0
def gvS (s : Sto) (most : Int) : Sto := ⟨s.cap, s.owed + gvN s most, s.q⟩
def ptE (s : Sto) : Int := if s.owed = 0 then 200 else 0
def ptS (s : Sto) (t : ByteArray) : Sto := if s.owed = 0 then s else ⟨s.cap, s.owed - 1, s.q ++ [t]⟩
def tkE (s : Sto) : Int := if s.q.length = 0 then 5 else 0
def tkT (s : Sto) : ByteArray := s.q.headD ⟨#[]⟩
def tkS (s : Sto) : Sto := ⟨s.cap, s.owed, s.q.tail⟩
theorem gvN_le (s : Sto) (h : s.Ok) (most : Int) : s.q.length + (s.owed + gvN s most) ≤ s.cap := by
  have := h.room
  unfold gvN
  omega
theorem gvN_neg (s : Sto) {most : Int} (h : most < 0) : gvN s most = 0 := by
  unfold gvN
  omega
theorem gvS_neg (s : Sto) {most : Int} (h : most < 0) : gvS s most = s := by
  unfold gvS
  rw [gvN_neg s h]
  rfl
theorem Sto.Ok.gv {s : Sto} (h : s.Ok) (most : Int) : (gvS s most).Ok := ⟨h.lo, h.hi, gvN_le s h most⟩
theorem Sto.Ok.pt {s : Sto} (h : s.Ok) (t : ByteArray) : (ptS s t).Ok := by
  unfold ptS
  split
  · exact h
  · refine ⟨h.lo, h.hi, ?_⟩
    have := h.room
    simp only [List.length_append, List.length_singleton]
    omega
theorem Sto.Ok.tk {s : Sto} (h : s.Ok) : (tkS s).Ok := by
  refine ⟨h.lo, h.hi, ?_⟩
  have := h.room
  simp only [tkS, List.length_tail]
  omega
/-- A number's rest, as Go reckons it. -/
theorem tmod_nat (a b : Nat) : (a : Int).tmod (b : Int) = ((a % b : Nat) : Int) := rfl
theorem mod_ne {f i j c : Nat} (hf : f < c) (hi : i < c) (hj : j < c) (h : (f + i) % c = (f + j) % c) : i = j := by
  have e1 : (f + i) % c = if f + i < c then f + i else f + i - c := by
    split
    · exact Nat.mod_eq_of_lt (by omega)
    · rw [Nat.mod_eq_sub_mod (by omega), Nat.mod_eq_of_lt (by omega)]
  have e2 : (f + j) % c = if f + j < c then f + j else f + j - c := by
    split
    · exact Nat.mod_eq_of_lt (by omega)
    · rw [Nat.mod_eq_sub_mod (by omega), Nat.mod_eq_of_lt (by omega)]
  rw [e1, e2] at h
  split at h <;> split at h <;> omega
end Go.Proofs.Ytcogcfnbgicjcaa.Cr
namespace Go.Proofs.Ytcogcfnbgicjcaa
open Go.RowKit

/-- What stays: all blocks but some. -/
structure Kp (F : List Nat) (w w' : World) : Prop where
  os : w'.os = w.os
  tape : w'.tape = w.tape
  output : w'.output = w.output
  size : w.heap.size ≤ w'.heap.size
  block : ∀ k, k < w.heap.size → k ∉ F → w'.heap[k]? = w.heap[k]?
theorem Kp.refl (F : List Nat) (w : World) : Kp F w w := ⟨rfl, rfl, rfl, Nat.le_refl _, fun _ _ _ => rfl⟩
theorem Kp.trans {F G : List Nat} {a b c : World} (h : Kp F a b) (k : Kp G b c) (hG : ∀ x ∈ G, x ∈ F ∨ a.heap.size ≤ x) : Kp F a c :=
  ⟨k.os.trans h.os, k.tape.trans h.tape, k.output.trans h.output, Nat.le_trans h.size k.size, fun i hi hn =>
    (k.block i (Nat.lt_of_lt_of_le hi h.size) (fun hm => (hG i hm).elim hn (fun h1 => by omega))).trans (h.block i hi hn)⟩
theorem Kp.mono {F G : List Nat} {a b : World} (h : Kp F a b) (hG : ∀ x ∈ F, x ∈ G) : Kp G a b := ⟨h.os, h.tape, h.output, h.size, fun i hi hn => h.block i hi (fun hm => hn (hG i hm))⟩
theorem Kp.of {w w' : World} {row : Option Nat} (h : w.grownBy w' row) : Kp row.toList w w' := ⟨h.os, h.tape, h.output, h.size, fun i hi hn => h.block i hi (fun e => hn (by rw [← e]; simp))⟩
theorem Kp.alloc (w : World) (o : Obj) : Kp [] w (w.alloc o) := Kp.of (World.grownBy_alloc w o none)
theorem Kp.drew (w : World) : Kp [] w w.drew := ⟨rfl, rfl, rfl, Nat.le_refl _, fun _ _ _ => rfl⟩
theorem Kp.below {F : List Nat} {B : Nat} {w w' : World} (h : Kp F w w') (hB : B ≤ w.heap.size) (hF : ∀ k ∈ F, B ≤ k) : Below B w w' :=
  ⟨h.os, h.tape, h.output, h.size, fun k hk => h.block k (by omega) (fun hm => by have := hF k hm; omega)⟩
theorem Kp.ofBelow {w w' : World} (h : Below w.heap.size w w') : Kp [] w w' := ⟨h.os, h.tape, h.output, h.size, fun k hk _ => h.block k hk⟩
theorem Kp.cell {F : List Nat} {w w' : World} (h : Kp F w w') {p : Addr} {v : Value} (hc : w.cell? p = some v) (hp : p.block ∉ F) : w'.cell? p = some v :=
  (World.cell?_of_block (h.block p.block (World.block_lt_of_cell? w p hc) hp)).trans hc
/-- The box of a change lies there. -/
def CBox (g : Nat) (cs : Array Value) (t : TypeId) (w : World) : Prop := w.heap[g]? = some (.cells cs t (0, 0))
theorem CBox.cell {g : Nat} {cs : Array Value} {t : TypeId} {w : World} (h : CBox g cs t w) {i : Nat} {v : Value} (hv : cs[i]? = some v) : w.cell? ⟨g, i, none⟩ = some v := by
  unfold CBox at h
  simp [World.cell?, h, hv]
theorem CBox.kp {g : Nat} {cs : Array Value} {t : TypeId} {w w' : World} {F : List Nat} (h : CBox g cs t w) (hk : Kp F w w') (hF : g ∉ F) : CBox g cs t w' := (hk.block g (Array.getElem?_eq_some_iff.1 h).1 hF).trans h
theorem CBox.new (w : World) (cs : Array Value) (t : TypeId) : CBox w.heap.size cs t (w.alloc (.cells cs t)) := heap_alloc_new w _
theorem CBox.set {g : Nat} {cs : Array Value} {t : TypeId} {w : World} (h : CBox g cs t w) (i : Nat) (v : Value) : CBox g (cs.setIfInBounds i v) t (w.setCell ⟨g, i, none⟩ v) := by
  unfold CBox at *
  unfold World.setCell
  simp [h, Array.getElem?_modify]
theorem CBox.froz {g : Nat} {cs : Array Value} {t : TypeId} {w : World} (h : CBox g cs t w) (i : Nat) : w.frozen? ⟨g, i, none⟩ = false := by
  unfold CBox at h
  simp [World.frozen?, h]
theorem Kp.set (w : World) (p i : Nat) (v : Value) : Kp [p] w (w.setCell ⟨p, i, none⟩ v) :=
  ⟨rfl, rfl, rfl, by simp [World.setCell], fun k _ hn => Below.heap_setCell _ _ _ _ (by simpa using hn)⟩
theorem Kp.drewQ (w : World) (n : Nat) : Kp [] w (w.drewN n) := ⟨rfl, rfl, rfl, Nat.le_refl _, fun _ _ _ => rfl⟩
/-- append to a row of the call's own, as one step of a statement whose order is drawn; where the new row lies. -/
theorem step_append_lies {P : Program} {ops : Array Oper} {o : Oper} {a : Act} {w : World} {K : Act → World → Prop} {Q : Exit → Act → World → Prop} {E : Prop}
    (hg : o.guard = none) (s x : Operand) (t : TypeId) (hop : o.op = Op.call { callee := Callee.builtin Builtin.append, args := #[s, x], argTypes := #[t, t] })
    (base : Nat) (e : TypeId) (i : TypeInfo) (z : Value) (size bytes : Nat) (h1 : P.underlying t = some (.slice e)) (h2 : P.info? e = some i) (h3 : i.zero = some z) (h4 : i.size = size) (h5 : i.bytes = bytes) (h6 : z.cells.size = size) (h7 : 0 < size)
    (v : Value) (n : Nat) (xs : List Value) (hs : a.eval s = v) (hown : w.ownsRow base e size v n xs)
    (ad : Addr) (m c : Nat) (news : List Value) (hx : a.eval x = .slice (some ad) m c) (hn : news.length = m * size) (hc : ∀ j u, news[j]? = some u → w.cell? (ad.add j) = some u) (h1c : ∀ u ∈ news, u.oneCell' = true) (hm : 0 < m)
    (b1 : n + m ≤ maxLen) (b2 : (n + m) * bytes ≤ 140737488355328) (hb : base ≤ w.heap.size)
    (hK : ∀ g cap w', w'.ownsRow base e size (.slice (some ⟨g, 0, none⟩) (n + m) cap) (n + m) (xs ++ news) → w.grownBy w' v.ownBlock → (v.ownBlock = some g ∨ g = w.heap.size) → K (a.put o.dst (.slice (some ⟨g, 0, none⟩) (n + m) cap)) w') :
    if Region.wanted o (yielded ops a.tmps) = true then Oper.wp P o a w K Q else E := by
  have hw : Region.wanted o (yielded ops a.tmps) = true := by simp [Region.wanted, hg]
  rw [if_pos hw]
  obtain ⟨g, cap, w', hrun, r1, r2, r3, _⟩ := run_append_lies (P := P) (w := w) t o.type base e i z size bytes h1 h2 h3 h4 h5 h6 h7 v n xs hown ad m c news hn hc h1c hm b1 b2 hb _ rfl
  unfold Oper.wp
  simp [execOp, hop, resolve, invoke, builtin, hs, hx, hrun, Result.andThen]
  exact hK g cap w' r1 r2 r3
theorem one_new (w : World) (x : Value) (t : TypeId) : ∀ (j : Nat) (u : Value), [x][j]? = some u → (w.alloc (.cells #[x] t)).cell? ((⟨w.heap.size, 0, none⟩ : Addr).add j) = some u := fun j u hj => by
  match j, hj with
  | 0, hj =>
    simp at hj
    subst hj
    exact (CBox.new w #[x] t).cell rfl
end Go.Proofs.Ytcogcfnbgicjcaa
namespace Go.Proofs.Ytcogcfnbgicjcaa
open Go.RowKit

theorem run_app_any {P : Program} {w : World} (t ty e : TypeId) (i : TypeInfo) (z : Value) (size bytes : Nat) (h1 : P.underlying t = some (.slice e)) (h2 : P.info? e = some i) (h3 : i.zero = some z) (h4 : i.size = size) (h5 : i.bytes = bytes) (h6 : z.cells.size = size) (h7 : 0 < size)
    {g2 n2 cap2 : Nat} {xs : List Value} (ho : w.ownsRow 0 e size (.slice (some ⟨g2, 0, none⟩) n2 cap2) n2 xs)
    (ad : Option Addr) (m c : Nat) (news : List Value) (hn : news.length = m * size) (hnone : ad = none → m = 0 ∧ c = 0) (hsp : ∀ a, ad = some a → a.spot = none) (hc : ∀ a, ad = some a → ∀ j u, news[j]? = some u → w.cell? (a.add j) = some u) (h1c : ∀ u ∈ news, u.oneCell' = true)
    (b1 : n2 + m ≤ maxLen) (b2 : (n2 + m) * bytes ≤ 140737488355328) :
    ∃ g cap w', (Builtin.append_ #[t, t] ty #[.slice (some ⟨g2, 0, none⟩) n2 cap2, .slice ad m c]).run P w = .ok (.slice (some ⟨g, 0, none⟩) (n2 + m) cap) w' ∧ w'.ownsRow 0 e size (.slice (some ⟨g, 0, none⟩) (n2 + m) cap) (n2 + m) (xs ++ news) ∧ w.grownBy w' (some g2) ∧ (g = g2 ∨ g = w.heap.size) := by
  have hcp : n2 ≤ cap2 := by
    obtain ⟨_, ⟨e, _⟩ | ⟨g, cp, cur, e, _, _, hn, _⟩⟩ := id ho
    · cases e
    · injection e with _ e2 e3; omega
  cases ad with
  | none =>
    obtain ⟨rfl, rfl⟩ := hnone rfl
    obtain rfl : news = [] := List.eq_nil_of_length_eq_zero (by omega)
    exact ⟨g2, cap2, w, by simpa using run_append_owned_none (P := P) (w := w) 0 t ty e i size h1 h2 _ _ _ ho, by simpa using ho, World.grownBy.refl _ _, Or.inl rfl⟩
  | some a =>
    obtain ⟨b, off, spot⟩ := a
    obtain rfl : spot = none := hsp _ rfl
    rcases Nat.eq_zero_or_pos m with h0 | hpos
    · subst h0
      obtain rfl : news = [] := List.eq_nil_of_length_eq_zero (by omega)
      have := run_append_room_cells (P := P) (w := w) t ty e i h1 h2 g2 0 n2 cap2 ⟨b, off, none⟩ 0 c [] (by simp) (fun j u hj => by simp at hj) (fun u hu => by cases hu) (by omega) (fun j hj => absurd hj (by simp)) (fun j hj => absurd hj (by simp))
      exact ⟨g2, cap2, w, by simpa [World.setCells] using this, by simpa using ho, World.grownBy.refl _ _, Or.inl rfl⟩
    · obtain ⟨g3, cap3, w', hr, r1, r2, r3, _⟩ := run_append_lies (P := P) (w := w) t ty 0 e i z size bytes h1 h2 h3 h4 h5 h6 h7 _ _ _ ho ⟨b, off, none⟩ m c news hn (hc _ rfl) h1c hpos b1 b2 (Nat.zero_le _) _ rfl
      refine ⟨g3, cap3, w', hr, r1, r2, ?_⟩
      rcases r3 with r3 | r3
      · exact Or.inl (by simpa [Value.ownBlock] using r3.symm)
      · exact Or.inr r3
/-- The same, as one step of a statement whose order is drawn. -/
theorem step_app_any {P : Program} {ops : Array Oper} {o : Oper} {a : Act} {w : World} {K : Act → World → Prop} {Q : Exit → Act → World → Prop} {E : Prop}
    (hg : o.guard = none) (s x : Operand) (t : TypeId) (hop : o.op = Op.call { callee := Callee.builtin Builtin.append, args := #[s, x], argTypes := #[t, t] })
    (e : TypeId) (i : TypeInfo) (z : Value) (size bytes : Nat) (h1 : P.underlying t = some (.slice e)) (h2 : P.info? e = some i) (h3 : i.zero = some z) (h4 : i.size = size) (h5 : i.bytes = bytes) (h6 : z.cells.size = size) (h7 : 0 < size)
    {g2 n2 cap2 : Nat} {xs : List Value} (hs : a.eval s = .slice (some ⟨g2, 0, none⟩) n2 cap2) (ho : w.ownsRow 0 e size (.slice (some ⟨g2, 0, none⟩) n2 cap2) n2 xs)
    (ad : Option Addr) (m c : Nat) (news : List Value) (hx : a.eval x = .slice ad m c) (hn : news.length = m * size) (hnone : ad = none → m = 0 ∧ c = 0) (hsp : ∀ a, ad = some a → a.spot = none) (hc : ∀ a, ad = some a → ∀ j u, news[j]? = some u → w.cell? (a.add j) = some u) (h1c : ∀ u ∈ news, u.oneCell' = true)
    (b1 : n2 + m ≤ maxLen) (b2 : (n2 + m) * bytes ≤ 140737488355328) (N : Nat) (hN : n2 + m = N)
    (hK : ∀ g cap w', w'.ownsRow 0 e size (.slice (some ⟨g, 0, none⟩) N cap) N (xs ++ news) → w.grownBy w' (some g2) → (g = g2 ∨ g = w.heap.size) → K (a.put o.dst (.slice (some ⟨g, 0, none⟩) N cap)) w') :
    if Region.wanted o (yielded ops a.tmps) = true then Oper.wp P o a w K Q else E := by
  subst hN
  have hw : Region.wanted o (yielded ops a.tmps) = true := by simp [Region.wanted, hg]
  rw [if_pos hw]
  obtain ⟨g, cap, w', hrun, r1, r2, r3⟩ := run_app_any (P := P) (w := w) t o.type e i z size bytes h1 h2 h3 h4 h5 h6 h7 ho ad m c news hn hnone hsp hc h1c b1 b2
  unfold Oper.wp
  simp [execOp, hop, resolve, invoke, builtin, hs, hx, hrun, Result.andThen]
  exact hK g cap w' r1 r2 r3
/-- append, by its run. -/
theorem wpList_app_run {P : Program} {ops : Array Oper} {rest : List Oper} {o : Oper} {a : Act} {w w' : World} {Q : Exit → Act → World → Prop} {v u1 u2 : Value} (hgd : o.guard = none) (s x : Operand) (t : TypeId)
    (ho : o.op = .call { callee := .builtin .append, args := #[s, x], argTypes := #[t, t] }) (hs : a.eval s = u1) (hx : a.eval x = u2) (hr : (Builtin.append_ #[t, t] o.type #[u1, u2]).run P w = .ok v w')
    (h : wpList P ops Q rest (a.put o.dst v) w') : wpList P ops Q (o :: rest) a w :=
  wpList_plain hgd fun _ hK => by
    unfold Oper.wp
    simp [execOp, ho, resolve, invoke, builtin, hs, hx, hr, Result.andThen]
    exact hK _ _ h
/-- What stays while a row of the call's own grows. -/
theorem kp_gr {wx W w5 : World} {g2 : Nat} (hk : Kp [] wx W) (hg : W.grownBy w5 (some g2)) (hle : wx.heap.size ≤ g2) : Kp [] wx w5 := hk.trans (Kp.of hg) (by simp; omega)
end Go.Proofs.Ytcogcfnbgicjcaa
namespace Go.Proofs.Ytcogcfnbgicjcaa
open Go.RowKit Cr

/-- A store lies there: a block of 260 cells: 256 texts, the size, the first one's row, how many, what is owed. -/
structure CrV (w : World) (b : Nat) (cs : Array Value) (f : Nat) (s : Sto) : Prop where
  box : CBox b cs 60 w
  sz : cs.size = 260
  c0 : cs[256]? = some (.int .i64 (s.cap : Int))
  c1 : cs[257]? = some (.int .i64 (f : Int))
  c2 : cs[258]? = some (.int .i64 (s.q.length : Int))
  c3 : cs[259]? = some (.int .i64 (s.owed : Int))
  fi : f < s.cap
  tx : ∀ i (h : i < s.q.length), cs[(f + i) % s.cap]? = some (.string s.q[i])
  ok : s.Ok
/-- A store of the call's own lies there. -/
def CrAt (w : World) (b : Nat) (s : Sto) : Prop := ∃ cs f, CrV w b cs f s
theorem CrV.kp {w w' : World} {b : Nat} {cs : Array Value} {f : Nat} {s : Sto} {F : List Nat} (h : CrV w b cs f s) (hk : Kp F w w') (hF : b ∉ F) : CrV w' b cs f s :=
  { h with box := h.box.kp hk hF }
theorem CrAt.kp {w w' : World} {b : Nat} {s : Sto} {F : List Nat} (h : CrAt w b s) (hk : Kp F w w') (hF : b ∉ F) : CrAt w' b s := by
  obtain ⟨cs, f, h⟩ := h
  exact ⟨cs, f, h.kp hk hF⟩
theorem CrAt.lt {w : World} {b : Nat} {s : Sto} (h : CrAt w b s) : b < w.heap.size := by
  obtain ⟨cs, f, h⟩ := h
  exact (Array.getElem?_eq_some_iff.1 h.box).1
theorem arr_len : Try.prog.arrayLen 56 = 256 := by kernel_rfl
theorem arr_und : Try.prog.underlying 56 = some (.array (Try.prog.arrayLen 56) (Try.prog.elem 56)) := by kernel_rfl
theorem arr_size (w : World) : (sizeOf (Try.prog.elem 56)).run Try.prog w = .ok 1 w := by kernel_rfl
/-- The array's first rows, sliced by three numbers. -/
theorem rows_run (b cap : Nat) (h1 : cap ≤ 256) (W : World) : (Instr.sliceAt 56 (.pointer (some ⟨b, 0, none⟩)) none (some (.int .i64 (cap : Int))) (some (.int .i64 (cap : Int)))).run Try.prog W = .ok (.slice (some ⟨b, 0, none⟩) cap cap) W := by
  have h3 : (cap : Int) ≤ ((Try.prog.arrayLen 56 : Nat) : Int) := by rw [arr_len]; omega
  rw [run_sliceAt_array_hm W 56 ⟨b, 0, none⟩ arr_und .i64 .i64 (cap : Int) (cap : Int) (by omega) (Int.le_refl _) h3, arr_size]
  show Result.ok (slicedAt ⟨b, 0, none⟩ 0 (cap : Int).toNat (cap : Int).toNat 1) W = _
  unfold slicedAt
  rw [Int.toNat_natCast, Nat.sub_zero, Nat.zero_mul]
  congr 3
  split <;> rfl
theorem cRows_any (b cap : Nat) (w : World) (hc : w.cell? ⟨b, 256, none⟩ = some (.int .i64 (cap : Int))) (h1 : cap ≤ 256) :
    Calls Try.prog 32 #[.pointer (some ⟨b, 0, none⟩)] w fun e w' => e = .returned (.slice (some ⟨b, 0, none⟩) cap cap) ∧ ∃ n, w' = w.drewN n := by
  have SL := rows_run b cap h1
  go_enter Try.func32, Try.ntmps32
  go_wp2
  go_quiet (fail)
  go_wp2
  go_ret
  exact ⟨rfl, _, rfl⟩
theorem cFree_any (b cap n : Nat) (w : World) (hc : w.cell? ⟨b, 256, none⟩ = some (.int .i64 (cap : Int))) (hn : w.cell? ⟨b, 258, none⟩ = some (.int .i64 (n : Int))) (h0 : n ≤ cap) (h1 : cap ≤ 256) :
    Calls Try.prog 30 #[.pointer (some ⟨b, 0, none⟩)] w fun e w' => e = .returned (.int .i64 ((cap : Int) - (n : Int))) ∧ ∃ n, w' = w.drewN n := by
  go_enter Try.func30, Try.ntmps30
  go_wp2
  go_quiet (fail)
  go_wp2
  go_ret
  exact ⟨rfl, _, rfl⟩
set_option maxHeartbeats 1000000 in
theorem cFront_any (b cap f : Nat) (x : ByteArray) (w : World) (hc : w.cell? ⟨b, 256, none⟩ = some (.int .i64 (cap : Int))) (hf : w.cell? ⟨b, 257, none⟩ = some (.int .i64 (f : Int))) (hx : w.cell? ⟨b, f, none⟩ = some (.string x)) (h0 : f < cap) (h1 : cap ≤ 256) :
    Calls Try.prog 31 #[.pointer (some ⟨b, 0, none⟩)] w fun e w' => e = .returned (.string x) ∧ ∃ n, w' = w.drewN n := by
  have RW := hide (fun n => cRows_any b cap (w.drewN n) hc h1)
  go_enter Try.func31, Try.ntmps31
  go_wp2
  go_quiet (first | (go_at_call 32; exact Calls.quiet_of (unhide RW _)))
  go_wp2
  go_ret
  exact ⟨rfl, _, rfl⟩
end Go.Proofs.Ytcogcfnbgicjcaa
namespace Go.Proofs.Ytcogcfnbgicjcaa
open Go.RowKit Cr

theorem wrap_add {a b : Int} (h0 : 0 ≤ a) (h1 : 0 ≤ b) (ha : a ≤ 4294967296) (hb : b ≤ 4294967296) : IntKind.i64.wrap (a + b) = a + b := by
  simp [IntKind.wrap, IntKind.signed, go_sem]
  omega
set_option maxHeartbeats 1000000 in
theorem cPush_cells (b cap f n g : Nat) (t : ByteArray) (old : Value) (w : World) (hc : w.cell? ⟨b, 256, none⟩ = some (.int .i64 (cap : Int))) (hf : w.cell? ⟨b, 257, none⟩ = some (.int .i64 (f : Int))) (hn : w.cell? ⟨b, 258, none⟩ = some (.int .i64 (n : Int))) (ho : w.cell? ⟨b, g, none⟩ = some old)
    (hz : w.frozen? ⟨b, g, none⟩ = false) (hz2 : w.frozen? ⟨b, 258, none⟩ = false) (hg : ((f : Int) + (n : Int)).tmod (cap : Int) = (g : Int)) (hgc : g < cap) (h1 : cap ≤ 256) (hfc : f < cap) (hnc : n < cap)
    (hS : (w.setCell ⟨b, g, none⟩ (.string t)).cell? ⟨b, 256, none⟩ = some (.int .i64 (cap : Int)) ∧ (w.setCell ⟨b, g, none⟩ (.string t)).cell? ⟨b, 257, none⟩ = some (.int .i64 (f : Int)) ∧ (w.setCell ⟨b, g, none⟩ (.string t)).cell? ⟨b, 258, none⟩ = some (.int .i64 (n : Int))) :
    Calls Try.prog 27 #[.pointer (some ⟨b, 0, none⟩), .string t] w fun e w' => (∃ v, e = .returned v) ∧ ∃ k, w' = ((w.drewN k).setCell ⟨b, g, none⟩ (.string t)).setCell ⟨b, 258, none⟩ (.int .i64 ((n : Int) + 1)) := by
  have RW := hide (fun n => cRows_any b cap (w.drewN n) hc h1)
  have hw : (IntKind.i64.wrap ((f : Int) + (n : Int))).tmod (cap : Int) = (g : Int) := by rw [wrap_add (by omega) (by omega) (by omega) (by omega)]; exact hg
  have hne1 : ¬ (cap : Int) = 0 := by omega
  have hne2 : ¬ cap = 0 := by omega
  have hgi : (g : Int) < (cap : Int) := by omega
  have hg0 : (0 : Int) ≤ (g : Int) := by omega
  clear hg
  go_enter Try.func27, Try.ntmps27
  go_wp2_with fail
  go_region_held3 (fun W => W.cell? ⟨b, 256, none⟩ = some (.int .i64 (cap : Int)) ∧ W.cell? ⟨b, 257, none⟩ = some (.int .i64 (f : Int)) ∧ W.cell? ⟨b, 258, none⟩ = some (.int .i64 (n : Int)))
    (first | exact ⟨hc, hf, hn⟩ | exact hS)
    (first | (go_at_call 32; refine (unhide RW 1).mono ?_; rintro r w1 ⟨rfl, n1, rfl⟩))
  have hn1 := hS.2.2
  go_wp2
  go_end0
  exact ⟨⟨_, rfl⟩, _, rfl⟩
theorem Kp.cellQ (w : World) (n : Nat) (p : Addr) : (w.drewN n).cell? p = w.cell? p := rfl
/-- A text put behind the last one. -/
theorem cPush_any (b : Nat) (s : Sto) (t : ByteArray) (w : World) (h : CrAt w b s) (hr : s.q.length + s.owed < s.cap) :
    Calls Try.prog 27 #[.pointer (some ⟨b, 0, none⟩), .string t] w fun e w' => (∃ v, e = .returned v) ∧ CrAt w' b ⟨s.cap, s.owed, s.q ++ [t]⟩ ∧ Kp [b] w w' := by
  obtain ⟨cs, f, h⟩ := h
  have hi := h.ok.hi
  have lo := h.ok.lo
  have fi := h.fi
  obtain ⟨g, hg⟩ : ∃ g, g = (f + s.q.length) % s.cap := ⟨_, rfl⟩
  have hgc : g < s.cap := by rw [hg]; exact Nat.mod_lt _ lo
  have hgs : g < cs.size := by rw [h.sz]; omega
  have e1 : ∀ j, g ≠ j → (cs.setIfInBounds g (.string t))[j]? = cs[j]? := fun j hj => Array.getElem?_setIfInBounds_ne hj
  have b1 := h.box.set g (.string t)
  refine (cPush_cells b s.cap f s.q.length g t cs[g] w (h.box.cell h.c0) (h.box.cell h.c1) (h.box.cell h.c2) (h.box.cell (Array.getElem?_eq_getElem hgs)) (h.box.froz _) (h.box.froz _) (by rw [← Int.natCast_add, tmod_nat, hg]) hgc hi fi (by omega)
    ⟨b1.cell (by rw [e1 _ (by omega)]; exact h.c0), b1.cell (by rw [e1 _ (by omega)]; exact h.c1), b1.cell (by rw [e1 _ (by omega)]; exact h.c2)⟩).mono ?_
  rintro e w' ⟨he, k, rfl⟩
  have k1 := Kp.drewQ w k
  have b2 := ((h.box.kp k1 (by simp)).set g (.string t)).set 258 (.int .i64 ((s.q.length : Int) + 1))
  refine ⟨he, ⟨_, f, b2, by simp [h.sz], ?_, ?_, ?_, ?_, fi, ?_, ⟨lo, hi, ?_⟩⟩, ((k1.mono (by simp)).trans (Kp.set _ b _ _) (by simp)).trans (Kp.set _ b _ _) (by simp)⟩
  · rw [Array.getElem?_setIfInBounds_ne (by omega), e1 _ (by omega)]; exact h.c0
  · rw [Array.getElem?_setIfInBounds_ne (by omega), e1 _ (by omega)]; exact h.c1
  · rw [Array.getElem?_setIfInBounds_self_of_lt (by simp [h.sz])]
    simp
  · rw [Array.getElem?_setIfInBounds_ne (by omega), e1 _ (by omega)]; exact h.c3
  · intro i hi2
    have hi2 : i < (s.q ++ [t]).length := hi2
    have hm : (f + i) % s.cap < s.cap := Nat.mod_lt _ lo
    show ((cs.setIfInBounds g (.string t)).setIfInBounds 258 _)[(f + i) % s.cap]? = some (.string (s.q ++ [t])[i])
    rw [Array.getElem?_setIfInBounds_ne (by omega)]
    simp only [List.length_append, List.length_singleton] at hi2
    rcases Nat.lt_or_ge i s.q.length with h3 | h3
    · rw [e1 _ (fun e => by have := mod_ne fi (by omega) (by omega) (hg.symm.trans e); omega), h.tx i h3, List.getElem_append_left h3]
    · obtain rfl : i = s.q.length := by omega
      rw [← hg, Array.getElem?_setIfInBounds_self_of_lt hgs]
      simp
  · simp only [List.length_append, List.length_singleton]
    omega
end Go.Proofs.Ytcogcfnbgicjcaa
